/- Walks over disk.go: Read, Cut, Remove. The walk over disk.go: Sync. The walk over disk.go: Crash. -/
import Derived.Test.YtmpahgklcabihaaGreatDTwo
namespace Go.Proofs.YtmpahgklcabihaaGreat.Dk
open Go.RowKit Go.Maps Go.Joins

theorem getL_strip (k : Bs) (l : List (Bs × Ent)) : getL k (l.map fun p => (p.1, p.2.2)) = (getL k l).map (·.2) := getL_map (fun x : Ent => x.2) k l
theorem named_size' {s : ByteArray} (h : named s.data.toList = true) : s.size ≤ 32 := by
  simp only [named, Bool.and_eq_true, decide_eq_true_eq] at h
  rw [Lib.size_eq]; exact h.1.2

theorem le_sumL' {α : Type} (g : α → Nat) : ∀ {l : List (Bs × α)} {p : Bs × α}, p ∈ l → g p.2 ≤ sumL g l
  | q :: r, p, h => by
    simp only [sumL, List.map_cons, List.sum_cons]
    rcases List.mem_cons.1 h with rfl | h
    · omega
    · have := le_sumL' g h; simp only [sumL] at this; omega
theorem ownBlock_len (ad : Option Addr) (n c m c' : Nat) : (Value.slice ad n c).ownBlock = (Value.slice ad m c').ownBlock := by cases ad <;> rfl
/-- what a file's row is, opened -/
theorem RowOk.open {w : World} {own : Nat → Prop} {v : Value} {f : Fil} (h : RowOk w own (v, f)) : ∃ ad cap, v = .slice ad f.data.length cap ∧ (ad = none → cap = 0) ∧ f.data.length ≤ cap ∧ cap ≤ 9223372036854775807 := by
  rcases h.1.2 with ⟨e, h0⟩ | ⟨g, cap', cur, e, _, _, h1, h2, _⟩
  · simp only at e h0
    exact ⟨none, 0, by rw [e, h0], fun _ => rfl, by omega, by omega⟩
  · simp only at e h1 h2
    unfold maxLen at h2
    exact ⟨_, cap', e, by simp, h1, by omega⟩

set_option maxRecDepth 100000 in
set_option maxHeartbeats 1600000 in
theorem read_any {own : Nat → Prop} {bd : Nat} {S : St} (w : World) (h : Held w own bd S) (s : ByteArray) (hs : s.size ≤ 140737488351232) :
    Calls Tryz.prog 37 #[.pointer (some ⟨bd, 0, none⟩), .string s] w fun e w' => e = .returned (.tuple #[.string ⟨(S.read s.data.toList).1.toArray⟩, .int .i64 (S.read s.data.toList).2]) ∧ Below w.heap.size w w' := by
  obtain ⟨bm, l, hL, hfl, hok⟩ := h
  have hF := find_any w hL s hs
  obtain ⟨R, hR⟩ : ∃ R, R = S.read s.data.toList := ⟨_, rfl⟩
  rw [← hR]
  have hRn : named s.data.toList = false → R = ([], 20) := fun hn => by rw [hR]; simp [St.read, hn]
  have hRm : named s.data.toList = true → getL s.data.toList l = none → R = ([], 5) := fun hn hg => by rw [hR, St.read, if_neg (by rw [hn]; simp), hfl, getL_strip, hg]; rfl
  have hRs : ∀ v f, named s.data.toList = true → getL s.data.toList l = some (v, f) → R = (f.data, 0) := fun v f hn hg => by rw [hR, St.read, if_neg (by rw [hn]; simp), hfl, getL_strip, hg]; rfl
  clear hR hfl
  cases hnm : named s.data.toList
  · have hv : findV l s.data.toList = .tuple #[noFile, .int .i64 20] := by simp [findV, hnm]
    have HV := hide (hRn hnm)
    rw [hv] at hF
    clear hv hRn hRm hRs
    go_enter Tryz.func37, Tryz.ntmps37
    go_wp2_with fail
    refine hF.mono ?_
    rintro e w1 ⟨rfl, hb1⟩
    clear hF
    have hz1 := hb1.size
    go_wp2
    go_ret2
    rw [HV.out]
    exact ⟨rfl, hb1.alloc hz1 _⟩
  · cases hgl : getL s.data.toList l with
    | none =>
      have hv : findV l s.data.toList = .tuple #[noFile, .int .i64 5] := by simp [findV, hnm, hgl]
      have HV := hide (hRm hnm hgl)
      rw [hv] at hF
      clear hv hRn hRm hRs
      go_enter Tryz.func37, Tryz.ntmps37
      go_wp2_with fail
      refine hF.mono ?_
      rintro e w1 ⟨rfl, hb1⟩
      clear hF
      have hz1 := hb1.size
      go_wp2
      go_ret2
      rw [HV.out]
      exact ⟨rfl, hb1.alloc hz1 _⟩
    | some x =>
      obtain ⟨v, f⟩ := x
      have hrow : RowOk w own (v, f) := hL.rows.1 _ (getL_some hgl)
      obtain ⟨ad, cap, rfl, _⟩ := hrow.open
      have hv : findV l s.data.toList = .tuple #[FV (.slice ad f.data.length cap) f.safe, .int .i64 0] := by simp [findV, hnm, hgl]
      have HV := hide (hRs _ _ hnm hgl)
      rw [hv] at hF
      clear hv hRn hRm hRs
      go_enter Tryz.func37, Tryz.ntmps37
      go_wp2_with fail
      refine hF.mono ?_
      rintro e w1 ⟨rfl, hb1⟩
      clear hF
      have hz1 := hb1.size
      have hcv := conv_own (ownsRow_stay hrow.1 (w' := w1.alloc (.cells #[.slice ad f.data.length cap, .int .i64 f.safe] 131)) fun g hg => (Below.heap_alloc w1 _ g (Nat.lt_of_lt_of_le (hrow.lt hg) hz1)).trans (hb1.block g (hrow.lt hg)))
      go_wp2
      go_ret2
      rw [HV.out]
      exact ⟨rfl, hb1.alloc hz1 _⟩

set_option maxRecDepth 100000 in
set_option maxHeartbeats 3200000 in
theorem cut_any {own : Nat → Prop} {bd : Nat} {S : St} (w : World) (h : Held w own bd S) (_ : Fresh own w) (s : ByteArray) (n : Int) (hs : s.size ≤ 140737488351232) (n0 : -9223372036854775808 ≤ n) (n1 : n ≤ 9223372036854775807) :
    Calls Tryz.prog 93 #[.pointer (some ⟨bd, 0, none⟩), .string s, .int .i64 n] w fun e w' => e = .returned (.int .i64 (S.cut s.data.toList n).1) ∧ Held w' own bd (S.cut s.data.toList n).2 ∧ Only own w w' := by
  have HOK := hide (h.ok.cut s.data.toList n)
  obtain ⟨bm, l, hL, hfl, hok⟩ := h
  have hF := find_any w hL s hs
  obtain ⟨R, hR⟩ : ∃ R, R = S.cut s.data.toList n := ⟨_, rfl⟩
  rw [← hR] at HOK ⊢
  have hRn : named s.data.toList = false → R = (20, S) := fun hn => by rw [hR]; simp [St.cut, hn]
  have hRm : named s.data.toList = true → getL s.data.toList l = none → R = (5, S) := fun hn hg => by rw [hR, St.cut, if_neg (by rw [hn]; simp), hfl, getL_strip, hg]; rfl
  have hRs : ∀ v f, named s.data.toList = true → getL s.data.toList l = some (v, f) → R = if n < 0 ∨ (f.data.length : Int) < n then (1, S) else S.do (putL s.data.toList ⟨f.data.take n.toNat, min f.safe n.toNat⟩) := fun v f hn hg => by rw [hR, St.cut, if_neg (by rw [hn]; simp), hfl, getL_strip, hg]; rfl
  have hmany : l.length ≤ 64 := by have := hok.many; rw [hfl, List.length_map] at this; exact this
  have HFL := hide hfl
  clear hR hfl
  cases hnm : named s.data.toList
  · have hv : findV l s.data.toList = .tuple #[noFile, .int .i64 20] := by simp [findV, hnm]
    have HV := hide (hRn hnm)
    rw [hv] at hF
    clear hv hRn hRm hRs HOK
    go_enter Tryz.func93, Tryz.ntmps93
    go_wp2_with fail
    refine hF.mono ?_
    rintro e w1 ⟨rfl, hb1⟩
    clear hF
    have hz1 := hb1.size
    go_wp2
    go_ret
    rw [HV.out]
    exact ⟨rfl, ⟨bm, l, hL.below (hb1.alloc hz1 _), HFL.out, hok⟩, Only.of_below (hb1.alloc hz1 _)⟩
  · have hns := named_size' hnm
    cases hgl : getL s.data.toList l with
    | none =>
      have hv : findV l s.data.toList = .tuple #[noFile, .int .i64 5] := by simp [findV, hnm, hgl]
      have HV := hide (hRm hnm hgl)
      rw [hv] at hF
      clear hv hRn hRm hRs HOK
      go_enter Tryz.func93, Tryz.ntmps93
      go_wp2_with fail
      refine hF.mono ?_
      rintro e w1 ⟨rfl, hb1⟩
      clear hF
      have hz1 := hb1.size
      go_wp2
      go_ret
      rw [HV.out]
      exact ⟨rfl, ⟨bm, l, hL.below (hb1.alloc hz1 _), HFL.out, hok⟩, Only.of_below (hb1.alloc hz1 _)⟩
    | some x =>
      obtain ⟨v, f⟩ := x
      have hrow : RowOk w own (v, f) := hL.rows.1 _ (getL_some hgl)
      obtain ⟨ad, cap, rfl, hcz, hcl, hcm⟩ := hrow.open
      have hap := hL.rows.others hL.base.rising hgl
      have hsf : f.safe ≤ 262144 ∧ f.data.length ≤ 262144 := by
        have h1 : (s.data.toList, f) ∈ S.files := by rw [HFL.out]; exact List.mem_map.2 ⟨_, getL_some hgl, rfl⟩
        have h2 := (hok.each _ h1).2
        have h3 := le_sumL' (fun f : Fil => f.data.length) h1
        have h4 := hok.sum
        have h5 := hok.room
        simp only [used] at *
        omega
      have hv : findV l s.data.toList = .tuple #[FV (.slice ad f.data.length cap) f.safe, .int .i64 0] := by simp [findV, hnm, hgl]
      have hRs' := hRs _ _ hnm hgl
      rw [hv] at hF
      clear hv hRn hRm hRs
      by_cases hrg : n < 0 ∨ (f.data.length : Int) < n
      · have HV := hide (show R = (1, S) by rw [hRs', if_pos hrg])
        clear hRs'
        go_enter Tryz.func93, Tryz.ntmps93
        go_wp2_with fail
        refine hF.mono ?_
        rintro e w1 ⟨rfl, hb1⟩
        clear hF
        have hz1 := hb1.size
        go_wp2
        all_goals
          go_ret
          rw [HV.out]
          exact ⟨rfl, ⟨bm, l, hL.below (hb1.alloc hz1 _), HFL.out, hok⟩, Only.of_below (hb1.alloc hz1 _)⟩
      · obtain ⟨k, rfl⟩ : ∃ k : Nat, n = k := ⟨n.toNat, by omega⟩
        have hkl : k ≤ f.data.length := by omega
        have HG := hide (show R = S.do (putL s.data.toList ⟨f.data.take k, min f.safe k⟩) by rw [hRs', if_neg hrg]; simp)
        have n2 : (0 : Int) ≤ (k : Int) := by omega
        have n3 : (k : Int) ≤ (f.data.length : Int) := by omega
        clear hRs' hrg
        have key : ∀ w1, Below w.heap.size w w1 → HeldL (w1.alloc (.cells #[.slice ad f.data.length cap, .int .i64 f.safe] 131)) own bd bm S.room l S.fuse S.down := fun w1 hb => hL.below (hb.alloc hb.size _)
        have hT := fun w1 hb => takes_any _ (key w1 hb) hok.f0 hok.f1
        cases ht : (taken S.fuse S.down).1
        · have HV := hide (show R = (21, S.take.2) by rw [HG.out]; unfold St.do; rw [if_neg (by simp only [St.take]; rw [ht]; simp)])
          rw [ht] at hT
          go_enter Tryz.func93, Tryz.ntmps93
          go_wp2_with fail
          refine hF.mono ?_
          rintro e w1 ⟨rfl, hb1⟩
          clear hF
          have hT1 := hT w1 hb1
          clear hT
          go_wp2_with fail
          refine hT1.mono ?_
          rintro e w3 ⟨rfl, h4, hg3⟩
          go_wp2
          go_ret
          rw [HV.out]
          exact ⟨rfl, ⟨bm, l, h4, HFL.out, hok.take⟩, (Only.of_below (hb1.alloc hb1.size _)).trans (Only.of_grown hg3 fun k e => by cases e; exact hL.base.ownD)⟩
        · have HV := hide (show R = (0, { S.take.2 with files := putL s.data.toList ⟨f.data.take k, min f.safe k⟩ S.files }) by
            rw [HG.out]; unfold St.do; rw [if_pos (by simp only [St.take]; exact ht)])
          rw [ht] at hT
          go_enter Tryz.func93, Tryz.ntmps93
          go_wp2_with fail
          refine hF.mono ?_
          rintro e w1 ⟨rfl, hb1⟩
          clear hF
          have hT1 := hT w1 hb1
          have hL1 := key w1 hb1
          have hbx := hb1.alloc hb1.size (.cells #[.slice ad f.data.length cap, .int .i64 f.safe] 131)
          have hA1 := (one_box (w := w1) (x0 := .slice ad f.data.length cap) (x1 := .int .i64 f.safe) (t := 131)).1
          have hbd1 := Nat.lt_of_lt_of_le hL.base.lt hb1.size
          have hzb : w1.heap.size < (w1.alloc (.cells #[.slice ad f.data.length cap, .int .i64 f.safe] 131)).heap.size := by simp
          have hrow1 : RowOk (w1.alloc (.cells #[.slice ad f.data.length cap, .int .i64 f.safe] 131)) own (.slice ad f.data.length cap, f) := hrow.stay fun g hg => hbx.block g (hrow.lt hg)
          clear hT key
          go_wp2_with fail
          refine hT1.mono ?_
          rintro e w3 ⟨rfl, h4, hg3⟩
          have hA3 := (hg3.block w1.heap.size hzb (by simp; omega)).trans hA1
          have c0 : w3.cell? ⟨w1.heap.size, 0, none⟩ = some (.slice ad f.data.length cap) := cell_of_block hA3 0
          have c1 : w3.cell? ⟨w1.heap.size, 1, none⟩ = some (.int .i64 f.safe) := cell_of_block hA3 1
          have hrow3 := hrow1.stay fun g hg => hg3.block g (hrow1.lt hg) (by simpa using (hL1.base.rowNe hrow1 hg).1)
          have hO := (Only.of_below (own := own) hbx).trans (Only.of_grown (own := own) hg3 fun k e => by cases e; exact hL.base.ownD)
          clear hT1 hA3 hA1 hrow1 hL1 hg3
          go_wp2_with fail
          refine (cutTo_any ad f.data.length cap f.safe k w3 hkl hcl hcz hcm hsf.1).mono ?_
          rintro e w4 ⟨rfl, hb4⟩
          have h5 := h4.below hb4
          have hrow5 := hrow3.stay fun g hg => hb4.block g (hrow3.lt hg)
          have hl : (Fil.mk (f.data.take k) (min f.safe k)).data.length = k := by simp only [List.length_take]; omega
          have hx5 : RowOk w4 own (.slice ad (Fil.mk (f.data.take k) (min f.safe k)).data.length cap, Fil.mk (f.data.take k) (min f.safe k)) := by
            refine ⟨?_, fun g hg => hrow5.2 g ((ownBlock_len ad _ cap _ cap).trans hg)⟩
            have := own_cut hrow5.1 k hkl
            simp only at hl ⊢
            rw [hl] at this ⊢
            exact this
          have ha5 : ∀ p ∈ delL s.data.toList l, Apart (.slice ad (Fil.mk (f.data.take k) (min f.safe k)).data.length cap, Fil.mk (f.data.take k) (min f.safe k)) p.2 := fun p hp g hg => hap p hp g ((ownBlock_len ad _ cap _ cap).trans hg)
          have hP := put_any w4 h5.base s hns ad cap (Fil.mk (f.data.take k) (min f.safe k)) (h5.rows.del _) hx5 ha5 hmany
          simp only [hl] at hP
          clear hx5 ha5 hrow5 hrow3 c0 c1
          go_wp2_with fail
          refine hP.mono ?_
          rintro e w5 ⟨rfl, h6, hg6⟩
          go_wp2
          go_ret
          have hR5 := HOK.out
          rw [HV.out] at hR5 ⊢
          refine ⟨rfl, ⟨bm, _, h6, ?_, hR5⟩, (hO.trans (Only.of_below hb4)).trans (Only.of_grown hg6 fun k e => by cases e; exact hL.base.ownM)⟩
          show putL s.data.toList _ S.files = _
          rw [putL_map (fun x : Ent => x.2), ← HFL.out]


end Go.Proofs.YtmpahgklcabihaaGreat.Dk

namespace Go.Proofs.YtmpahgklcabihaaGreat.Dk
open Go.RowKit Go.Maps Go.Joins

theorem mid_ne {α : Type} {A B : List (Bs × α)} {k : Bs} {a : α} (hr : Rising (A ++ (k, a) :: B)) : (∀ p ∈ A, p.1 ≠ k) ∧ ∀ p ∈ B, p.1 ≠ k := by
  rw [Rising, List.pairwise_append, List.pairwise_cons] at hr
  refine ⟨fun p hp e => ?_, fun p hp e => ?_⟩
  · have := hr.2.2 p hp (k, a) (List.mem_cons_self ..); rw [e, WideAt.bytes_irrefl] at this; cases this
  · have := hr.2.1.1 p hp; rw [e, WideAt.bytes_irrefl] at this; cases this
theorem rising_mid {α : Type} {A B : List (Bs × α)} {k : Bs} {a b : α} (hr : Rising (A ++ (k, a) :: B)) : Rising (A ++ (k, b) :: B) := rising_keys hr (by simp)
theorem putL_mid {α : Type} {A B : List (Bs × α)} {k : Bs} {a b : α} (hr : Rising (A ++ (k, a) :: B)) : putL k b (A ++ (k, a) :: B) = A ++ (k, b) :: B := by
  obtain ⟨hA, hB⟩ := mid_ne hr
  refine hr.put.ext (rising_mid hr) fun p => ?_
  rw [mem_putL]
  simp only [List.mem_append, List.mem_cons]
  constructor
  · rintro (rfl | ⟨h1 | rfl | h1, h2⟩)
    · exact Or.inr (Or.inl rfl)
    · exact Or.inl h1
    · exact absurd rfl h2
    · exact Or.inr (Or.inr h1)
  · rintro (h1 | rfl | h1)
    · exact Or.inr ⟨Or.inl h1, hA p h1⟩
    · exact Or.inl rfl
    · exact Or.inr ⟨Or.inr (Or.inr h1), hB p h1⟩
theorem getL_mid {α : Type} {A B : List (Bs × α)} {k : Bs} {a : α} (hr : Rising (A ++ (k, a) :: B)) : getL k (A ++ (k, a) :: B) = some a := getL_of_mem hr (by simp)

/-- a file is put anew in the map: the disk behind it -/
theorem HeldL.stored {w w1 w2 : World} {own : Nat → Prop} {bd bm room : Nat} {l : List (Bs × Ent)} {fuse : Int} {down : Bool} (h : HeldL w own bd bm room l fuse down) (hb : Below w.heap.size w w1) {k : Bs} {x : Ent} (hown : w2.ownsMap Tryz.prog 9 RV bm (putL k x l).length (DD (putL k x l)))
    (ht : w1.mapTurned w2 bm) (hx : RowOk w own x) (ha : ∀ p ∈ delL k l, Apart x p.2) : HeldL w2 own bd bm room (putL k x l) fuse down := by
  have hst : ∀ g, g < w.heap.size → g ≠ bm → w2.heap[g]? = w.heap[g]? := fun g hg hne => (ht.grown.block g (Nat.lt_of_lt_of_le hg hb.size) (by simpa using hne)).trans (hb.block g hg)
  have hdl := h.rows.del k
  exact ⟨⟨(hst _ h.base.lt h.base.ne).trans h.base.block, hown, h.base.ownD, h.base.ownM⟩, RowsOk.put ⟨fun p hp => (hdl.1 p hp).stay fun g hg => hst g ((hdl.1 p hp).lt hg) (h.base.rowNe (hdl.1 p hp) hg).2, hdl.2⟩ (hx.stay fun g hg => hst g (hx.lt hg) (h.base.rowNe hx hg).2) ha⟩

def syE (p : Bs × Ent) : Bs × Ent := (p.1, (p.2.1, ⟨p.2.2.data, p.2.2.data.length⟩))
/-- the first so many files are synced -/
def syK (l : List (Bs × Ent)) (i : Nat) : List (Bs × Ent) := (l.take i).map syE ++ l.drop i
theorem syK_mid {l : List (Bs × Ent)} {i : Nat} (h : i < l.length) : syK l i = (l.take i).map syE ++ l[i] :: l.drop (i + 1) := by rw [syK, List.drop_eq_getElem_cons h]
theorem syK_next {l : List (Bs × Ent)} {i : Nat} (h : i < l.length) : syK l (i + 1) = (l.take i).map syE ++ syE l[i] :: l.drop (i + 1) := by
  rw [syK, List.take_succ_eq_append_getElem h, List.map_append]; simp
theorem lookRun {w : World} {bm n : Nat} {l : List (Bs × Ent)} (h : w.ownsMap Tryz.prog 9 RV bm n (DD l)) (s : ByteArray) (hs : s.size ≤ 32) {x : Ent} (hg : getL s.data.toList l = some x) :
    (Instr.lookup MapT (.map (some bm)) (.string s) false).run Tryz.prog w = .ok (FV x.1 x.2.safe) w := by
  obtain ⟨v', ps, hrun, hv'⟩ := h.lookup keyed Tryz.underlying70 (zero_file w) (R := RV) (zd := .held noFile) (zp := []) rfl (key_str s (by omega))
  simp only [DD_at, hg, Option.some.injEq, Prod.mk.injEq] at hv'
  rw [hrun, DataW.held.inj hv'.1]

abbrev CS (bd bm : Nat) (W : World) : Prop := W.cell? ⟨bd, 1, none⟩ = some (.map (some bm))
theorem CS.drew {bd bm : Nat} {W : World} (h : CS bd bm W) : CS bd bm W.drew := h
theorem CS.below {bd bm : Nat} {W W' : World} (hb : Below W.heap.size W W') (h : CS bd bm W) : CS bd bm W' := (hb.cell (p := ⟨bd, 1, none⟩) (World.block_lt_of_cell? W _ h)).trans h
theorem CS.turned {bd bm : Nat} {W W' : World} (ht : W.mapTurned W' bm) (hne : bd ≠ bm) (h : CS bd bm W) : CS bd bm W' := (World.cell?_of_block (a := ⟨bd, 1, none⟩) (ht.grown.block bd (World.block_lt_of_cell? W _ h) (by simpa using hne))).trans h

set_option maxHeartbeats 3200000 in
set_option maxRecDepth 100000 in
theorem sync_any {own : Nat → Prop} {bd : Nat} {S : St} (w : World) (h : Held w own bd S) :
    Calls Tryz.prog 205 #[.pointer (some ⟨bd, 0, none⟩)] w fun e w' => e = .returned (.int .i64 S.sync.1) ∧ Held w' own bd S.sync.2 ∧ Only own w w' := by
  have HOK := hide h.ok.sync
  obtain ⟨bm, l, hL, hfl, hok⟩ := h
  obtain ⟨R, hR⟩ : ∃ R, R = S.sync := ⟨_, rfl⟩
  rw [← hR] at HOK ⊢
  have hmany : l.length ≤ 64 := by have := hok.many; rw [hfl, List.length_map] at this; exact this
  have hnmd : ∀ p ∈ l, named p.1 = true := fun p hp => (hok.each (p.1, p.2.2) (by rw [hfl]; exact List.mem_map.2 ⟨p, hp, rfl⟩)).1
  have HFL := hide hfl
  have hT := takes_any w hL hok.f0 hok.f1
  clear hfl
  cases htk : (taken S.fuse S.down).1
  · have HV := hide (show R = (21, S.take.2) by rw [hR]; unfold St.sync St.do; rw [if_neg (by simp only [St.take]; rw [htk]; simp)])
    rw [htk] at hT
    clear hR
    go_enter Tryz.func205, Tryz.ntmps205
    go_wp2_with fail
    refine hT.mono ?_
    rintro e w3 ⟨rfl, h4, hg3⟩
    go_wp2
    go_ret
    rw [HV.out]
    exact ⟨rfl, ⟨bm, l, h4, HFL.out, hok.take⟩, Only.of_grown hg3 fun k e => by cases e; exact hL.base.ownD⟩
  · have HV := hide (show R = (0, { S.take.2 with files := syncL S.files }) by rw [hR]; unfold St.sync St.do; rw [if_pos (by simp only [St.take]; exact htk)])
    rw [htk] at hT
    clear hR
    go_enter Tryz.func205, Tryz.ntmps205
    go_wp2_with fail
    refine hT.mono ?_
    rintro e w3 ⟨rfl, h4, hg3⟩
    clear hT
    have hRi := rising_any w3 h4.base hmany
    have hlen : (nms l).length = l.length := by simp [nms]
    have hO3 := Only.of_grown (own := own) hg3 fun k e => by cases e; exact hL.base.ownD
    go_wp2_with fail
    refine hRi.mono ?_
    rintro e w4 ⟨v, rfl, hown4, hb4⟩
    rw [hlen] at hown4
    obtain ⟨a, cap, rfl⟩ := own_slice hown4
    have h5 := h4.below hb4
    have hO5 := hO3.trans (Only.of_below hb4)
    obtain ⟨fu, hfu⟩ : ∃ fu, fu = (taken S.fuse S.down).2.1 := ⟨_, rfl⟩
    obtain ⟨dn, hdn⟩ : ∃ dn, dn = (taken S.fuse S.down).2.2 := ⟨_, rfl⟩
    rw [← hfu, ← hdn] at h5
    have HFU := hide hfu
    have HDN := hide hdn
    clear hfu hdn
    clear hRi h4
    go_wp2
    have hris := h5.base.rising
    have hrisK : ∀ i, Rising (syK l i) := fun i => rising_keys hris (by rw [syK, List.map_append, List.map_map]; show (l.take i).map (fun p => p.1) ++ _ = _; rw [← List.map_append, List.take_append_drop])
    have hlenK : ∀ i, (syK l i).length = l.length := fun i => by rw [syK, List.length_append, List.length_map, ← List.length_append, List.take_append_drop]
    go_loopw [11] (fun i wr => ∃ k : Nat, k ≤ l.length ∧ i = .int .i64 k ∧ HeldL wr own bd bm S.room (syK l k) fu dn ∧ wr.ownsRow w3.heap.size 9 1 (.slice a l.length cap) l.length (tcells (nms l)) ∧ Only own w wr) (fun i _ => l.length - (intOf i).toNat)
    case atStart => exact ⟨0, by omega, rfl, by simpa [syK] using h5, hown4, hO5⟩
    case round =>
      obtain ⟨k, hk, rfl, hH, ho, hO⟩ := hrel
      by_cases hlt : k < l.length
      · obtain ⟨g, cap', e⟩ := ownsRow_form ho (by omega)
        cases e
        obtain ⟨⟨key, v, f⟩, hx⟩ : ∃ x, l[k] = x := ⟨_, rfl⟩
        have hmid := syK_mid hlt
        have hnext := syK_next hlt
        rw [hx] at hmid hnext
        have hrk := hrisK k
        rw [hmid] at hrk
        have hgl := getL_mid hrk
        rw [← hmid] at hgl
        have hput := putL_mid (b := (v, Fil.mk f.data f.data.length)) hrk
        rw [← hmid] at hput
        have HP := hide (show putL key (v, Fil.mk f.data f.data.length) (syK l k) = syK l (k + 1) by rw [hput, hnext]; rfl)
        have hrow : RowOk wr own (v, f) := hH.rows.1 _ (getL_some hgl)
        have hap := hH.rows.others hH.base.rising hgl
        obtain ⟨ad, c, rfl, _⟩ := hrow.open
        have hxs : (tcells (nms l))[k]? = some (.string ⟨key.toArray⟩) := by
          simp [tcells, nms, List.getElem?_eq_getElem hlt, hx]
        have hcell : wr.cell? ⟨g, k, none⟩ = some (.string ⟨key.toArray⟩) := by rw [ho.cellAt _ (by omega)]; exact hxs
        obtain ⟨s, hsk⟩ : ∃ s : ByteArray, s = ⟨key.toArray⟩ := ⟨_, rfl⟩
        have hkey : s.data.toList = key := by rw [hsk]
        have hss : s.size ≤ 32 := by
          have := hnmd l[k] (List.getElem_mem hlt)
          rw [hx] at this
          exact named_size' (by rw [hkey]; exact this)
        rw [← hsk] at hcell hxs
        have hlk := lookRun hH.base.map s hss (by rw [hkey]; exact hgl)
        have hc1 := hH.base.c1
        have hne := hH.base.ne
        have i1 : (0 : Int) ≤ (k : Int) := by omega
        have i2 : (k : Int) < (l.length : Int) := by omega
        have hS : CS bd bm wr := hc1
        have hlkn := hlenK k
        clear hmid hnext hrk hput hx hxs hsk
        simp only at hlk
        have hlk' : (Instr.lookup MapT (.map (some bm)) (.string s) false).run Tryz.prog wr.drew = .ok (.agg #[.slice ad f.data.length c, .int .i64 f.safe]) wr.drew := lookRun (w := wr.drew) hH.base.map.drew s hss (by rw [hkey]; exact hgl)
        go_wp2
        go_region_held3 (CS bd bm) (first | exact CS.drew (by assumption) | exact CS.below (by assumption) (by assumption) | exact CS.turned (by assumption) hne (by assumption))
          (first | (go_at_call 115; refine (synced_any ad f.data.length c f.safe _).mono ?_; rintro e w5 ⟨rfl, hb5⟩; obtain ⟨w6, hrun6, hown6, hturn6⟩ := store_file (ownsMap_stay (w' := w5) hH.base.map (hb5.block _ hH.base.map.lt)) (by omega) s hss (.slice ad f.data.length c) (Fil.mk f.data f.data.length); simp only at hrun6))
        have hb5' : Below wr.heap.size wr w5 := (Below.refl _ _).drew.trans hb5
        rw [hkey] at hown6
        have hH6 := hH.stored hb5' hown6 hturn6 (x := (.slice ad f.data.length c, Fil.mk f.data f.data.length)) ⟨hrow.1, hrow.2⟩ hap
        rw [HP.out] at hH6
        have ho6 := ownsRow_stay ho (w' := w6) fun g' hg' => (hturn6.grown.block g' (Nat.lt_of_lt_of_le (ho.lt g' hg').2 hb5'.size) (fun e => by
          cases e
          rcases ho.2 with ⟨e1, _⟩ | ⟨g2, _, cur, e1, _, hc2, _⟩
          · cases e1
          · cases e1
            simp only [Value.ownBlock, Option.some.injEq] at hg'
            obtain ⟨es, clock, hb, _⟩ := hH.base.map
            rw [← hg', hc2] at hb
            cases hb)).trans (hb5'.block g' (ho.lt g' hg').2)
        have hO6 := (hO.trans (Only.of_below hb5')).trans (Only.of_grown (own := own) hturn6.grown fun k e => by cases e; exact hH.base.ownM)
        clear hrun6 hown6 hturn6 hb5 hlk hlk' hcell hc1 hS
        go_wp2
        go_roundw
        case rel => exact ⟨k + 1, by omega, by go_num, hH6, ho6, hO6⟩
        case measure => simp [intOf]; omega
      · obtain rfl : k = l.length := by omega
        have hend : syK l l.length = l.map syE := by rw [syK, List.take_length, List.drop_length, List.append_nil]
        rw [hend] at hH
        have HE := hide (show syncL S.files = (l.map syE).map (fun p => (p.1, p.2.2)) by rw [HFL.out, syncL, List.map_map, List.map_map]; rfl)
        clear hend
        go_wp2
        go_ret
        have hR5 := HOK.out
        rw [HV.out] at hR5 ⊢
        rw [HFU.out, HDN.out] at hH
        exact ⟨rfl, ⟨bm, l.map syE, hH, HE.out, hR5⟩, hO⟩

end Go.Proofs.YtmpahgklcabihaaGreat.Dk

namespace Go.Proofs.YtmpahgklcabihaaGreat.Dk
open Go.RowKit Go.Maps Go.Joins

/-- the numbers of a slice lie behind its address, in no block that is owned -/
def LiesI (w : World) (own : Nat → Prop) (a : Option Addr) (ds : List Int) : Prop := ds = [] ∨ ∃ b off, a = some ⟨b, off, none⟩ ∧ b < w.heap.size ∧ ¬ own b ∧ ∀ i (h : i < ds.length), w.cell? ⟨b, off + i, none⟩ = some (.int .i64 ds[i])
theorem LiesI.only {w w' : World} {own : Nat → Prop} {a : Option Addr} {ds : List Int} (h : LiesI w own a ds) (ho : Only own w w') : LiesI w' own a ds := by
  rcases h with rfl | ⟨b, off, rfl, hlt, hn, hl⟩
  · exact Or.inl rfl
  · exact Or.inr ⟨b, off, rfl, Nat.lt_of_lt_of_le hlt ho.size, hn, fun i hi => (World.cell?_of_block (a := ⟨b, off + i, none⟩) (ho.block b hlt hn)).trans (hl i hi)⟩

theorem fu_set {w : World} {own : Nat → Prop} {bd bm room : Nat} {l : List (Bs × Ent)} {fuse : Int} {down : Bool} (h : HeldL w own bd bm room l fuse down) : HeldL ((w.setCell ⟨bd, 2, none⟩ (.int .i64 (-1))).setCell ⟨bd, 3, none⟩ (.bool false)) own bd bm room l (-1) false :=
  Base.set (Base.set h (i := 2) (u := .int .i64 (-1)) (fuse' := -1) (down' := down) rfl) (i := 3) (u := .bool false) (fuse' := -1) (down' := false) rfl

abbrev strip (p : Bs × Ent) : Bs × Fil := (p.1, p.2.2)
theorem torn_len {f : Fil} {draw : Int} (h : f.safe ≤ f.data.length) : (tornF f draw).data.length = f.safe + keptOf draw (f.data.length - f.safe) := by
  have := keptOf_le draw (f.data.length - f.safe)
  simp only [tornF, List.length_take]; omega
theorem names_stay {wr w6 w7 : World} {B e bm nn : Nat} {D : DataW Value} {v : Value} {n : Nat} {xs : List Value} (ho : wr.ownsRow B e 1 v n xs) (hm : wr.ownsMap Tryz.prog 9 RV bm nn D) (hb : Below wr.heap.size wr w6) (ht : w6.mapTurned w7 bm) : w7.ownsRow B e 1 v n xs :=
  ownsRow_stay ho fun g' hg' => (ht.grown.block g' (Nat.lt_of_lt_of_le (ho.lt g' hg').2 hb.size) (fun e => by
    cases e
    rcases ho.2 with ⟨e1, _⟩ | ⟨g2, _, cur, e1, _, hc2, _⟩
    · rw [e1] at hg'; simp [Value.ownBlock] at hg'
    · rw [e1] at hg'
      simp only [Value.ownBlock, Option.some.injEq] at hg'
      obtain ⟨es, clock, hbb, _⟩ := hm
      rw [← hg', hc2] at hbb
      cases hbb)).trans (hb.block g' (ho.lt g' hg').2)

set_option maxHeartbeats 6400000 in
set_option maxRecDepth 100000 in
theorem crash_any {own : Nat → Prop} {bd : Nat} {S : St} (w : World) (h : Held w own bd S) (a : Option Addr) (cap : Nat) (ds : List Int) (hd : LiesI w own a ds) (hn : ds.length ≤ cap) (hz : a = none → cap = 0) (hc : cap ≤ 9223372036854775807) (hr : ∀ x ∈ ds, -9223372036854775808 ≤ x ∧ x ≤ 9223372036854775807) :
    Calls Tryz.prog 35 #[.pointer (some ⟨bd, 0, none⟩), .slice a ds.length cap] w fun e w' => e = .returned (.int .i64 (S.crash ds).1) ∧ Held w' own bd (S.crash ds).2 ∧ Only own w w' := by
  have HOK := hide (h.ok.crash ds)
  by_cases hlong : 4096 < ds.length
  · have hv : S.crash ds = (2, S) := by simp [St.crash, hlong]
    rw [hv]
    clear HOK
    go_enter Tryz.func35, Tryz.ntmps35
    go_wp2
    go_ret
    exact ⟨rfl, h, Only.refl _ _⟩
  · have hv : S.crash ds = (0, { S with files := crashL S.files ds, fuse := -1, down := false }) := by simp [St.crash, hlong]
    rw [hv] at HOK ⊢
    obtain ⟨bm, l, hL, hfl, hok⟩ := h
    have hmany : l.length ≤ 64 := by have := hok.many; rw [hfl, List.length_map] at this; exact this
    have heach : ∀ p ∈ l, named p.1 = true ∧ p.2.2.safe ≤ p.2.2.data.length ∧ p.2.2.data.length ≤ 262144 := fun p hp => by
      have h1 : (p.1, p.2.2) ∈ S.files := by rw [hfl]; exact List.mem_map.2 ⟨p, hp, rfl⟩
      have h2 := hok.each _ h1
      have h3 := le_sumL' (fun f : Fil => f.data.length) h1
      have h4 := hok.sum
      have h5 := hok.room
      simp only [used] at *
      exact ⟨h2.1, h2.2, by omega⟩
    have HFL := hide hfl
    clear hfl hv
    have c2 := hL.base.c2
    have c3 := hL.base.c3
    have z2 := hL.base.fz 2
    have z3 := hL.base.fz 3
    have hL1 := fu_set hL
    have hO1 : Only own w ((w.setCell ⟨bd, 2, none⟩ (.int .i64 (-1))).setCell ⟨bd, 3, none⟩ (.bool false)) := (Only.of_set w hL.base.ownD _).trans (Only.of_set _ hL.base.ownD _)
    go_enter Tryz.func35, Tryz.ntmps35
    go_wp2_with fail
    obtain ⟨W, hW⟩ : ∃ W, W = (w.setCell ⟨bd, 2, none⟩ (.int .i64 (-1))).setCell ⟨bd, 3, none⟩ (.bool false) := ⟨_, rfl⟩
    rw [← hW] at hL1 hO1 ⊢
    clear hW c2 c3 z2 z3
    have hRi := rising_any W hL1.base hmany
    refine hRi.mono ?_
    rintro e w4 ⟨v, rfl, hown4, hb4⟩
    have hlen : (nms l).length = l.length := by simp [nms]
    rw [hlen] at hown4
    obtain ⟨an, cn, rfl⟩ := own_slice hown4
    have h5 := hL1.below hb4
    have hO5 := hO1.trans (Only.of_below hb4)
    have hd5 := hd.only hO5
    have hB0 := hb4.size
    clear hRi hL1 hd
    go_wp2
    have hris := h5.base.rising
    obtain ⟨C, hC⟩ : ∃ C, C = crashL S.files ds := ⟨_, rfl⟩
    have HC := hide hC
    have hC0 : C = crashL (l.map strip) ds := by rw [hC, HFL.out]
    clear hC
    go_loopw [1, 21] (fun dv i wr => ∃ (k : Nat) (A : List (Bs × Ent)) (a' : Option Addr) (c' : Nat) (ds' : List Int), k ≤ l.length ∧ i = .int .i64 k ∧ dv = .slice a' ds'.length c' ∧ HeldL wr own bd bm S.room (A ++ l.drop k) (-1) false ∧ A.map (·.1) = (l.take k).map (·.1) ∧ A.map strip ++ crashL ((l.drop k).map strip) ds' = C ∧
        LiesI wr own a' ds' ∧ ds'.length ≤ c' ∧ (a' = none → c' = 0) ∧ c' ≤ 9223372036854775807 ∧ (∀ x ∈ ds', -9223372036854775808 ≤ x ∧ x ≤ 9223372036854775807) ∧ wr.ownsRow W.heap.size 9 1 (.slice an l.length cn) l.length (tcells (nms l)) ∧ Only own w wr) (fun _ i _ => l.length - (intOf i).toNat)
    case atStart => exact ⟨0, [], a, cap, ds, by omega, rfl, rfl, by simpa using h5, by simp, by rw [hC0]; simp, hd5, hn, hz, hc, hr, hown4, hO5⟩
    case round =>
      obtain ⟨k, A, a', c', ds', hk, rfl, rfl, hH, hAk, hCr, hd', hn', hz', hc', hr', ho, hO⟩ := hrel
      by_cases hlt : k < l.length
      · obtain ⟨g, cap', e⟩ := ownsRow_form ho (by omega)
        cases e
        obtain ⟨⟨key, v, f⟩, hx⟩ : ∃ x, l[k] = x := ⟨_, rfl⟩
        have hdrop : l.drop k = (key, v, f) :: l.drop (k + 1) := by rw [List.drop_eq_getElem_cons hlt, hx]
        rw [hdrop] at hH hCr
        have hrk := hH.base.rising
        have hgl := getL_mid hrk
        have hsf := (heach _ (List.getElem_mem hlt)).2
        rw [hx] at hsf
        simp only at hsf
        have hrow : RowOk wr own (v, f) := hH.rows.1 _ (getL_some hgl)
        have hap := hH.rows.others hrk hgl
        obtain ⟨ad, c, rfl, hcz, hcl, hcm⟩ := hrow.open
        have HP : ∀ x, Hid (putL key x (A ++ (key, .slice ad f.data.length c, f) :: l.drop (k + 1)) = (A ++ [(key, x)]) ++ l.drop (k + 1)) := fun x => hide (by rw [putL_mid hrk]; simp)
        have hAk' : ∀ x : Ent, (A ++ [(key, x)]).map (·.1) = (l.take (k + 1)).map (·.1) := fun x => by rw [List.take_succ_eq_append_getElem hlt, List.map_append, List.map_append, hAk, hx]; rfl
        have hxs : (tcells (nms l))[k]? = some (.string ⟨key.toArray⟩) := by
          simp [tcells, nms, List.getElem?_eq_getElem hlt, hx]
        have hcell : wr.cell? ⟨g, k, none⟩ = some (.string ⟨key.toArray⟩) := by rw [ho.cellAt _ (by omega)]; exact hxs
        obtain ⟨s, hsk⟩ : ∃ s : ByteArray, s = ⟨key.toArray⟩ := ⟨_, rfl⟩
        have hkey : s.data.toList = key := by rw [hsk]
        have hss : s.size ≤ 32 := by
          have := (heach l[k] (List.getElem_mem hlt)).1
          rw [hx] at this
          exact named_size' (by rw [hkey]; exact this)
        rw [← hsk] at hcell hxs
        have hlk : fileAt (A ++ (key, .slice ad f.data.length c, f) :: l.drop (k + 1)) s.data.toList = FV (.slice ad f.data.length c) f.safe := by rw [hkey]; simp [fileAt, hgl]
        have hc1 := hH.base.c1
        have hown := hH.base.map
        have hne := hH.base.ne
        have hne2 : wr.heap.size ≠ bm := by have := hH.base.map.lt; omega
        have i1 : (0 : Int) ≤ (k : Int) := by omega
        have i2 : (k : Int) < (l.length : Int) := by omega
        have hlkn : (A ++ (key, Value.slice ad f.data.length c, f) :: l.drop (k + 1)).length ≤ 64 := by
          have h1 := congrArg List.length hAk
          simp only [List.length_map, List.length_take] at h1
          simp only [List.length_append, List.length_cons, List.length_drop]
          omega
        clear hx hxs hsk hdrop hrk hgl
        by_cases htl : f.data.length = f.safe
        · have HCr := hide (show (A ++ [(key, (Value.slice ad f.data.length c, f))]).map strip ++ crashL ((l.drop (k + 1)).map strip) ds' = C by
            rw [← hCr, List.map_cons, crashL, if_pos (by exact htl)]; simp)
          clear hCr
          obtain ⟨W, hW⟩ : ∃ W, W = wr.alloc (.cells #[.slice ad f.data.length c, .int .i64 f.safe] 131) := ⟨_, rfl⟩
          have hbW : Below wr.heap.size wr W := by rw [hW]; exact below_alloc1 _ _
          have hAW : W.heap[wr.heap.size]? = some (.cells #[.slice ad f.data.length c, .int .i64 f.safe] 131 (0, 0)) := by rw [hW]; exact heap_alloc_new wr _
          have hlW := (Array.getElem?_eq_some_iff.1 hAW).1
          have hTl := tail_any ad f.data.length c f.safe W hsf.1 hsf.2
          have ht0 : f.data.length - f.safe = 0 := by omega
          rw [ht0] at hTl
          clear ht0 htl
          go_wp2_with (first | (at_lookup; refine wpList_lookup_file1 rfl _ _ rfl bm _ (A ++ (key, .slice ad f.data.length c, f) :: l.drop (k + 1)) rfl hown s (by omega) rfl _ hlk ?_) | fail)
          rw [← hW]
          clear hW
          refine hTl.mono ?_
          rintro e w5 ⟨rfl, hb5⟩
          have hb5' := hbW.trans (hb5.mono hbW.size)
          have hA5 := (hb5.block _ hlW).trans hAW
          clear hTl hlk
          have hHs := hH.below hb5'
          have hos := own_keepF hb5' ho
          have hds := hd'.only (Only.of_below (own := own) hb5')
          have hOs := hO.trans (Only.of_below hb5')
          have heq : A ++ (key, Value.slice ad f.data.length c, f) :: l.drop (k + 1) = (A ++ [(key, (.slice ad f.data.length c, f))]) ++ l.drop (k + 1) := by simp
          rw [heq] at hHs
          clear heq hcell hc1 hown hA5 hAW
          go_wp2
          go_roundw
          case rel => exact ⟨k + 1, _, a', c', ds', by omega, by go_num, rfl, hHs, hAk' _, HCr.out, hds, hn', hz', hc', hr', hos, hOs⟩
          case measure => simp [intOf]; omega
        · have htp : f.data.length - f.safe ≠ 0 := by have := hsf.1; omega
          obtain ⟨tl, htl'⟩ : ∃ tl, tl = f.data.length - f.safe := ⟨_, rfl⟩
          have hbt : ((tl : Int) == 0) = false := by rw [beq_eq_false_iff_ne]; omega
          cases ds' with
          | nil =>
            have HCr := hide (show (A ++ [(key, (Value.slice ad (tornF f 0).data.length c, tornF f 0))]).map strip ++ crashL ((l.drop (k + 1)).map strip) [] = C by
              rw [← hCr, List.map_cons, crashL, if_neg (by exact htl)]; simp)
            clear hCr
            obtain ⟨W, hW⟩ : ∃ W, W = wr.alloc (.cells #[.slice ad f.data.length c, .int .i64 f.safe] 131) := ⟨_, rfl⟩
            have hbW : Below wr.heap.size wr W := by rw [hW]; exact below_alloc1 _ _
            have hAW : W.heap[wr.heap.size]? = some (.cells #[.slice ad f.data.length c, .int .i64 f.safe] 131 (0, 0)) := by rw [hW]; exact heap_alloc_new wr _
            have hlW := (Array.getElem?_eq_some_iff.1 hAW).1
            have hTl := tail_any ad f.data.length c f.safe W hsf.1 hsf.2
            rw [← htl'] at hTl
            clear htl' htl htp
            go_wp2_with (first | (at_lookup; refine wpList_lookup_file1 rfl _ _ rfl bm _ (A ++ (key, .slice ad f.data.length c, f) :: l.drop (k + 1)) rfl hown s (by omega) rfl _ hlk ?_) | fail)
            rw [← hW]
            clear hW
            refine hTl.mono ?_
            rintro e w5 ⟨rfl, hb5⟩
            have hb5' := hbW.trans (hb5.mono hbW.size)
            have hA5 := (hb5.block _ hlW).trans hAW
            clear hTl hlk
            go_wp2
            have hS : PS bd bm wr.heap.size (.slice ad f.data.length c) f.safe w5 := ⟨(hb5'.cell (p := ⟨bd, 1, none⟩) hH.base.lt).trans hc1, cell_of_block hA5 0, cell_of_block hA5 1⟩
            go_region_held3 (PS bd bm wr.heap.size (.slice ad f.data.length c) f.safe) (first | exact PS.drew (by assumption) | exact PS.below (by assumption) (by assumption) | exact PS.turned (by assumption) hne hne2 (by assumption))
              (first | (go_at_call 71; refine (torn_any ad f.data.length c f.safe 0 _ hsf.1 hcl hcz hcm hsf.2 (by omega) (by omega)).mono ?_; rintro e w6 ⟨rfl, hb6⟩; obtain ⟨w7, hrun7, hown7, hturn7⟩ := store_file (ownsMap_stay (w' := w6) hH.base.map ((hb6.block _ (Nat.lt_of_lt_of_le hH.base.map.lt hb5'.size)).trans (hb5'.block _ hH.base.map.lt))) (by omega) s hss (.slice ad (tornF f 0).data.length c) (tornF f 0); rw [torn_len hsf.1] at hrun7; simp only [tornF] at hrun7))
            have hb6' : Below wr.heap.size wr w6 := hb5'.drew.trans (hb6.mono hb5'.size)
            rw [hkey] at hown7
            have hx7 : RowOk wr own (.slice ad (tornF f 0).data.length c, tornF f 0) := by
              have h1 := own_cut hrow.1 (f.safe + keptOf 0 (f.data.length - f.safe)) (by have := keptOf_le 0 (f.data.length - f.safe); have := hsf.1; omega)
              refine ⟨?_, fun g' hg' => hrow.2 g' ((ownBlock_len ad _ c _ c).trans hg')⟩
              have h2 := torn_len (draw := 0) hsf.1
              simp only [tornF] at h2 ⊢
              rw [h2] at h1 ⊢
              exact h1
            have hH7 := hH.stored hb6' hown7 hturn7 hx7 (fun p hp g' hg' => hap p hp g' ((ownBlock_len ad _ c _ c).trans hg'))
            rw [(HP _).out] at hH7
            have ho7 := names_stay ho hH.base.map hb6' hturn7
            have hO7 := (hO.trans (Only.of_below hb6')).trans (Only.of_grown (own := own) hturn7.grown fun k e => by cases e; exact hH.base.ownM)
            have hdx := hd'.only ((Only.of_below hb6').trans (Only.of_grown (own := own) hturn7.grown fun k e => by cases e; exact hH.base.ownM))
            clear hrun7 hown7 hturn7 hb6 hcell hc1 hS
            go_wp2
            go_roundw
            case rel => exact ⟨k + 1, _, a', c', [], by omega, by go_num, rfl, hH7, hAk' _, HCr.out, hdx, hn', hz', hc', hr', ho7, hO7⟩
            case measure => simp [intOf]; omega
          | cons x r =>
            have hxr := hr' x (List.mem_cons_self ..)
            have HCr := hide (show (A ++ [(key, (Value.slice ad (tornF f x).data.length c, tornF f x))]).map strip ++ crashL ((l.drop (k + 1)).map strip) r = C by
              rw [← hCr, List.map_cons, crashL, if_neg (by exact htl)]; simp)
            clear hCr
            rcases hd' with hd0 | ⟨b, off, rfl, hbl, hbn, hdl⟩
            · cases hd0
            have hd0 := hdl 0 (by simp)
            simp only [List.getElem_cons_zero, Nat.add_zero] at hd0
            have hd' : LiesI wr own (some ⟨b, off + 1, none⟩) r := by
              refine Or.inr ⟨b, off + 1, rfl, hbl, hbn, fun i hi => ?_⟩
              have := hdl (i + 1) (by simp; omega)
              simp only [List.getElem_cons_succ] at this
              rw [← this]; congr 2; omega
            have hrl : (x :: r).length = r.length + 1 := rfl
            rw [hrl] at hn'
            clear hdl
            obtain ⟨W, hW⟩ : ∃ W, W = wr.alloc (.cells #[.slice ad f.data.length c, .int .i64 f.safe] 131) := ⟨_, rfl⟩
            have hbW : Below wr.heap.size wr W := by rw [hW]; exact below_alloc1 _ _
            have hAW : W.heap[wr.heap.size]? = some (.cells #[.slice ad f.data.length c, .int .i64 f.safe] 131 (0, 0)) := by rw [hW]; exact heap_alloc_new wr _
            have hlW := (Array.getElem?_eq_some_iff.1 hAW).1
            have hTl := tail_any ad f.data.length c f.safe W hsf.1 hsf.2
            rw [← htl'] at hTl
            clear htl' htl htp
            go_wp2_with (first | (at_lookup; refine wpList_lookup_file1 rfl _ _ rfl bm _ (A ++ (key, .slice ad f.data.length c, f) :: l.drop (k + 1)) rfl hown s (by omega) rfl _ hlk ?_) | fail)
            rw [← hW]
            clear hW
            refine hTl.mono ?_
            rintro e w5 ⟨rfl, hb5⟩
            have hb5' := hbW.trans (hb5.mono hbW.size)
            have hA5 := (hb5.block _ hlW).trans hAW
            clear hTl hlk
            have hd5x := (hb5'.cell (p := ⟨b, off, none⟩) hbl).trans hd0
            have j0 : (0 : Int) < (r.length : Int) + 1 := by omega
            have j1 : (1 : Int) ≤ (r.length : Int) + 1 := by omega
            have j2 : (r.length : Int) + 1 ≤ (c' : Int) := by omega
            by_cases hcx : c' = 1
            · obtain rfl : r = [] := List.eq_nil_of_length_eq_zero (by omega)
              subst hcx
              go_wp2
              go_quiet (fail)
              go_wp2
              obtain ⟨w5n, hw5n⟩ : ∃ w5n, w5n = w5.drewN nq := ⟨_, rfl⟩
              have hb5n : Below wr.heap.size wr w5n := by rw [hw5n]; exact hb5'.trans (below_draws _ _ _)
              have hA5n : w5n.heap[wr.heap.size]? = some (.cells #[.slice ad f.data.length c, .int .i64 f.safe] 131 (0, 0)) := by rw [hw5n]; exact hA5
              rw [← hw5n]
              clear hw5n
              have hS : PS bd bm wr.heap.size (.slice ad f.data.length c) f.safe w5n := ⟨(hb5n.cell (p := ⟨bd, 1, none⟩) hH.base.lt).trans hc1, cell_of_block hA5n 0, cell_of_block hA5n 1⟩
              go_region_held3 (PS bd bm wr.heap.size (.slice ad f.data.length c) f.safe) (first | exact PS.drew (by assumption) | exact PS.below (by assumption) (by assumption) | exact PS.turned (by assumption) hne hne2 (by assumption))
                (first | (go_at_call 71; refine (torn_any ad f.data.length c f.safe x _ hsf.1 hcl hcz hcm hsf.2 (by omega) (by omega)).mono ?_; rintro e w6 ⟨rfl, hb6⟩; obtain ⟨w7, hrun7, hown7, hturn7⟩ := store_file (ownsMap_stay (w' := w6) hH.base.map ((hb6.block _ (Nat.lt_of_lt_of_le hH.base.map.lt hb5n.size)).trans (hb5n.block _ hH.base.map.lt))) (by omega) s hss (.slice ad (tornF f x).data.length c) (tornF f x); rw [torn_len hsf.1] at hrun7; simp only [tornF] at hrun7))
              have hb6' : Below wr.heap.size wr w6 := hb5n.drew.trans (hb6.mono hb5n.size)
              rw [hkey] at hown7
              have hx7 : RowOk wr own (.slice ad (tornF f x).data.length c, tornF f x) := by
                have h1 := own_cut hrow.1 (f.safe + keptOf x (f.data.length - f.safe)) (by have := keptOf_le x (f.data.length - f.safe); have := hsf.1; omega)
                refine ⟨?_, fun g' hg' => hrow.2 g' ((ownBlock_len ad _ c _ c).trans hg')⟩
                have h2 := torn_len (draw := x) hsf.1
                simp only [tornF] at h2 ⊢
                rw [h2] at h1 ⊢
                exact h1
              have hH7 := hH.stored hb6' hown7 hturn7 hx7 (fun p hp g' hg' => hap p hp g' ((ownBlock_len ad _ c _ c).trans hg'))
              rw [(HP _).out] at hH7
              have ho7 := names_stay ho hH.base.map hb6' hturn7
              have hO7 := (hO.trans (Only.of_below hb6')).trans (Only.of_grown (own := own) hturn7.grown fun k e => by cases e; exact hH.base.ownM)
              have hdx := hd'.only ((Only.of_below hb6').trans (Only.of_grown (own := own) hturn7.grown fun k e => by cases e; exact hH.base.ownM))
              clear hrun7 hown7 hturn7 hb6 hcell hc1 hS
              go_wp2
              go_roundw
              case rel => exact ⟨k + 1, _, some ⟨b, off, none⟩, 0, [], by omega, by go_num, rfl, hH7, hAk' _, HCr.out, Or.inl rfl, by simp, by simp, by omega, by simp, ho7, hO7⟩
              case measure => simp [intOf]; omega
            · go_wp2
              go_quiet (fail)
              go_wp2
              obtain ⟨w5n, hw5n⟩ : ∃ w5n, w5n = w5.drewN nq := ⟨_, rfl⟩
              have hb5n : Below wr.heap.size wr w5n := by rw [hw5n]; exact hb5'.trans (below_draws _ _ _)
              have hA5n : w5n.heap[wr.heap.size]? = some (.cells #[.slice ad f.data.length c, .int .i64 f.safe] 131 (0, 0)) := by rw [hw5n]; exact hA5
              rw [← hw5n]
              clear hw5n
              have hS : PS bd bm wr.heap.size (.slice ad f.data.length c) f.safe w5n := ⟨(hb5n.cell (p := ⟨bd, 1, none⟩) hH.base.lt).trans hc1, cell_of_block hA5n 0, cell_of_block hA5n 1⟩
              go_region_held3 (PS bd bm wr.heap.size (.slice ad f.data.length c) f.safe) (first | exact PS.drew (by assumption) | exact PS.below (by assumption) (by assumption) | exact PS.turned (by assumption) hne hne2 (by assumption))
                (first | (go_at_call 71; refine (torn_any ad f.data.length c f.safe x _ hsf.1 hcl hcz hcm hsf.2 (by omega) (by omega)).mono ?_; rintro e w6 ⟨rfl, hb6⟩; obtain ⟨w7, hrun7, hown7, hturn7⟩ := store_file (ownsMap_stay (w' := w6) hH.base.map ((hb6.block _ (Nat.lt_of_lt_of_le hH.base.map.lt hb5n.size)).trans (hb5n.block _ hH.base.map.lt))) (by omega) s hss (.slice ad (tornF f x).data.length c) (tornF f x); rw [torn_len hsf.1] at hrun7; simp only [tornF] at hrun7))
              have hb6' : Below wr.heap.size wr w6 := hb5n.drew.trans (hb6.mono hb5n.size)
              rw [hkey] at hown7
              have hx7 : RowOk wr own (.slice ad (tornF f x).data.length c, tornF f x) := by
                have h1 := own_cut hrow.1 (f.safe + keptOf x (f.data.length - f.safe)) (by have := keptOf_le x (f.data.length - f.safe); have := hsf.1; omega)
                refine ⟨?_, fun g' hg' => hrow.2 g' ((ownBlock_len ad _ c _ c).trans hg')⟩
                have h2 := torn_len (draw := x) hsf.1
                simp only [tornF] at h2 ⊢
                rw [h2] at h1 ⊢
                exact h1
              have hH7 := hH.stored hb6' hown7 hturn7 hx7 (fun p hp g' hg' => hap p hp g' ((ownBlock_len ad _ c _ c).trans hg'))
              rw [(HP _).out] at hH7
              have ho7 := names_stay ho hH.base.map hb6' hturn7
              have hO7 := (hO.trans (Only.of_below hb6')).trans (Only.of_grown (own := own) hturn7.grown fun k e => by cases e; exact hH.base.ownM)
              have hdx := hd'.only ((Only.of_below hb6').trans (Only.of_grown (own := own) hturn7.grown fun k e => by cases e; exact hH.base.ownM))
              clear hrun7 hown7 hturn7 hb6 hcell hc1 hS
              go_wp2
              go_roundw
              case rel => exact ⟨k + 1, _, some ⟨b, off + 1, none⟩, c' - 1, r, by omega, by go_num, rfl, hH7, hAk' _, HCr.out, hdx, by omega, by simp, by omega, fun y hy => hr' y (List.mem_cons_of_mem _ hy), ho7, hO7⟩
              case measure => simp [intOf]; omega
      · obtain rfl : k = l.length := by omega
        rw [List.drop_length] at hH hCr
        rw [List.append_nil] at hH
        have HE := hide (show crashL S.files ds = A.map strip by rw [← HC.out, ← hCr]; simp [crashL])
        clear hCr hAk
        go_wp2
        go_ret
        exact ⟨rfl, ⟨bm, A, hH, HE.out, HOK.out⟩, hO⟩

end Go.Proofs.YtmpahgklcabihaaGreat.Dk
