/- Walks over disk.go: Read, Cut, Remove. -/
import Derived.Test.YtokcknfbanpjjaaDOk
namespace Go.Proofs.Ytokcknfbanpjjaa.Dk
open Go.RowKit Go.Maps Go.Joins

theorem getL_strip (k : Bs) (l : List (Bs × Ent)) : getL k (l.map fun p => (p.1, p.2.2)) = (getL k l).map (·.2) := getL_map (fun x : Ent => x.2) k l
theorem named_size' {s : ByteArray} (h : named s.data.toList = true) : s.size ≤ 32 := by
  simp only [named, Bool.and_eq_true, decide_eq_true_eq] at h
  rw [Lib.size_eq]; exact h.1.2

theorem le_sumL' {α : Type} (g : α → Nat) : ∀ {l : List (Bs × α)} {p : Bs × α}, p ∈ l → g p.2 ≤ sumL g l
  | q :: r, p, h => by
    simp only [sumL, List.map_cons, List.sum_cons]
    rcases List.mem_cons.1 h with rfl | h
    · omega
    · have := le_sumL' g h; simp only [sumL] at this; omega
theorem ownBlock_len (ad : Option Addr) (n c m c' : Nat) : (Value.slice ad n c).ownBlock = (Value.slice ad m c').ownBlock := by cases ad <;> rfl
/-- what a file's row is, opened -/
theorem RowOk.open {w : World} {own : Nat → Prop} {v : Value} {f : Fil} (h : RowOk w own (v, f)) : ∃ ad cap, v = .slice ad f.data.length cap ∧ (ad = none → cap = 0) ∧ f.data.length ≤ cap ∧ cap ≤ 9223372036854775807 := by
  rcases h.1.2 with ⟨e, h0⟩ | ⟨g, cap', cur, e, _, _, h1, h2, _⟩
  · simp only at e h0
    exact ⟨none, 0, by rw [e, h0], fun _ => rfl, by omega, by omega⟩
  · simp only at e h1 h2
    unfold maxLen at h2
    exact ⟨_, cap', e, by simp, h1, by omega⟩

set_option maxHeartbeats 1600000 in
theorem read_any {own : Nat → Prop} {bd : Nat} {S : St} (w : World) (h : Held w own bd S) (s : ByteArray) (hs : s.size ≤ 140737488351232) :
    Calls Try.prog 20 #[.pointer (some ⟨bd, 0, none⟩), .string s] w fun e w' => e = .returned (.tuple #[.string ⟨(S.read s.data.toList).1.toArray⟩, .int .i64 (S.read s.data.toList).2]) ∧ Below w.heap.size w w' := by
  obtain ⟨bm, l, hL, hfl, hok⟩ := h
  have hF := find_any w hL s hs
  obtain ⟨R, hR⟩ : ∃ R, R = S.read s.data.toList := ⟨_, rfl⟩
  rw [← hR]
  have hRn : named s.data.toList = false → R = ([], 20) := fun hn => by rw [hR]; simp [St.read, hn]
  have hRm : named s.data.toList = true → getL s.data.toList l = none → R = ([], 5) := fun hn hg => by rw [hR, St.read, if_neg (by rw [hn]; simp), hfl, getL_strip, hg]; rfl
  have hRs : ∀ v f, named s.data.toList = true → getL s.data.toList l = some (v, f) → R = (f.data, 0) := fun v f hn hg => by rw [hR, St.read, if_neg (by rw [hn]; simp), hfl, getL_strip, hg]; rfl
  clear hR hfl
  cases hnm : named s.data.toList
  · have hv : findV l s.data.toList = .tuple #[noFile, .int .i64 20] := by simp [findV, hnm]
    have HV := hide (hRn hnm)
    rw [hv] at hF
    clear hv hRn hRm hRs
    go_enter Try.func20, Try.ntmps20
    go_wp2_with fail
    refine hF.mono ?_
    rintro e w1 ⟨rfl, hb1⟩
    clear hF
    have hz1 := hb1.size
    go_wp2
    go_ret2
    rw [HV.out]
    exact ⟨rfl, hb1.alloc hz1 _⟩
  · cases hgl : getL s.data.toList l with
    | none =>
      have hv : findV l s.data.toList = .tuple #[noFile, .int .i64 5] := by simp [findV, hnm, hgl]
      have HV := hide (hRm hnm hgl)
      rw [hv] at hF
      clear hv hRn hRm hRs
      go_enter Try.func20, Try.ntmps20
      go_wp2_with fail
      refine hF.mono ?_
      rintro e w1 ⟨rfl, hb1⟩
      clear hF
      have hz1 := hb1.size
      go_wp2
      go_ret2
      rw [HV.out]
      exact ⟨rfl, hb1.alloc hz1 _⟩
    | some x =>
      obtain ⟨v, f⟩ := x
      have hrow : RowOk w own (v, f) := hL.rows.1 _ (getL_some hgl)
      obtain ⟨ad, cap, rfl, _⟩ := hrow.open
      have hv : findV l s.data.toList = .tuple #[FV (.slice ad f.data.length cap) f.safe, .int .i64 0] := by simp [findV, hnm, hgl]
      have HV := hide (hRs _ _ hnm hgl)
      rw [hv] at hF
      clear hv hRn hRm hRs
      go_enter Try.func20, Try.ntmps20
      go_wp2_with fail
      refine hF.mono ?_
      rintro e w1 ⟨rfl, hb1⟩
      clear hF
      have hz1 := hb1.size
      have hcv := conv_own (ownsRow_stay hrow.1 (w' := w1.alloc (.cells #[.slice ad f.data.length cap, .int .i64 f.safe] 61)) fun g hg => (Below.heap_alloc w1 _ g (Nat.lt_of_lt_of_le (hrow.lt hg) hz1)).trans (hb1.block g (hrow.lt hg)))
      go_wp2
      go_ret2
      rw [HV.out]
      exact ⟨rfl, hb1.alloc hz1 _⟩

set_option maxHeartbeats 3200000 in
theorem cut_any {own : Nat → Prop} {bd : Nat} {S : St} (w : World) (h : Held w own bd S) (_ : Fresh own w) (s : ByteArray) (n : Int) (hs : s.size ≤ 140737488351232) (n0 : -9223372036854775808 ≤ n) (n1 : n ≤ 9223372036854775807) :
    Calls Try.prog 12 #[.pointer (some ⟨bd, 0, none⟩), .string s, .int .i64 n] w fun e w' => e = .returned (.int .i64 (S.cut s.data.toList n).1) ∧ Held w' own bd (S.cut s.data.toList n).2 ∧ Only own w w' := by
  have HOK := hide (h.ok.cut s.data.toList n)
  obtain ⟨bm, l, hL, hfl, hok⟩ := h
  have hF := find_any w hL s hs
  obtain ⟨R, hR⟩ : ∃ R, R = S.cut s.data.toList n := ⟨_, rfl⟩
  rw [← hR] at HOK ⊢
  have hRn : named s.data.toList = false → R = (20, S) := fun hn => by rw [hR]; simp [St.cut, hn]
  have hRm : named s.data.toList = true → getL s.data.toList l = none → R = (5, S) := fun hn hg => by rw [hR, St.cut, if_neg (by rw [hn]; simp), hfl, getL_strip, hg]; rfl
  have hRs : ∀ v f, named s.data.toList = true → getL s.data.toList l = some (v, f) → R = if n < 0 ∨ (f.data.length : Int) < n then (1, S) else S.do (putL s.data.toList ⟨f.data.take n.toNat, min f.safe n.toNat⟩) := fun v f hn hg => by rw [hR, St.cut, if_neg (by rw [hn]; simp), hfl, getL_strip, hg]; rfl
  have hmany : l.length ≤ 64 := by have := hok.many; rw [hfl, List.length_map] at this; exact this
  have HFL := hide hfl
  clear hR hfl
  cases hnm : named s.data.toList
  · have hv : findV l s.data.toList = .tuple #[noFile, .int .i64 20] := by simp [findV, hnm]
    have HV := hide (hRn hnm)
    rw [hv] at hF
    clear hv hRn hRm hRs HOK
    go_enter Try.func12, Try.ntmps12
    go_wp2_with fail
    refine hF.mono ?_
    rintro e w1 ⟨rfl, hb1⟩
    clear hF
    have hz1 := hb1.size
    go_wp2
    go_ret
    rw [HV.out]
    exact ⟨rfl, ⟨bm, l, hL.below (hb1.alloc hz1 _), HFL.out, hok⟩, Only.of_below (hb1.alloc hz1 _)⟩
  · have hns := named_size' hnm
    cases hgl : getL s.data.toList l with
    | none =>
      have hv : findV l s.data.toList = .tuple #[noFile, .int .i64 5] := by simp [findV, hnm, hgl]
      have HV := hide (hRm hnm hgl)
      rw [hv] at hF
      clear hv hRn hRm hRs HOK
      go_enter Try.func12, Try.ntmps12
      go_wp2_with fail
      refine hF.mono ?_
      rintro e w1 ⟨rfl, hb1⟩
      clear hF
      have hz1 := hb1.size
      go_wp2
      go_ret
      rw [HV.out]
      exact ⟨rfl, ⟨bm, l, hL.below (hb1.alloc hz1 _), HFL.out, hok⟩, Only.of_below (hb1.alloc hz1 _)⟩
    | some x =>
      obtain ⟨v, f⟩ := x
      have hrow : RowOk w own (v, f) := hL.rows.1 _ (getL_some hgl)
      obtain ⟨ad, cap, rfl, hcz, hcl, hcm⟩ := hrow.open
      have hap := hL.rows.others hL.base.rising hgl
      have hsf : f.safe ≤ 262144 ∧ f.data.length ≤ 262144 := by
        have h1 : (s.data.toList, f) ∈ S.files := by rw [HFL.out]; exact List.mem_map.2 ⟨_, getL_some hgl, rfl⟩
        have h2 := (hok.each _ h1).2
        have h3 := le_sumL' (fun f : Fil => f.data.length) h1
        have h4 := hok.sum
        have h5 := hok.room
        simp only [used] at *
        omega
      have hv : findV l s.data.toList = .tuple #[FV (.slice ad f.data.length cap) f.safe, .int .i64 0] := by simp [findV, hnm, hgl]
      have hRs' := hRs _ _ hnm hgl
      rw [hv] at hF
      clear hv hRn hRm hRs
      by_cases hrg : n < 0 ∨ (f.data.length : Int) < n
      · have HV := hide (show R = (1, S) by rw [hRs', if_pos hrg])
        clear hRs'
        go_enter Try.func12, Try.ntmps12
        go_wp2_with fail
        refine hF.mono ?_
        rintro e w1 ⟨rfl, hb1⟩
        clear hF
        have hz1 := hb1.size
        go_wp2
        all_goals
          go_ret
          rw [HV.out]
          exact ⟨rfl, ⟨bm, l, hL.below (hb1.alloc hz1 _), HFL.out, hok⟩, Only.of_below (hb1.alloc hz1 _)⟩
      · obtain ⟨k, rfl⟩ : ∃ k : Nat, n = k := ⟨n.toNat, by omega⟩
        have hkl : k ≤ f.data.length := by omega
        have HG := hide (show R = S.do (putL s.data.toList ⟨f.data.take k, min f.safe k⟩) by rw [hRs', if_neg hrg]; simp)
        have n2 : (0 : Int) ≤ (k : Int) := by omega
        have n3 : (k : Int) ≤ (f.data.length : Int) := by omega
        clear hRs' hrg
        have key : ∀ w1, Below w.heap.size w w1 → HeldL (w1.alloc (.cells #[.slice ad f.data.length cap, .int .i64 f.safe] 61)) own bd bm S.room l S.fuse S.down := fun w1 hb => hL.below (hb.alloc hb.size _)
        have hT := fun w1 hb => takes_any _ (key w1 hb) hok.f0 hok.f1
        cases ht : (taken S.fuse S.down).1
        · have HV := hide (show R = (21, S.take.2) by rw [HG.out]; unfold St.do; rw [if_neg (by simp only [St.take]; rw [ht]; simp)])
          rw [ht] at hT
          go_enter Try.func12, Try.ntmps12
          go_wp2_with fail
          refine hF.mono ?_
          rintro e w1 ⟨rfl, hb1⟩
          clear hF
          have hT1 := hT w1 hb1
          clear hT
          go_wp2_with fail
          refine hT1.mono ?_
          rintro e w3 ⟨rfl, h4, hg3⟩
          go_wp2
          go_ret
          rw [HV.out]
          exact ⟨rfl, ⟨bm, l, h4, HFL.out, hok.take⟩, (Only.of_below (hb1.alloc hb1.size _)).trans (Only.of_grown hg3 fun k e => by cases e; exact hL.base.ownD)⟩
        · have HV := hide (show R = (0, { S.take.2 with files := putL s.data.toList ⟨f.data.take k, min f.safe k⟩ S.files }) by
            rw [HG.out]; unfold St.do; rw [if_pos (by simp only [St.take]; exact ht)])
          rw [ht] at hT
          go_enter Try.func12, Try.ntmps12
          go_wp2_with fail
          refine hF.mono ?_
          rintro e w1 ⟨rfl, hb1⟩
          clear hF
          have hT1 := hT w1 hb1
          have hL1 := key w1 hb1
          have hbx := hb1.alloc hb1.size (.cells #[.slice ad f.data.length cap, .int .i64 f.safe] 61)
          have hA1 := (one_box (w := w1) (x0 := .slice ad f.data.length cap) (x1 := .int .i64 f.safe) (t := 61)).1
          have hbd1 := Nat.lt_of_lt_of_le hL.base.lt hb1.size
          have hzb : w1.heap.size < (w1.alloc (.cells #[.slice ad f.data.length cap, .int .i64 f.safe] 61)).heap.size := by simp
          have hrow1 : RowOk (w1.alloc (.cells #[.slice ad f.data.length cap, .int .i64 f.safe] 61)) own (.slice ad f.data.length cap, f) := hrow.stay fun g hg => hbx.block g (hrow.lt hg)
          clear hT key
          go_wp2_with fail
          refine hT1.mono ?_
          rintro e w3 ⟨rfl, h4, hg3⟩
          have hA3 := (hg3.block w1.heap.size hzb (by simp; omega)).trans hA1
          have c0 : w3.cell? ⟨w1.heap.size, 0, none⟩ = some (.slice ad f.data.length cap) := cell_of_block hA3 0
          have c1 : w3.cell? ⟨w1.heap.size, 1, none⟩ = some (.int .i64 f.safe) := cell_of_block hA3 1
          have hrow3 := hrow1.stay fun g hg => hg3.block g (hrow1.lt hg) (by simpa using (hL1.base.rowNe hrow1 hg).1)
          have hO := (Only.of_below (own := own) hbx).trans (Only.of_grown (own := own) hg3 fun k e => by cases e; exact hL.base.ownD)
          clear hT1 hA3 hA1 hrow1 hL1 hg3
          go_wp2_with fail
          refine (cutTo_any ad f.data.length cap f.safe k w3 hkl hcl hcz hcm hsf.1).mono ?_
          rintro e w4 ⟨rfl, hb4⟩
          have h5 := h4.below hb4
          have hrow5 := hrow3.stay fun g hg => hb4.block g (hrow3.lt hg)
          have hl : (Fil.mk (f.data.take k) (min f.safe k)).data.length = k := by simp only [List.length_take]; omega
          have hx5 : RowOk w4 own (.slice ad (Fil.mk (f.data.take k) (min f.safe k)).data.length cap, Fil.mk (f.data.take k) (min f.safe k)) := by
            refine ⟨?_, fun g hg => hrow5.2 g ((ownBlock_len ad _ cap _ cap).trans hg)⟩
            have := own_cut hrow5.1 k hkl
            simp only at hl ⊢
            rw [hl] at this ⊢
            exact this
          have ha5 : ∀ p ∈ delL s.data.toList l, Apart (.slice ad (Fil.mk (f.data.take k) (min f.safe k)).data.length cap, Fil.mk (f.data.take k) (min f.safe k)) p.2 := fun p hp g hg => hap p hp g ((ownBlock_len ad _ cap _ cap).trans hg)
          have hP := put_any w4 h5.base s hns ad cap (Fil.mk (f.data.take k) (min f.safe k)) (h5.rows.del _) hx5 ha5 hmany
          simp only [hl] at hP
          clear hx5 ha5 hrow5 hrow3 c0 c1
          go_wp2_with fail
          refine hP.mono ?_
          rintro e w5 ⟨rfl, h6, hg6⟩
          go_wp2
          go_ret
          have hR5 := HOK.out
          rw [HV.out] at hR5 ⊢
          refine ⟨rfl, ⟨bm, _, h6, ?_, hR5⟩, (hO.trans (Only.of_below hb4)).trans (Only.of_grown hg6 fun k e => by cases e; exact hL.base.ownM)⟩
          show putL s.data.toList _ S.files = _
          rw [putL_map (fun x : Ent => x.2), ← HFL.out]

set_option maxHeartbeats 3200000 in
theorem remove_any {own : Nat → Prop} {bd : Nat} {S : St} (w : World) (h : Held w own bd S) (s : ByteArray) (hs : s.size ≤ 140737488351232) :
    Calls Try.prog 18 #[.pointer (some ⟨bd, 0, none⟩), .string s] w fun e w' => e = .returned (.int .i64 (S.remove s.data.toList).1) ∧ Held w' own bd (S.remove s.data.toList).2 ∧ Only own w w' := by
  have HOK := hide (h.ok.remove s.data.toList)
  obtain ⟨bm, l, hL, hfl, hok⟩ := h
  have hF := find_any w hL s hs
  obtain ⟨R, hR⟩ : ∃ R, R = S.remove s.data.toList := ⟨_, rfl⟩
  rw [← hR] at HOK ⊢
  have hRn : named s.data.toList = false → R = (20, S) := fun hn => by rw [hR]; simp [St.remove, hn]
  have hRm : named s.data.toList = true → getL s.data.toList l = none → R = (5, S) := fun hn hg => by rw [hR, St.remove, if_neg (by rw [hn]; simp), hfl, getL_strip, hg]; rfl
  have hRs : ∀ v f, named s.data.toList = true → getL s.data.toList l = some (v, f) → R = S.do (delL s.data.toList) := fun v f hn hg => by rw [hR, St.remove, if_neg (by rw [hn]; simp), hfl, getL_strip, hg]; rfl
  have HFL := hide hfl
  clear hR hfl
  cases hnm : named s.data.toList
  · have hv : findV l s.data.toList = .tuple #[noFile, .int .i64 20] := by simp [findV, hnm]
    have HV := hide (hRn hnm)
    rw [hv] at hF
    clear hv hRn hRm hRs HOK
    go_enter Try.func18, Try.ntmps18
    go_wp2_with fail
    refine hF.mono ?_
    rintro e w1 ⟨rfl, hb1⟩
    clear hF
    go_wp2
    go_ret
    rw [HV.out]
    exact ⟨rfl, ⟨bm, l, hL.below (hb1.alloc hb1.size _), HFL.out, hok⟩, Only.of_below (hb1.alloc hb1.size _)⟩
  · cases hgl : getL s.data.toList l with
    | none =>
      have hv : findV l s.data.toList = .tuple #[noFile, .int .i64 5] := by simp [findV, hnm, hgl]
      have HV := hide (hRm hnm hgl)
      rw [hv] at hF
      clear hv hRn hRm hRs HOK
      go_enter Try.func18, Try.ntmps18
      go_wp2_with fail
      refine hF.mono ?_
      rintro e w1 ⟨rfl, hb1⟩
      clear hF
      go_wp2
      go_ret
      rw [HV.out]
      exact ⟨rfl, ⟨bm, l, hL.below (hb1.alloc hb1.size _), HFL.out, hok⟩, Only.of_below (hb1.alloc hb1.size _)⟩
    | some x =>
      obtain ⟨v, f⟩ := x
      have hrow : RowOk w own (v, f) := hL.rows.1 _ (getL_some hgl)
      obtain ⟨ad, cap, rfl, _⟩ := hrow.open
      have hv : findV l s.data.toList = .tuple #[FV (.slice ad f.data.length cap) f.safe, .int .i64 0] := by simp [findV, hnm, hgl]
      have HG := hide (hRs _ _ hnm hgl)
      rw [hv] at hF
      clear hv hRn hRm hRs
      have hT := fun w1 (hb : Below w.heap.size w w1) => takes_any _ (hL.below hb) hok.f0 hok.f1
      cases ht : (taken S.fuse S.down).1
      · have HV := hide (show R = (21, S.take.2) by rw [HG.out]; unfold St.do; rw [if_neg (by simp only [St.take]; rw [ht]; simp)])
        rw [ht] at hT
        go_enter Try.func18, Try.ntmps18
        go_wp2_with fail
        refine hF.mono ?_
        rintro e w1 ⟨rfl, hb1⟩
        clear hF
        have hbx := hb1.alloc hb1.size (.cells #[.slice ad f.data.length cap, .int .i64 f.safe] 61)
        have hT1 := hT _ hbx
        clear hT
        go_wp2_with fail
        refine hT1.mono ?_
        rintro e w3 ⟨rfl, h4, hg3⟩
        go_wp2
        go_ret
        rw [HV.out]
        exact ⟨rfl, ⟨bm, l, h4, HFL.out, hok.take⟩, (Only.of_below hbx).trans (Only.of_grown hg3 fun k e => by cases e; exact hL.base.ownD)⟩
      · have HV := hide (show R = (0, { S.take.2 with files := delL s.data.toList S.files }) by
          rw [HG.out]; unfold St.do; rw [if_pos (by simp only [St.take]; exact ht)])
        rw [ht] at hT
        go_enter Try.func18, Try.ntmps18
        go_wp2_with fail
        refine hF.mono ?_
        rintro e w1 ⟨rfl, hb1⟩
        clear hF
        have hbx := hb1.alloc hb1.size (.cells #[.slice ad f.data.length cap, .int .i64 f.safe] 61)
        have hT1 := hT _ hbx
        clear hT
        go_wp2_with fail
        refine hT1.mono ?_
        rintro e w3 ⟨rfl, h4, hg3⟩
        have c1 := h4.base.c1
        have hown := h4.base.map
        clear hT1
        go_wp2_with (first | (at_delete; refine wpList_delete_own _ rfl _ _ MapT 9 rfl 61 keyed Try.underlying37 RV bm l.length (DD l) rfl hown _ _ rfl (key_str s hs) ?_; intro w4 hown4 hturn4) | go_in)
        go_ret
        have hR5 := HOK.out
        rw [HV.out] at hR5 ⊢
        rw [DD_del] at hown4
        have hst : ∀ k, k < w3.heap.size → k ≠ bm → w4.heap[k]? = w3.heap[k]? := fun k hk hne => hturn4.grown.block k hk (by simpa using hne)
        have hdl := h4.rows.del s.data.toList
        refine ⟨rfl, ⟨bm, delL s.data.toList l, ⟨⟨(hst _ h4.base.lt h4.base.ne).trans h4.base.block, ownsMap_tight hown4, h4.base.ownD, h4.base.ownM⟩, fun p hp => (hdl.1 p hp).stay fun g hg => hst g ((hdl.1 p hp).lt hg) (h4.base.rowNe (hdl.1 p hp) hg).2, hdl.2⟩, ?_, hR5⟩, ((Only.of_below hbx).trans (Only.of_grown (own := own) hg3 fun k e => by cases e; exact hL.base.ownD)).trans (Only.of_grown hturn4.grown fun k e => by cases e; exact hL.base.ownM)⟩
        show delL s.data.toList S.files = _
        rw [delL_map (fun x : Ent => x.2), ← HFL.out]

end Go.Proofs.Ytokcknfbanpjjaa.Dk
