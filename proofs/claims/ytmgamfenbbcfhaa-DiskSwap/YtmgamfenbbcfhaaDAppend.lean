/- The walk over disk.go: Append. -/
import Derived.Test.YtmgamfenbbcfhaaDOk
namespace Go.Proofs.Ytmgamfenbbcfhaa.Dk
open Go.RowKit Go.Maps Go.Joins

theorem used_strip (l : List (Bs × Ent)) : used (l.map fun p => (p.1, p.2.2)) = sumL (fun x => x.2.data.length) l := by simp [used, sumL, Function.comp_def]
theorem named_size {s : ByteArray} (h : named s.data.toList = true) : s.size ≤ 32 := by
  simp only [named, Bool.and_eq_true, decide_eq_true_eq] at h
  rw [Lib.size_eq]; exact h.1.2

theorem le_sumL {α : Type} (g : α → Nat) : ∀ {l : List (Bs × α)} {p : Bs × α}, p ∈ l → g p.2 ≤ sumL g l
  | q :: r, p, h => by
    simp only [sumL, List.map_cons, List.sum_cons]
    rcases List.mem_cons.1 h with rfl | h
    · omega
    · have := le_sumL g h; simp only [sumL] at this; omega
theorem fileOr_le (k : Bs) (l : Fls) : (fileOr k l).data.length ≤ used l := by
  unfold fileOr
  cases hg : getL k l with
  | none => simp
  | some f =>
    have := getL_some hg
    simp only [Option.getD_some, used]
    exact le_sumL (fun f : Fil => f.data.length) this
theorem wrap_small {x : Int} (h0 : -9223372036854775808 ≤ x) (h1 : x ≤ 9223372036854775807) : IntKind.i64.wrap x = x := by
  simp [IntKind.wrap, IntKind.bits, IntKind.signed]
  omega

abbrev AS (bd bm room : Nat) (W : World) : Prop := W.cell? ⟨bd, 0, none⟩ = some (.int .i64 room) ∧ W.cell? ⟨bd, 1, none⟩ = some (.map (some bm))
theorem AS.drew {bd bm room : Nat} {W : World} (h : AS bd bm room W) : AS bd bm room W.drew := h
theorem AS.below {bd bm room : Nat} {W W' : World} (hb : Below W.heap.size W W') (h : AS bd bm room W) : AS bd bm room W' := by
  have hlt : bd < W.heap.size := World.block_lt_of_cell? W _ h.1
  exact ⟨(hb.cell (p := ⟨bd, 0, none⟩) hlt).trans h.1, (hb.cell (p := ⟨bd, 1, none⟩) hlt).trans h.2⟩
theorem lenRun {w : World} {bm n : Nat} {l : List (Bs × Ent)} (h : w.ownsMap Try.prog 9 RV bm n (DD l)) : (Builtin.len_ #[MapT] 3 #[.map (some bm)]).run Try.prog w = .ok (.int .i64 l.length) w := by
  have := h.len Try.underlying90 3
  rw [DD_size] at this
  exact this

set_option maxHeartbeats 9600000 in
set_option maxRecDepth 100000 in
theorem append_any {own : Nat → Prop} {bd : Nat} {S : St} (w : World) (h : Held w own bd S) (hfr : Fresh own w) (s d : ByteArray) (hs : s.size ≤ 140737488351232) (hd : d.size ≤ 140737488351232) :
    Calls Try.prog 28 #[.pointer (some ⟨bd, 0, none⟩), .string s, .string d] w fun e w' => e = .returned (.int .i64 (S.append s.data.toList d.data.toList).1) ∧ Held w' own bd (S.append s.data.toList d.data.toList).2 ∧ Only own w w' := by
  have hN := fun W => name_any s W hs
  cases hnm : named s.data.toList
  · rw [hnm] at hN
    have hv : S.append s.data.toList d.data.toList = (20, S) := by simp [St.append, hnm]
    rw [hv]
    go_enter Try.func28, Try.ntmps28
    go_wp2_with fail
    refine (hN _).mono ?_
    rintro e w1 ⟨rfl, hb1⟩
    clear hN
    go_wp2
    go_ret
    exact ⟨rfl, h.below hb1, Only.of_below hb1⟩
  · rw [hnm] at hN
    have hns := named_size hnm
    obtain ⟨bm, l, hL, hfl, hok⟩ := h
    have hsum : sumL (fun x => x.2.data.length) l ≤ S.room := by rw [← used_strip, ← hfl]; exact hok.sum
    have hus : used S.files = sumL (fun x => x.2.data.length) l := by rw [hfl, used_strip]
    have hroom := hok.room
    have hmany : l.length ≤ 64 := by have := hok.many; rw [hfl, List.length_map] at this; exact this
    have hlen : S.files.length = l.length := by rw [hfl, List.length_map]
    have hgn : (getL s.data.toList S.files = none) ↔ (getL s.data.toList l).isSome = false := by
      rw [hfl, getL_map (fun x : Ent => x.2)]; cases getL s.data.toList l <;> simp
    have hdl : d.data.toList.length = d.size := (Lib.size_eq d).symm
    obtain ⟨R, hR⟩ : ∃ R, R = S.append s.data.toList d.data.toList := ⟨_, rfl⟩
    rw [← hR]
    have HR := hide hR
    clear hR
    go_enter Try.func28, Try.ntmps28
    go_wp2_with fail
    refine (hN _).mono ?_
    rintro e w1 ⟨rfl, hb1⟩
    have h1 := hL.below hb1
    clear hN
    have c1 := h1.base.c1
    have hown := h1.base.map
    obtain ⟨ad, cap, f, hfa, hff, hrow, hap, hcz, hcl, hcm⟩ := h1.at s.data.toList
    have hfq : f.data.length ≤ sumL (fun x => x.2.data.length) l := by rw [hff, ← used_strip]; exact fileOr_le _ _
    have HFF := hide hff
    have HFL := hide hfl
    clear hff hfl
    generalize hb : (getL s.data.toList l).isSome = b at *
    go_wp2_with (first | (at_lookup; refine wpList_lookup_file rfl _ _ rfl bm l.length l rfl hown s hs rfl (FV (.slice ad f.data.length cap) f.safe) b hfa hb ?_) | fail)
    obtain ⟨W, hW⟩ : ∃ W, W = w1.alloc (.cells #[.slice ad f.data.length cap, .int .i64 f.safe] 99) := ⟨_, rfl⟩
    rw [← hW]
    have hbW : Below w1.heap.size w1 W := by rw [hW]; exact below_alloc1 _ _
    have hA : W.heap[w1.heap.size]? = some (.cells #[.slice ad f.data.length cap, .int .i64 f.safe] 99 (0, 0)) := by rw [hW]; exact heap_alloc_new w1 _
    clear hW
    have h2 := h1.below hbW
    have hS : AS bd bm S.room W := ⟨h2.base.c0, h2.base.c1⟩
    have hU := fun W' (hb' : Below W.heap.size W W') => used_any W' (h2.below hb') (by omega)
    have hLn := fun W' (hb' : Below W.heap.size W W') => lenRun (h2.below hb').base.map
    generalize hq : sumL (fun x : Ent => x.2.data.length) l = q at *
    generalize hm : l.length = m at *
    have hwr : IntKind.i64.wrap ((S.room : Int) - (q : Int)) = (S.room : Int) - (q : Int) := wrap_small (by omega) (by omega)
    have hund : undef = Value.tuple #[] := rfl
    by_cases hsp : (S.room : Int) - (q : Int) < (d.size : Int)
    · have HV := hide (show R = (22, S) by
        rw [HR.out]; unfold St.append; rw [if_neg (by rw [hnm]; simp), if_pos (Or.inl (by omega))])
      clear hgn
      first | (go_region_held3 (AS bd bm S.room) (first | exact AS.drew (by assumption) | exact AS.below (by assumption) (by assumption))
        (first | (go_at_call 35; refine (hU _ (Below.refl _ _).drew).mono ?_; rintro e w2 ⟨rfl, hb2⟩; have hl2 := hLn w2 ((Below.refl _ _).drew.trans hb2)))) | fail
      clear hund hU hLn hl2
      have hb2' : Below w1.heap.size w1 w2 := hbW.drew.trans (hb2.mono hbW.size)
      have hbx : Below w.heap.size w w2 := hb1.trans (hb2'.mono hb1.size)
      go_wp2
      go_ret
      rw [HV.out]
      exact ⟨rfl, ⟨bm, l, hL.below hbx, HFL.out, hok⟩, Only.of_below hbx⟩
    · have hsp' : (d.size : Int) ≤ (S.room : Int) - (q : Int) := by omega
      have hdec : decide ((S.room : Int) - (q : Int) < (d.size : Int)) = false := by simp; omega
      cases b
      · by_cases hmm : 64 ≤ m
        · have HV := hide (show R = (22, S) by
            rw [HR.out]; unfold St.append; rw [if_neg (by rw [hnm]; simp), if_pos (Or.inr ⟨hgn.2 rfl, by omega⟩)])
          clear hgn
          have hmi : (64 : Int) ≤ (m : Int) := by omega
          first | (go_region_held3 (AS bd bm S.room) (first | exact AS.drew (by assumption) | exact AS.below (by assumption) (by assumption))
            (first | (go_at_call 35; refine (hU _ (Below.refl _ _).drew).mono ?_; rintro e w2 ⟨rfl, hb2⟩; have hl2 := hLn w2 ((Below.refl _ _).drew.trans hb2)))) | fail
          clear hund hU hLn hl2
          have hb2' : Below w1.heap.size w1 w2 := hbW.drew.trans (hb2.mono hbW.size)
          have hbx : Below w.heap.size w w2 := hb1.trans (hb2'.mono hb1.size)
          go_wp2
          go_ret
          rw [HV.out]
          exact ⟨rfl, ⟨bm, l, hL.below hbx, HFL.out, hok⟩, Only.of_below hbx⟩
        · have HG := hide (show R = S.do (putL s.data.toList ⟨(fileOr s.data.toList S.files).data ++ d.data.toList, (fileOr s.data.toList S.files).safe⟩) by
            rw [HR.out]; unfold St.append; rw [if_neg (by rw [hnm]; simp), if_neg (by rintro (h1 | ⟨_, h1⟩) <;> omega)])
          clear hgn
          have hmi : (m : Int) < (64 : Int) := by omega
          have hdec2 : decide ((64 : Int) ≤ (m : Int)) = false := by simp; omega
          first | (go_region_held3 (AS bd bm S.room) (first | exact AS.drew (by assumption) | exact AS.below (by assumption) (by assumption))
            (first | (go_at_call 35; refine (hU _ (Below.refl _ _).drew).mono ?_; rintro e w2 ⟨rfl, hb2⟩; have hl2 := hLn w2 ((Below.refl _ _).drew.trans hb2)))) | fail
          clear hund hU hLn hl2
          have h3 := h2.below ((Below.refl _ _).drew.trans hb2)
          have hA2 : w2.heap[w1.heap.size]? = _ := (hb2.block w1.heap.size (Array.getElem?_eq_some_iff.1 hA).1).trans hA
          have hlt2 := (Array.getElem?_eq_some_iff.1 hA2).1
          have hb2' : Below w1.heap.size w1 w2 := hbW.drew.trans (hb2.mono hbW.size)
          have hbx : Below w.heap.size w w2 := hb1.trans (hb2'.mono hb1.size)
          have hrow2 := hrow.stay fun g hg => hb2'.block g (hrow.lt hg)
          have hT := takes_any w2 h3 hok.f0 hok.f1
          have hbdl := h1.base.lt
          clear hS c1 hb2 hA h1 h2 hbW hb1 hrow hown
          cases ht : (taken S.fuse S.down).1
          · have HV := hide (show R = (21, S.take.2) by rw [HG.out]; unfold St.do; rw [if_neg (by simp only [St.take]; rw [ht]; simp)])
            rw [ht] at hT
            go_wp2_with fail
            refine hT.mono ?_
            rintro e w3 ⟨rfl, h4, hg3⟩
            go_wp2
            go_ret
            rw [HV.out]
            exact ⟨rfl, ⟨bm, l, h4, HFL.out, hok.take⟩, (Only.of_below hbx).trans (Only.of_grown hg3 fun k e => by cases e; exact h3.base.ownD)⟩
          · have HV := hide (show R = (0, { S.take.2 with files := putL s.data.toList ⟨f.data ++ d.data.toList, f.safe⟩ S.files }) by
              rw [HG.out]; unfold St.do; rw [if_pos (by simp only [St.take]; exact ht)]
              rw [HFF.out, ← HFL.out])
            have HOK := hide (hok.append s.data.toList d.data.toList)
            rw [ht] at hT
            go_wp2_with fail
            refine hT.mono ?_
            rintro e w3 ⟨rfl, h4, hg3⟩
            have hA3 : w3.heap[w1.heap.size]? = _ := (hg3.block w1.heap.size hlt2 (by simp; omega)).trans hA2
            have c0 : w3.cell? ⟨w1.heap.size, 0, none⟩ = some (.slice ad f.data.length cap) := cell_of_block hA3 0
            have c1 : w3.cell? ⟨w1.heap.size, 1, none⟩ = some (.int .i64 f.safe) := cell_of_block hA3 1
            have hrow3 := hrow2.stay fun g hg => hg3.block g (hrow2.lt hg) (by simpa using (h3.base.rowNe hrow2 hg).1)
            have hfr3 : Fresh own w3 := hfr.later (Nat.le_trans hbx.size hg3.size)
            clear hA3 hA2 hT
            go_wp2_with fail
            refine (grown_any (.slice ad f.data.length cap) f.data f.safe d w3 hrow3.1 (by omega)).mono ?_
            rintro e w4 ⟨v4, rfl, hown4, hg4, hat4⟩
            obtain ⟨n4, hn4⟩ : ∃ n4, n4 = (f.data ++ d.data.toList).length := ⟨_, rfl⟩
            rw [← hn4] at hown4
            obtain ⟨a4, c4, rfl⟩ := own_slice hown4
            have hl4 : (Fil.mk (f.data ++ d.data.toList) f.safe).data.length = n4 := hn4.symm
            clear hn4
            have hz3 := h4.base.lt
            have hB4 := h4.base.stay (hg4.block bd h4.base.lt fun e => (h4.base.rowNe hrow3 e.symm).1 rfl) (hg4.block bm h4.base.map.lt fun e => (h4.base.rowNe hrow3 e.symm).2 rfl)
            have hr4 : RowsOk w4 own (delL s.data.toList l) := ⟨fun p hp => (h4.rows.1 p (mem_delL.1 hp).1).stay fun g hg => hg4.block g ((h4.rows.1 p (mem_delL.1 hp).1).lt hg) (fun e => hap p hp g e.symm hg), (h4.rows.del _).2⟩
            have hx4 : RowOk w4 own (.slice a4 (Fil.mk (f.data ++ d.data.toList) f.safe).data.length c4, Fil.mk (f.data ++ d.data.toList) f.safe) := by
              rw [hl4]; exact ⟨by rw [hl4]; exact hown4, fun g hg => (hat4 g hg).elim (hrow3.2 g) (hfr3 g)⟩
            have ha4 : ∀ p ∈ delL s.data.toList l, Apart (.slice a4 (Fil.mk (f.data ++ d.data.toList) f.safe).data.length c4, Fil.mk (f.data ++ d.data.toList) f.safe) p.2 := fun p hp g hg hg' => by
              rw [hl4] at hg
              rcases hat4 g hg with h1 | h1
              · exact hap p hp g h1 hg'
              · have := (h4.rows.1 p (mem_delL.1 hp).1).lt hg'; omega
            have hP := put_any w4 hB4 s hns a4 c4 (Fil.mk (f.data ++ d.data.toList) f.safe) hr4 hx4 ha4 (by omega)
            simp only [hl4] at hP
            have HL4 := hide hl4
            clear hl4
            have hO := ((Only.of_below hbx).trans (Only.of_grown (own := own) hg3 fun k e => by cases e; exact h3.base.ownD)).trans (Only.of_grown hg4 fun k e => hrow3.2 k e)
            clear hown4 hB4 hr4 hx4 ha4 hat4 hrow3 hrow2 c0 c1
            go_wp2_with fail
            refine hP.mono ?_
            rintro e w5 ⟨rfl, h5, hg5⟩
            go_wp2
            go_ret
            have hR5 := HOK.out
            rw [← HR.out, HV.out] at hR5
            rw [HV.out]
            refine ⟨rfl, ⟨bm, _, h5, ?_, hR5⟩, hO.trans (Only.of_grown hg5 fun k e => by cases e; exact h3.base.ownM)⟩
            show putL s.data.toList _ S.files = _
            rw [putL_map (fun x : Ent => x.2), ← HFL.out]
      · have HG := hide (show R = S.do (putL s.data.toList ⟨(fileOr s.data.toList S.files).data ++ d.data.toList, (fileOr s.data.toList S.files).safe⟩) by
          rw [HR.out]; unfold St.append; rw [if_neg (by rw [hnm]; simp), if_neg (by rintro (h1 | ⟨h1, _⟩); omega; rw [hgn] at h1; simp at h1)])
        clear hgn
        first | (go_region_held3 (AS bd bm S.room) (first | exact AS.drew (by assumption) | exact AS.below (by assumption) (by assumption))
          (first | (go_at_call 35; refine (hU _ (Below.refl _ _).drew).mono ?_; rintro e w2 ⟨rfl, hb2⟩; have hl2 := hLn w2 ((Below.refl _ _).drew.trans hb2)))) | fail
        clear hund hU hLn hl2
        have h3 := h2.below ((Below.refl _ _).drew.trans hb2)
        have hA2 : w2.heap[w1.heap.size]? = _ := (hb2.block w1.heap.size (Array.getElem?_eq_some_iff.1 hA).1).trans hA
        have hlt2 := (Array.getElem?_eq_some_iff.1 hA2).1
        have hb2' : Below w1.heap.size w1 w2 := hbW.drew.trans (hb2.mono hbW.size)
        have hbx : Below w.heap.size w w2 := hb1.trans (hb2'.mono hb1.size)
        have hrow2 := hrow.stay fun g hg => hb2'.block g (hrow.lt hg)
        have hT := takes_any w2 h3 hok.f0 hok.f1
        have hbdl := h1.base.lt
        clear hS c1 hb2 hA h1 h2 hbW hb1 hrow hown
        cases ht : (taken S.fuse S.down).1
        · have HV := hide (show R = (21, S.take.2) by rw [HG.out]; unfold St.do; rw [if_neg (by simp only [St.take]; rw [ht]; simp)])
          rw [ht] at hT
          go_wp2_with fail
          refine hT.mono ?_
          rintro e w3 ⟨rfl, h4, hg3⟩
          go_wp2
          go_ret
          rw [HV.out]
          exact ⟨rfl, ⟨bm, l, h4, HFL.out, hok.take⟩, (Only.of_below hbx).trans (Only.of_grown hg3 fun k e => by cases e; exact h3.base.ownD)⟩
        · have HV := hide (show R = (0, { S.take.2 with files := putL s.data.toList ⟨f.data ++ d.data.toList, f.safe⟩ S.files }) by
            rw [HG.out]; unfold St.do; rw [if_pos (by simp only [St.take]; exact ht)]
            rw [HFF.out, ← HFL.out])
          have HOK := hide (hok.append s.data.toList d.data.toList)
          rw [ht] at hT
          go_wp2_with fail
          refine hT.mono ?_
          rintro e w3 ⟨rfl, h4, hg3⟩
          have hA3 : w3.heap[w1.heap.size]? = _ := (hg3.block w1.heap.size hlt2 (by simp; omega)).trans hA2
          have c0 : w3.cell? ⟨w1.heap.size, 0, none⟩ = some (.slice ad f.data.length cap) := cell_of_block hA3 0
          have c1 : w3.cell? ⟨w1.heap.size, 1, none⟩ = some (.int .i64 f.safe) := cell_of_block hA3 1
          have hrow3 := hrow2.stay fun g hg => hg3.block g (hrow2.lt hg) (by simpa using (h3.base.rowNe hrow2 hg).1)
          have hfr3 : Fresh own w3 := hfr.later (Nat.le_trans hbx.size hg3.size)
          clear hA3 hA2 hT
          go_wp2_with fail
          refine (grown_any (.slice ad f.data.length cap) f.data f.safe d w3 hrow3.1 (by omega)).mono ?_
          rintro e w4 ⟨v4, rfl, hown4, hg4, hat4⟩
          obtain ⟨n4, hn4⟩ : ∃ n4, n4 = (f.data ++ d.data.toList).length := ⟨_, rfl⟩
          rw [← hn4] at hown4
          obtain ⟨a4, c4, rfl⟩ := own_slice hown4
          have hl4 : (Fil.mk (f.data ++ d.data.toList) f.safe).data.length = n4 := hn4.symm
          clear hn4
          have hz3 := h4.base.lt
          have hB4 := h4.base.stay (hg4.block bd h4.base.lt fun e => (h4.base.rowNe hrow3 e.symm).1 rfl) (hg4.block bm h4.base.map.lt fun e => (h4.base.rowNe hrow3 e.symm).2 rfl)
          have hr4 : RowsOk w4 own (delL s.data.toList l) := ⟨fun p hp => (h4.rows.1 p (mem_delL.1 hp).1).stay fun g hg => hg4.block g ((h4.rows.1 p (mem_delL.1 hp).1).lt hg) (fun e => hap p hp g e.symm hg), (h4.rows.del _).2⟩
          have hx4 : RowOk w4 own (.slice a4 (Fil.mk (f.data ++ d.data.toList) f.safe).data.length c4, Fil.mk (f.data ++ d.data.toList) f.safe) := by
            rw [hl4]; exact ⟨by rw [hl4]; exact hown4, fun g hg => (hat4 g hg).elim (hrow3.2 g) (hfr3 g)⟩
          have ha4 : ∀ p ∈ delL s.data.toList l, Apart (.slice a4 (Fil.mk (f.data ++ d.data.toList) f.safe).data.length c4, Fil.mk (f.data ++ d.data.toList) f.safe) p.2 := fun p hp g hg hg' => by
            rw [hl4] at hg
            rcases hat4 g hg with h1 | h1
            · exact hap p hp g h1 hg'
            · have := (h4.rows.1 p (mem_delL.1 hp).1).lt hg'; omega
          have hP := put_any w4 hB4 s hns a4 c4 (Fil.mk (f.data ++ d.data.toList) f.safe) hr4 hx4 ha4 (by omega)
          simp only [hl4] at hP
          have HL4 := hide hl4
          clear hl4
          have hO := ((Only.of_below hbx).trans (Only.of_grown (own := own) hg3 fun k e => by cases e; exact h3.base.ownD)).trans (Only.of_grown hg4 fun k e => hrow3.2 k e)
          clear hown4 hB4 hr4 hx4 ha4 hat4 hrow3 hrow2 c0 c1
          go_wp2_with fail
          refine hP.mono ?_
          rintro e w5 ⟨rfl, h5, hg5⟩
          go_wp2
          go_ret
          have hR5 := HOK.out
          rw [← HR.out, HV.out] at hR5
          rw [HV.out]
          refine ⟨rfl, ⟨bm, _, h5, ?_, hR5⟩, hO.trans (Only.of_grown hg5 fun k e => by cases e; exact h3.base.ownM)⟩
          show putL s.data.toList _ S.files = _
          rw [putL_map (fun x : Ent => x.2), ← HFL.out]

end Go.Proofs.Ytmgamfenbbcfhaa.Dk
