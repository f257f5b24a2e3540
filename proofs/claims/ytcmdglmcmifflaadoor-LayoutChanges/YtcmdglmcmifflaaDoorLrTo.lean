/- Layer 7, the document's answer: changes: To, End. -/
import Derived.Test.YtcmdglmcmifflaaDoorLrOwn
namespace Go.Proofs.YtcmdglmcmifflaaDoor.Ly
open Go.RowKit Go.Joins Go.Sort Gk Rg

/-- To is refused, as the document has it -/
def rNo (c : Ch) (s : ByteArray) : Bool := c.done || (bl s c.cur || decide (64 < s.size))

set_option maxRecDepth 100000 in
set_option maxHeartbeats 1600000 in
theorem to_ref (c : Ch) (s : ByteArray) (w : World) (h : c.At w) (hs : c.cur.size ≤ 9223372036854775807) (hk : s.size ≤ 9223372036854775807) :
    Calls Tryd.prog 16 #[c.val, .string s] w fun e w' => RowKit.Below w.heap.size w w' ∧
      ((c.may = false ∧ e = .returned (.tuple #[zc, .int .i64 70])) ∨ (c.may = true ∧ rNo c s = true ∧ e = .returned (.tuple #[zc, .int .i64 1])) ∨ (c.may = true ∧ rNo c s = false ∧ e = .returned (.tuple #[({c with cur := s} : Ch).val, .int .i64 0]))) := by
  have hx0 : c.Box RCT w.heap.size ((w.alloc (.cells c.cells RCT)).alloc (.cells zcells RCT)) := ⟨by rw [heap_alloc_old _ _ (by simp)]; exact heap_alloc_new _ _⟩
  have hb0 : RowKit.Below w.heap.size w ((w.alloc (.cells c.cells RCT)).alloc (.cells zcells RCT)) := (below_b1 w _).alloc (by simp) _
  have hr0 : ((w.alloc (.cells c.cells RCT)).alloc (.cells zcells RCT)).heap[w.heap.size + 1]? = some (.cells zcells RCT (0, 0)) := by
    have := heap_alloc_new (w.alloc (.cells c.cells RCT)) (.cells zcells RCT)
    simpa using this
  have hM := cmay_ref c _ (h.below hb0) hs
  cases hm : c.may
  · rw [hm] at hM
    go_enter Tryd.func16, Tryd.ntmps16
    go_wp2_with fail
    refine hM.mono ?_
    rintro e w1 ⟨rfl, hb1⟩
    have hb2 := hb0.trans (hb1.mono hb0.size)
    have hx1 : c.Box RCT w.heap.size w1 := ⟨(hb1.block _ hx0.lt).trans hx0.blk⟩
    have hr1 := (hb1.block _ (Array.getElem?_eq_some_iff.1 hr0).1).trans hr0
    have r0 : w1.cell? ⟨w.heap.size + 1, 0, none⟩ = some (.int .i64 0) := by rw [cell_of_block hr1]; rfl
    have f0 := unfrozen_of_block hr1 0
    have r1 : w1.cell? ⟨w.heap.size + 1, 1, none⟩ = some (.slice none 0 0) := by rw [cell_of_block hr1]; rfl
    have f1 := unfrozen_of_block hr1 1
    have r2 : w1.cell? ⟨w.heap.size + 1, 2, none⟩ = some (.int .i64 0) := by rw [cell_of_block hr1]; rfl
    have f2 := unfrozen_of_block hr1 2
    have r3 : w1.cell? ⟨w.heap.size + 1, 3, none⟩ = some (.slice none 0 0) := by rw [cell_of_block hr1]; rfl
    have f3 := unfrozen_of_block hr1 3
    have r4 : w1.cell? ⟨w.heap.size + 1, 4, none⟩ = some (.string ⟨#[]⟩) := by rw [cell_of_block hr1]; rfl
    have f4 := unfrozen_of_block hr1 4
    have r5 : w1.cell? ⟨w.heap.size + 1, 5, none⟩ = some (.bool false) := by rw [cell_of_block hr1]; rfl
    have f5 := unfrozen_of_block hr1 5
    clear hM hx0 hb1 hr0
    go_wp2
    refine bodyPost_ret (v := .tuple #[zc, .int .i64 70]) (by simp [results, Tryd.results16, go_sem, r0, r1, r2, r3, r4, r5]) rfl ?_
    have hfin := set6_below hb2 (Nat.le_succ _) (.int .i64 0) (.slice none 0 0) (.int .i64 0) (.slice none 0 0) (.string ⟨#[]⟩) (.bool false)
    first
      | exact ⟨hfin, Or.inl ⟨trivial, rfl⟩⟩
      | exact ⟨hfin, Or.inl rfl⟩
  · rw [hm] at hM
    have hbl := less_bl s c.cur
    unfold rNo
    cases hd : c.done
    · cases hB : bl s c.cur
      · rw [hB] at hbl
        by_cases h64 : 64 < s.size
        · have i64 : (64 : Int) < (s.size : Int) := by omega
          rw [decide_eq_true h64]
          have HD := hide hd
          clear hd hB
          go_enter Tryd.func16, Tryd.ntmps16
          go_wp2_with fail
          refine hM.mono ?_
          rintro e w1 ⟨rfl, hb1⟩
          have hb2 := hb0.trans (hb1.mono hb0.size)
          have hx1 : c.Box RCT w.heap.size w1 := ⟨(hb1.block _ hx0.lt).trans hx0.blk⟩
          have hr1 := (hb1.block _ (Array.getElem?_eq_some_iff.1 hr0).1).trans hr0
          have r0 : w1.cell? ⟨w.heap.size + 1, 0, none⟩ = some (.int .i64 0) := by rw [cell_of_block hr1]; rfl
          have f0 := unfrozen_of_block hr1 0
          have r1 : w1.cell? ⟨w.heap.size + 1, 1, none⟩ = some (.slice none 0 0) := by rw [cell_of_block hr1]; rfl
          have f1 := unfrozen_of_block hr1 1
          have r2 : w1.cell? ⟨w.heap.size + 1, 2, none⟩ = some (.int .i64 0) := by rw [cell_of_block hr1]; rfl
          have f2 := unfrozen_of_block hr1 2
          have r3 : w1.cell? ⟨w.heap.size + 1, 3, none⟩ = some (.slice none 0 0) := by rw [cell_of_block hr1]; rfl
          have f3 := unfrozen_of_block hr1 3
          have r4 : w1.cell? ⟨w.heap.size + 1, 4, none⟩ = some (.string ⟨#[]⟩) := by rw [cell_of_block hr1]; rfl
          have f4 := unfrozen_of_block hr1 4
          have r5 : w1.cell? ⟨w.heap.size + 1, 5, none⟩ = some (.bool false) := by rw [cell_of_block hr1]; rfl
          have f5 := unfrozen_of_block hr1 5
          have c4 := hx1.c4
          have c5 := hx1.c5
          rw [HD.out] at c5
          clear hM hx0 hb1 hr0
          go_wp2
          refine bodyPost_ret (v := .tuple #[zc, .int .i64 1]) (by simp [results, Tryd.results16, go_sem, r0, r1, r2, r3, r4, r5]) rfl ?_
          have hfin := set6_below hb2 (Nat.le_succ _) (.int .i64 0) (.slice none 0 0) (.int .i64 0) (.slice none 0 0) (.string ⟨#[]⟩) (.bool false)
          first
            | exact ⟨hfin, Or.inr (Or.inl ⟨trivial, rfl, rfl⟩)⟩
            | exact ⟨hfin, Or.inr (Or.inl rfl)⟩
            | exact ⟨hfin, Or.inr (Or.inl ⟨rfl, rfl⟩)⟩
            | exact ⟨hfin, by simp⟩
        · have i64 : ¬ (64 : Int) < (s.size : Int) := by omega
          rw [decide_eq_false h64]
          have HD := hide hd
          clear hd hB
          go_enter Tryd.func16, Tryd.ntmps16
          go_wp2_with fail
          refine hM.mono ?_
          rintro e w1 ⟨rfl, hb1⟩
          have hb2 := hb0.trans (hb1.mono hb0.size)
          have hx1 : c.Box RCT w.heap.size w1 := ⟨(hb1.block _ hx0.lt).trans hx0.blk⟩
          have hr1 := (hb1.block _ (Array.getElem?_eq_some_iff.1 hr0).1).trans hr0
          have r0 : w1.cell? ⟨w.heap.size + 1, 0, none⟩ = some (.int .i64 0) := by rw [cell_of_block hr1]; rfl
          have f0 := unfrozen_of_block hr1 0
          have r1 : w1.cell? ⟨w.heap.size + 1, 1, none⟩ = some (.slice none 0 0) := by rw [cell_of_block hr1]; rfl
          have f1 := unfrozen_of_block hr1 1
          have r2 : w1.cell? ⟨w.heap.size + 1, 2, none⟩ = some (.int .i64 0) := by rw [cell_of_block hr1]; rfl
          have f2 := unfrozen_of_block hr1 2
          have r3 : w1.cell? ⟨w.heap.size + 1, 3, none⟩ = some (.slice none 0 0) := by rw [cell_of_block hr1]; rfl
          have f3 := unfrozen_of_block hr1 3
          have r4 : w1.cell? ⟨w.heap.size + 1, 4, none⟩ = some (.string ⟨#[]⟩) := by rw [cell_of_block hr1]; rfl
          have f4 := unfrozen_of_block hr1 4
          have r5 : w1.cell? ⟨w.heap.size + 1, 5, none⟩ = some (.bool false) := by rw [cell_of_block hr1]; rfl
          have f5 := unfrozen_of_block hr1 5
          have c0 := hx1.c0
          have c1 := hx1.c1
          have c2 := hx1.c2
          have c3 := hx1.c3
          have c4 := hx1.c4
          have c5 := hx1.c5
          have g4 := unfrozen_of_block hx1.blk 4
          have hxl := hx1.lt
          rw [HD.out] at c5
          clear hM hx0 hb1 hr0
          have hz1 : w.heap.size ≠ w.heap.size + 1 := by omega
          go_wp2
          refine bodyPost_ret (v := .tuple #[({c with cur := s, done := false} : Ch).val, .int .i64 0]) (by simp [results, Tryd.results16, go_sem, r0, r1, r2, r3, r4, r5]) rfl ?_
          have hfin := set6_below (hb2.setCell (p := ⟨w.heap.size, 4, none⟩) (Nat.le_refl _) (.string s)) (Nat.le_succ _) (.int .i64 c.was.v) (.slice c.was.a c.was.ws.length c.was.c) (.int .i64 c.will.v) (.slice c.will.a c.will.ws.length c.will.c) (.string s) (.bool false)
          first
            | exact ⟨hfin, Or.inr (Or.inr ⟨trivial, rfl, rfl⟩)⟩
            | exact ⟨hfin, Or.inr (Or.inr rfl)⟩
            | exact ⟨hfin, by simp⟩
      · rw [hB] at hbl
        have HD := hide hd
        clear hd hB
        go_enter Tryd.func16, Tryd.ntmps16
        go_wp2_with fail
        refine hM.mono ?_
        rintro e w1 ⟨rfl, hb1⟩
        have hb2 := hb0.trans (hb1.mono hb0.size)
        have hx1 : c.Box RCT w.heap.size w1 := ⟨(hb1.block _ hx0.lt).trans hx0.blk⟩
        have hr1 := (hb1.block _ (Array.getElem?_eq_some_iff.1 hr0).1).trans hr0
        have r0 : w1.cell? ⟨w.heap.size + 1, 0, none⟩ = some (.int .i64 0) := by rw [cell_of_block hr1]; rfl
        have f0 := unfrozen_of_block hr1 0
        have r1 : w1.cell? ⟨w.heap.size + 1, 1, none⟩ = some (.slice none 0 0) := by rw [cell_of_block hr1]; rfl
        have f1 := unfrozen_of_block hr1 1
        have r2 : w1.cell? ⟨w.heap.size + 1, 2, none⟩ = some (.int .i64 0) := by rw [cell_of_block hr1]; rfl
        have f2 := unfrozen_of_block hr1 2
        have r3 : w1.cell? ⟨w.heap.size + 1, 3, none⟩ = some (.slice none 0 0) := by rw [cell_of_block hr1]; rfl
        have f3 := unfrozen_of_block hr1 3
        have r4 : w1.cell? ⟨w.heap.size + 1, 4, none⟩ = some (.string ⟨#[]⟩) := by rw [cell_of_block hr1]; rfl
        have f4 := unfrozen_of_block hr1 4
        have r5 : w1.cell? ⟨w.heap.size + 1, 5, none⟩ = some (.bool false) := by rw [cell_of_block hr1]; rfl
        have f5 := unfrozen_of_block hr1 5
        have c4 := hx1.c4
        have c5 := hx1.c5
        rw [HD.out] at c5
        clear hM hx0 hb1 hr0
        go_wp2
        refine bodyPost_ret (v := .tuple #[zc, .int .i64 1]) (by simp [results, Tryd.results16, go_sem, r0, r1, r2, r3, r4, r5]) rfl ?_
        have hfin := set6_below hb2 (Nat.le_succ _) (.int .i64 0) (.slice none 0 0) (.int .i64 0) (.slice none 0 0) (.string ⟨#[]⟩) (.bool false)
        first
          | exact ⟨hfin, Or.inr (Or.inl ⟨trivial, rfl, rfl⟩)⟩
          | exact ⟨hfin, Or.inr (Or.inl rfl)⟩
          | exact ⟨hfin, Or.inr (Or.inl ⟨rfl, rfl⟩)⟩
          | exact ⟨hfin, by simp⟩
    · have HD := hide hd
      clear hd
      go_enter Tryd.func16, Tryd.ntmps16
      go_wp2_with fail
      refine hM.mono ?_
      rintro e w1 ⟨rfl, hb1⟩
      have hb2 := hb0.trans (hb1.mono hb0.size)
      have hx1 : c.Box RCT w.heap.size w1 := ⟨(hb1.block _ hx0.lt).trans hx0.blk⟩
      have hr1 := (hb1.block _ (Array.getElem?_eq_some_iff.1 hr0).1).trans hr0
      have r0 : w1.cell? ⟨w.heap.size + 1, 0, none⟩ = some (.int .i64 0) := by rw [cell_of_block hr1]; rfl
      have f0 := unfrozen_of_block hr1 0
      have r1 : w1.cell? ⟨w.heap.size + 1, 1, none⟩ = some (.slice none 0 0) := by rw [cell_of_block hr1]; rfl
      have f1 := unfrozen_of_block hr1 1
      have r2 : w1.cell? ⟨w.heap.size + 1, 2, none⟩ = some (.int .i64 0) := by rw [cell_of_block hr1]; rfl
      have f2 := unfrozen_of_block hr1 2
      have r3 : w1.cell? ⟨w.heap.size + 1, 3, none⟩ = some (.slice none 0 0) := by rw [cell_of_block hr1]; rfl
      have f3 := unfrozen_of_block hr1 3
      have r4 : w1.cell? ⟨w.heap.size + 1, 4, none⟩ = some (.string ⟨#[]⟩) := by rw [cell_of_block hr1]; rfl
      have f4 := unfrozen_of_block hr1 4
      have r5 : w1.cell? ⟨w.heap.size + 1, 5, none⟩ = some (.bool false) := by rw [cell_of_block hr1]; rfl
      have f5 := unfrozen_of_block hr1 5
      have c4 := hx1.c4
      have c5 := hx1.c5
      rw [HD.out] at c5
      clear hM hx0 hb1 hr0
      go_wp2
      refine bodyPost_ret (v := .tuple #[zc, .int .i64 1]) (by simp [results, Tryd.results16, go_sem, r0, r1, r2, r3, r4, r5]) rfl ?_
      have hfin := set6_below hb2 (Nat.le_succ _) (.int .i64 0) (.slice none 0 0) (.int .i64 0) (.slice none 0 0) (.string ⟨#[]⟩) (.bool false)
      first
        | exact ⟨hfin, Or.inr (Or.inl ⟨trivial, rfl, rfl⟩)⟩
        | exact ⟨hfin, Or.inr (Or.inl rfl)⟩
        | exact ⟨hfin, Or.inr (Or.inl ⟨rfl, rfl⟩)⟩
        | exact ⟨hfin, by simp⟩

set_option maxRecDepth 100000 in
set_option maxHeartbeats 1600000 in
theorem end_ref (c : Ch) (w : World) (h : c.At w) (hs : c.cur.size ≤ 9223372036854775807) :
    Calls Tryd.prog 18 #[c.val] w fun e w' => RowKit.Below w.heap.size w w' ∧
      ((c.may = false ∧ e = .returned (.tuple #[zl, .int .i64 70])) ∨ (c.may = true ∧ c.done = false ∧ e = .returned (.tuple #[zl, .int .i64 1])) ∨ (c.may = true ∧ c.done = true ∧ e = .returned (.tuple #[c.will.val, .int .i64 0]))) := by
  have hx0 : c.Box RCT w.heap.size ((w.alloc (.cells c.cells RCT)).alloc (.cells #[.int .i64 0, .slice none 0 0] 34)) := ⟨by rw [heap_alloc_old _ _ (by simp)]; exact heap_alloc_new _ _⟩
  have hb0 : RowKit.Below w.heap.size w ((w.alloc (.cells c.cells RCT)).alloc (.cells #[.int .i64 0, .slice none 0 0] 34)) := (below_b1 w _).alloc (by simp) _
  have hr0 : ((w.alloc (.cells c.cells RCT)).alloc (.cells #[.int .i64 0, .slice none 0 0] 34)).heap[w.heap.size + 1]? = some (.cells #[.int .i64 0, .slice none 0 0] 34 (0, 0)) := by
    have := heap_alloc_new (w.alloc (.cells c.cells RCT)) (.cells #[.int .i64 0, .slice none 0 0] 34)
    simpa using this
  have hM := cmay_ref c _ (h.below hb0) hs
  cases hm : c.may
  · rw [hm] at hM
    go_enter Tryd.func18, Tryd.ntmps18
    go_wp2_with fail
    refine hM.mono ?_
    rintro e w1 ⟨rfl, hb1⟩
    have hb2 := hb0.trans (hb1.mono hb0.size)
    have hx1 : c.Box RCT w.heap.size w1 := ⟨(hb1.block _ hx0.lt).trans hx0.blk⟩
    have hr1 := (hb1.block _ (Array.getElem?_eq_some_iff.1 hr0).1).trans hr0
    have r0 : w1.cell? ⟨w.heap.size + 1, 0, none⟩ = some (.int .i64 0) := by rw [cell_of_block hr1]; rfl
    have f0 := unfrozen_of_block hr1 0
    have r1 : w1.cell? ⟨w.heap.size + 1, 1, none⟩ = some (.slice none 0 0) := by rw [cell_of_block hr1]; rfl
    have f1 := unfrozen_of_block hr1 1
    clear hM hx0 hb1 hr0
    go_wp2
    refine bodyPost_ret (v := .tuple #[zl, .int .i64 70]) (by simp [results, Tryd.results18, go_sem, r0, r1]) rfl ?_
    have hfin := ((hb2.setCell (p := ⟨w.heap.size + 1, 0, none⟩) (Nat.le_succ _) (.int .i64 0)).setCell (p := ⟨w.heap.size + 1, 1, none⟩) (Nat.le_succ _) (.slice none 0 0))
    first
      | exact ⟨hfin, Or.inl ⟨trivial, rfl⟩⟩
      | exact ⟨hfin, Or.inl rfl⟩
  · rw [hm] at hM
    cases hd : c.done
    · have HD := hide hd
      clear hd
      go_enter Tryd.func18, Tryd.ntmps18
      go_wp2_with fail
      refine hM.mono ?_
      rintro e w1 ⟨rfl, hb1⟩
      have hb2 := hb0.trans (hb1.mono hb0.size)
      have hx1 : c.Box RCT w.heap.size w1 := ⟨(hb1.block _ hx0.lt).trans hx0.blk⟩
      have hr1 := (hb1.block _ (Array.getElem?_eq_some_iff.1 hr0).1).trans hr0
      have r0 : w1.cell? ⟨w.heap.size + 1, 0, none⟩ = some (.int .i64 0) := by rw [cell_of_block hr1]; rfl
      have f0 := unfrozen_of_block hr1 0
      have r1 : w1.cell? ⟨w.heap.size + 1, 1, none⟩ = some (.slice none 0 0) := by rw [cell_of_block hr1]; rfl
      have f1 := unfrozen_of_block hr1 1
      have c5 := hx1.c5
      rw [HD.out] at c5
      clear hM hx0 hb1 hr0
      go_wp2
      refine bodyPost_ret (v := .tuple #[zl, .int .i64 1]) (by simp [results, Tryd.results18, go_sem, r0, r1]) rfl ?_
      have hfin := ((hb2.setCell (p := ⟨w.heap.size + 1, 0, none⟩) (Nat.le_succ _) (.int .i64 0)).setCell (p := ⟨w.heap.size + 1, 1, none⟩) (Nat.le_succ _) (.slice none 0 0))
      first
        | exact ⟨hfin, Or.inr (Or.inl ⟨trivial, rfl, rfl⟩)⟩
        | exact ⟨hfin, Or.inr (Or.inl rfl)⟩
        | exact ⟨hfin, Or.inr (Or.inl ⟨trivial, rfl⟩)⟩
        | exact ⟨hfin, by simp⟩
    · have HD := hide hd
      clear hd
      go_enter Tryd.func18, Tryd.ntmps18
      go_wp2_with fail
      refine hM.mono ?_
      rintro e w1 ⟨rfl, hb1⟩
      have hb2 := hb0.trans (hb1.mono hb0.size)
      have hx1 : c.Box RCT w.heap.size w1 := ⟨(hb1.block _ hx0.lt).trans hx0.blk⟩
      have hr1 := (hb1.block _ (Array.getElem?_eq_some_iff.1 hr0).1).trans hr0
      have r0 : w1.cell? ⟨w.heap.size + 1, 0, none⟩ = some (.int .i64 0) := by rw [cell_of_block hr1]; rfl
      have f0 := unfrozen_of_block hr1 0
      have r1 : w1.cell? ⟨w.heap.size + 1, 1, none⟩ = some (.slice none 0 0) := by rw [cell_of_block hr1]; rfl
      have f1 := unfrozen_of_block hr1 1
      have c2 := hx1.c2
      have c3 := hx1.c3
      have c5 := hx1.c5
      rw [HD.out] at c5
      clear hM hx0 hb1 hr0
      go_wp2
      refine bodyPost_ret (v := .tuple #[c.will.val, .int .i64 0]) (by simp [results, Tryd.results18, go_sem, r0, r1]) rfl ?_
      have hfin := ((hb2.setCell (p := ⟨w.heap.size + 1, 0, none⟩) (Nat.le_succ _) (.int .i64 c.will.v)).setCell (p := ⟨w.heap.size + 1, 1, none⟩) (Nat.le_succ _) (.slice c.will.a c.will.ws.length c.will.c))
      first
        | exact ⟨hfin, Or.inr (Or.inr ⟨trivial, rfl, rfl⟩)⟩
        | exact ⟨hfin, Or.inr rfl⟩
        | exact ⟨hfin, Or.inr (Or.inr rfl)⟩
        | exact ⟨hfin, by simp⟩

end Go.Proofs.YtcmdglmcmifflaaDoor.Ly
