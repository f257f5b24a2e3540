/- Walks over the laws' own works; how a law's change is handed on. -/
import Derived.Test.YtcmdglmcmifflaaDoorLyOwn
import Derived.Test.YtcmdglmcmifflaaDoorLyEnd
namespace Go.Proofs.YtcmdglmcmifflaaDoor.Ly
open Go.RowKit Go.Joins Go.Sort Gk Rg

theorem lies_new {α : Type} {enc : α → List Value} {w : World} {g : Nat} {cs : Array Value} {T : TypeId} {l : List α} (h : w.heap[g]? = some (.cells cs T (0, 0))) (e : cs.toList = rc enc l) : Lies w enc (some ⟨g, 0, none⟩) l := by
  refine Or.inr ⟨g, 0, rfl, (Array.getElem?_eq_some_iff.1 h).1, fun j u hj => ?_⟩
  rw [Nat.zero_add, cell_of_block h, ← Array.getElem?_toList, e]
  exact hj
theorem mayw_1 : May [1] := ⟨by simp, by simp, by simp, by simp⟩
theorem mayw_01 : May [0, 1] := ⟨by simp, by simp, by simp, by simp⟩
theorem ow_1 (h : Int) : ow [1] h = 0 := by
  obtain ⟨c, hc, e⟩ := mayw_1.ow h
  have := hc.weighs.1
  simp at this
  rw [e, this]; rfl
theorem ow_01 (h : Int) : ow [0, 1] h = 1 := by
  obtain ⟨c, hc, e⟩ := mayw_01.ow h
  have h1 := hc.weighs
  match c, h1, e with
  | 0, h1, _ => simp at h1
  | 1, _, e => rw [e]; rfl
  | c + 2, h1, _ => simp at h1

/-- the example's change -/
abbrev wcell (b : Nat) (s : ByteArray) (d : Bool) : Array Value := #[.int .i64 1, .slice (some ⟨b, 0, none⟩) 1 1, .int .i64 2, .slice (some ⟨b + 1, 0, none⟩) 2 2, .string s, .bool d]
abbrev wc (b : Nat) (s : ByteArray) (d : Bool) : Ch := ⟨⟨1, some ⟨b, 0, none⟩, 1, [1]⟩, ⟨2, some ⟨b + 1, 0, none⟩, 2, [0, 1]⟩, s, d⟩
structure WB (b : Nat) (W : World) : Prop where
  b1 : W.heap[b]? = some (.cells #[.int .i64 1] IT (0, 0))
  b2 : W.heap[b + 1]? = some (.cells #[.int .i64 0, .int .i64 1] IT (0, 0))
theorem WB.below {b : Nat} {W W' : World} (h : WB b W) (hb : RowKit.Below W.heap.size W W') : WB b W' :=
  ⟨(hb.block b (Array.getElem?_eq_some_iff.1 h.b1).1).trans h.b1, (hb.block (b + 1) (Array.getElem?_eq_some_iff.1 h.b2).1).trans h.b2⟩
theorem WB.at {b : Nat} {W : World} (h : WB b W) (s : ByteArray) (d : Bool) : (wc b s d).At W :=
  ⟨⟨lies_new h.b1 rfl, by simp⟩, ⟨lies_new h.b2 rfl, by simp⟩⟩
theorem wc_may {b : Nat} {s : ByteArray} {d : Bool} (h : mayS s d = true) : (wc b s d).may = true := by
  have h1 : (La.mk 1 (some ⟨b, 0, none⟩) 1 [1]).may = true := La.may_iff.2 ⟨by simp, by simp, mayw_1⟩
  have h2 : (La.mk 2 (some ⟨b + 1, 0, none⟩) 2 [0, 1]).may = true := La.may_iff.2 ⟨by simp, by simp, mayw_01⟩
  simp [Ch.may, h1, h2, h]
theorem works_a {b : Nat} {W : World} (h : WB b W) (hT : Tab W) : Calls Tryd.prog 13 #[.agg (wcell b ⟨#[109]⟩ false), .string ⟨#[97]⟩] W fun e w' => e = .returned (.tuple #[.int .i64 1, .int .i64 0]) ∧ RowKit.Below W.heap.size W w' := by
  refine (own_call (wc b ⟨#[109]⟩ false) ⟨#[97]⟩ W (h.at _ _) (by show ByteArray.size ⟨#[109]⟩ ≤ _; decide) (by decide) hT).mono ?_
  rintro e w' ⟨hb, ⟨hm, _⟩ | ⟨_, rfl⟩⟩
  · rw [wc_may (by decide +kernel)] at hm; cases hm
  · have : (wc b ⟨#[109]⟩ false).ows ⟨#[97]⟩ = [0, 1] := by rw [Ch.ows, if_pos (by show (isEnd ⟨#[109]⟩ false || bl ⟨#[97]⟩ ⟨#[109]⟩) = true; decide +kernel)]
    rw [this, ow_01]
    exact ⟨rfl, hb⟩
theorem works_z {b : Nat} {W : World} (h : WB b W) (hT : Tab W) : Calls Tryd.prog 13 #[.agg (wcell b ⟨#[109]⟩ false), .string ⟨#[122]⟩] W fun e w' => e = .returned (.tuple #[.int .i64 0, .int .i64 0]) ∧ RowKit.Below W.heap.size W w' := by
  refine (own_call (wc b ⟨#[109]⟩ false) ⟨#[122]⟩ W (h.at _ _) (by show ByteArray.size ⟨#[109]⟩ ≤ _; decide) (by decide) hT).mono ?_
  rintro e w' ⟨hb, ⟨hm, _⟩ | ⟨_, rfl⟩⟩
  · rw [wc_may (by decide +kernel)] at hm; cases hm
  · have : (wc b ⟨#[109]⟩ false).ows ⟨#[122]⟩ = [1] := by rw [Ch.ows, if_neg (by show ¬ (isEnd ⟨#[109]⟩ false || bl ⟨#[122]⟩ ⟨#[109]⟩) = true; decide +kernel)]
    rw [this, ow_1]
    exact ⟨rfl, hb⟩
theorem works_e {b : Nat} {W : World} (h : WB b W) : Calls Tryd.prog 17 #[.agg (wcell b ⟨#[]⟩ true)] W fun e w' => ∃ a c, e = .returned (.tuple #[.agg #[.int .i64 2, .slice a 2 c], .int .i64 0]) ∧ RowKit.Below W.heap.size W w' ∧ Hid (Lies w' ienc a [0, 1]) := by
  refine (end_call (wc b ⟨#[]⟩ true) W (h.at _ _) (by show ByteArray.size ⟨#[]⟩ ≤ _; decide)).mono ?_
  rintro e w' ⟨hb, ⟨hm, _⟩ | ⟨_, hm, _⟩ | ⟨_, _, ⟨v, a, c, ws⟩, rfl, hv, hw, hat⟩⟩
  · rw [wc_may (by simp [mayS, isEnd, toList_nil.2]; decide)] at hm; cases hm
  · exact absurd hm (by show ¬ isEnd ⟨#[]⟩ true = false; simp [isEnd, toList_nil.2])
  · dsimp only at hv hw hat
    subst hv hw
    exact ⟨a, c, rfl, hb, hat.lies⟩

set_option maxHeartbeats 3200000 in
set_option maxRecDepth 100000 in
theorem works_any (w : World) (hT : Tab w) : Calls Tryd.prog 25 #[] w fun e w' => e = .returned (.bool true) ∧ RowKit.Below w.heap.size w w' := by
  have mixed : Tryd.prog.follows .mixedOrders = true := by kernel_rfl
  go_enter Tryd.func25, Tryd.ntmps25
  go_wp2_with fail
  obtain ⟨W0, hW0⟩ : ∃ W0, (((w.alloc (.cells #[.int .i64 1] IT)).alloc (.cells #[.int .i64 0, .int .i64 1] IT)).alloc (.cells (wcell w.heap.size ⟨#[109]⟩ false) CT)) = W0 := ⟨_, rfl⟩
  have B0 : RowKit.Below w.heap.size w W0 := by rw [← hW0]; exact (below_alloc2 _ _ _).alloc (by simp; omega) _
  have HWB : WB w.heap.size W0 := by
    rw [← hW0]
    refine ⟨(((below_alloc1 _ _).block _ (by simp; omega)).trans ((below_alloc1 _ _).block _ (by simp))).trans (heap_alloc_new w _), ((below_alloc1 _ _).block _ (by simp)).trans ?_⟩
    have := heap_alloc_new (w.alloc (.cells #[.int .i64 1] IT)) (.cells #[.int .i64 0, .int .i64 1] IT)
    rwa [World.size_alloc] at this
  have hx : W0.heap[w.heap.size + 1 + 1]? = some (.cells (wcell w.heap.size ⟨#[109]⟩ false) CT (0, 0)) := by
    rw [← hW0]
    have := heap_alloc_new ((w.alloc (.cells #[.int .i64 1] IT)).alloc (.cells #[.int .i64 0, .int .i64 1] IT)) (.cells (wcell w.heap.size ⟨#[109]⟩ false) CT)
    rwa [World.size_alloc, World.size_alloc] at this
  rw [hW0]
  obtain ⟨b, hb⟩ : ∃ b, w.heap.size = b := ⟨_, rfl⟩
  have HBb := hide hb
  rw [hb] at HWB hx ⊢
  clear hW0 hb
  refine (works_a HWB (hT.below B0)).mono ?_
  rintro e w1 ⟨rfl, hb1⟩
  have B1 := B0.trans (hb1.mono B0.size)
  replace HWB := HWB.below hb1
  have hx1 := (hb1.block _ (Array.getElem?_eq_some_iff.1 hx).1).trans hx
  clear hx hb1 B0
  have c0 := cell6 hx1 0 rfl; have c1 := cell6 hx1 1 rfl; have c2 := cell6 hx1 2 rfl; have c3 := cell6 hx1 3 rfl; have c4 := cell6 hx1 4 rfl; have c5 := cell6 hx1 5 rfl
  simp only [List.getElem_toArray, List.getElem_cons_zero, List.getElem_cons_succ] at c0 c1 c2 c3 c4 c5
  go_wp2_with fail
  refine (works_z HWB (hT.below B1)).mono ?_
  rintro e w2 ⟨rfl, hb2⟩
  have B2 := B1.trans (hb2.mono B1.size)
  replace HWB := HWB.below hb2
  have hx2 := (hb2.block _ (Array.getElem?_eq_some_iff.1 hx1).1).trans hx1
  clear hx1 hb2 B1 c0 c1 c2 c3 c4 c5
  have c0 := cell6 hx2 0 rfl; have c1 := cell6 hx2 1 rfl; have c2 := cell6 hx2 2 rfl; have c3 := cell6 hx2 3 rfl; have c4 := cell6 hx2 4 rfl; have c5 := cell6 hx2 5 rfl
  simp only [List.getElem_toArray, List.getElem_cons_zero, List.getElem_cons_succ] at c0 c1 c2 c3 c4 c5
  have f4 := unfrozen_of_block hx2 4
  have f5 := unfrozen_of_block hx2 5
  have hx3 : ((w2.setCell ⟨b + 1 + 1, 4, none⟩ (.string ⟨#[]⟩)).setCell ⟨b + 1 + 1, 5, none⟩ (.bool true)).heap[b + 1 + 1]? = some (.cells (wcell b ⟨#[]⟩ true) CT (0, 0)) := block_setCell (block_setCell hx2 (i := 4) (.string ⟨#[]⟩)) (i := 5) (.bool true)
  have HB3 : WB b ((w2.setCell ⟨b + 1 + 1, 4, none⟩ (.string ⟨#[]⟩)).setCell ⟨b + 1 + 1, 5, none⟩ (.bool true)) := ⟨by rw [Below.heap_setCell _ _ _ b (by show b ≠ b + 1 + 1; omega), Below.heap_setCell _ _ _ b (by show b ≠ b + 1 + 1; omega)]; exact HWB.b1, by rw [Below.heap_setCell _ _ _ (b + 1) (by show b + 1 ≠ b + 1 + 1; omega), Below.heap_setCell _ _ _ (b + 1) (by show b + 1 ≠ b + 1 + 1; omega)]; exact HWB.b2⟩
  have B3 := (B2.setCell (p := ⟨b + 1 + 1, 4, none⟩) (by have := HBb.out; show w.heap.size ≤ b + 1 + 1; omega) (.string ⟨#[]⟩)).setCell (p := ⟨b + 1 + 1, 5, none⟩) (by have := HBb.out; show w.heap.size ≤ b + 1 + 1; omega) (.bool true)
  obtain ⟨W3, hW3⟩ : ∃ W3, (w2.setCell ⟨b + 1 + 1, 4, none⟩ (.string ⟨#[]⟩)).setCell ⟨b + 1 + 1, 5, none⟩ (.bool true) = W3 := ⟨_, rfl⟩
  rw [hW3] at hx3 HB3 B3
  have HW3 := hide hW3
  clear hW3 HWB B2
  have d0 := cell6 hx3 0 rfl; have d1 := cell6 hx3 1 rfl; have d2 := cell6 hx3 2 rfl; have d3 := cell6 hx3 3 rfl; have d4 := cell6 hx3 4 rfl; have d5 := cell6 hx3 5 rfl
  simp only [List.getElem_toArray, List.getElem_cons_zero, List.getElem_cons_succ] at d0 d1 d2 d3 d4 d5
  go_wp2_with fail
  rw [HW3.out]
  refine (works_e HB3).mono ?_
  rintro e w4 ⟨a, c, rfl, hb4, HL⟩
  have B4 := B3.trans (hb4.mono B3.size)
  have HWB := HB3.below hb4
  have hx4 := (hb4.block _ (Array.getElem?_eq_some_iff.1 hx3).1).trans hx3
  clear hx3 hb4 B3 c0 c1 c2 c3 c4 c5 d0 d1 d2 d3 d4 d5 HB3 HW3 f4 f5 hx2
  have hEq := fun W (hg : RowKit.Below w4.heap.size w4 W) => equal_any ⟨2, a, c, [0, 1]⟩ ⟨2, some ⟨b + 1, 0, none⟩, 2, [0, 1]⟩ W ⟨HL.out.below hg, by simp⟩ ⟨lies_new (HWB.below hg).b2 rfl, by simp⟩
  simp only [decide_true, Bool.and_self] at hEq
  have hx5 := fun o => ((below_alloc1 w4 o).block _ (Array.getElem?_eq_some_iff.1 hx4).1).trans hx4
  have c2 := fun o => cell6 (hx5 o) 2 rfl
  have c3 := fun o => cell6 (hx5 o) 3 rfl
  simp only [List.getElem_toArray, List.getElem_cons_zero, List.getElem_cons_succ] at c2 c3
  go_wp2_with fail
  refine (hEq _ (below_alloc1 _ _)).mono ?_
  rintro e w5 ⟨rfl, hg5⟩
  go_wp2
  go_ret
  exact ⟨rfl, (B4.alloc B4.size _).trans (hg5.below.mono (by have := B4.size; simp; omega))⟩

end Go.Proofs.YtcmdglmcmifflaaDoor.Ly
