/- Layer 12: places held against one another. -/
import Derived.Test.YtgfmnffaknmcnaaGreatDoorSwPure
import Derived.Test.YtgfmnffaknmcnaaGreatDoorGQuiet
import Derived.Test.YtgfmnffaknmcnaaGreatDoorGRow
namespace Go.Proofs.YtgfmnffaknmcnaaGreatDoor.Sw
open Go.RowKit Go.Joins Go.Sort Gk

def penc (x : Pc) : List Value := [.int .i64 x.1, .int .i64 x.2.1, .int .i64 x.2.2]
set_option maxRecDepth 100000 in
theorem penc_len (x : Pc) : (penc x).length = 3 := rfl
set_option maxRecDepth 100000 in
theorem penc_one (x : Pc) : ∀ u ∈ penc x, u.oneCell' = true := by intro u hu; simp [penc] at hu; rcases hu with rfl | rfl | rfl <;> rfl
abbrev pval (x : Pc) : Value := .agg #[.int .i64 x.1, .int .i64 x.2.1, .int .i64 x.2.2]
abbrev PT : TypeId := 110
set_option maxRecDepth 100000 in
theorem p_info : (Tryz.prog.info? PT).map (fun i => (i.zero, i.size, i.bytes)) = some (some (.agg #[.int .i64 0, .int .i64 0, .int .i64 0]), 3, 24) := by kernel_rfl

def cz (a b : Int) : Int := if a < b then -1 else if b < a then 1 else 0
set_option maxHeartbeats 800000 in
set_option maxRecDepth 100000 in
theorem nanI_any (x : Int) (w : World) : Calls Tryz.prog 139 #[.int .i64 x] w fun e w' => e = .returned (.bool false) ∧ w' = w := by
  go_enter Tryz.func139, Tryz.ntmps139
  go_wp2
  go_ret
  exact ⟨by simp, rfl⟩
set_option maxHeartbeats 1600000 in
set_option maxRecDepth 100000 in
theorem cmpI_any (x y : Int) (w : World) : Calls Tryz.prog 119 #[.int .i64 x, .int .i64 y] w fun e w' => e = .returned (.int .i64 (cz x y)) ∧ w' = w := by
  go_enter Tryz.func119, Tryz.ntmps119
  go_wp2_with (go_at_call 139; refine (nanI_any _ _).mono ?_; rintro e w' ⟨rfl, hw⟩; rw [hw])
  all_goals (go_ret; refine ⟨?_, rfl⟩; unfold cz; (repeat' split) <;> first | rfl | (exfalso; omega))
def orV (x y z : Int) : Int := if x = 0 then (if y = 0 then z else y) else x
set_option maxHeartbeats 1600000 in
set_option maxRecDepth 100000 in
theorem or_any (g : Nat) (x y z : Int) (w : World) (c0 : w.cell? ⟨g, 0, none⟩ = some (.int .i64 x)) (c1 : w.cell? ⟨g, 1, none⟩ = some (.int .i64 y)) (c2 : w.cell? ⟨g, 2, none⟩ = some (.int .i64 z)) :
    Calls Tryz.prog 118 #[.slice (some ⟨g, 0, none⟩) 3 3] w fun e w' => e = .returned (.int .i64 (orV x y z)) ∧ w' = w := by
  go_enter Tryz.func118, Tryz.ntmps118
  go_wp2
  go_loop [8] (fun i => i = .int .i64 0 ∨ i = .int .i64 1 ∧ x = 0 ∨ i = .int .i64 2 ∧ x = 0 ∧ y = 0 ∨ i = .int .i64 3 ∧ x = 0 ∧ y = 0 ∧ z = 0) (fun i => 3 - (intOf i).toNat)
  case atStart => exact Or.inl rfl
  case round =>
    rcases hrel with rfl | ⟨rfl, hx⟩ | ⟨rfl, hx, hy⟩ | ⟨rfl, hx, hy, hz⟩
    · by_cases hx : x = 0
      · subst hx
        go_wp2
        go_round
        case rel => exact Or.inr (Or.inl ⟨by go_num, trivial⟩)
        case measure => simp [intOf]
      · go_wp2
        go_ret
        exact ⟨ret_int (by rw [orV, if_neg hx]), rfl⟩
    · by_cases hy : y = 0
      · subst hy
        go_wp2
        go_round
        case rel => exact Or.inr (Or.inr (Or.inl ⟨by go_num, hx, trivial⟩))
        case measure => simp [intOf]
      · subst hx
        go_wp2
        go_ret
        exact ⟨ret_int (by rw [orV, if_pos rfl, if_neg hy]), rfl⟩
    · by_cases hz : z = 0
      · subst hz
        go_wp2
        go_round
        case rel => exact Or.inr (Or.inr (Or.inr ⟨by go_num, hx, hy, trivial⟩))
        case measure => simp [intOf]
      · subst hx
        subst hy
        go_wp2
        go_ret
        exact ⟨ret_int (by simp [orV]), rfl⟩
    · subst hx
      subst hy
      subst hz
      go_wp2
      go_ret
      exact ⟨ret_int (by simp [orV]), rfl⟩

/-- how two places stand to one another -/
def cf (x y : Pc) : Int := orV (cz x.1 y.1) (cz x.2.1 y.2.1) (cz x.2.2 y.2.2)
structure Grw (w w' : World) : Prop where
  gr : Gr w w'
abbrev CmpS (W0 : World) (b c : Nat) (x y : Pc) (W : World) : Prop :=
  W.cell? ⟨b, 0, none⟩ = some (.int .i64 x.1) ∧ W.cell? ⟨b, 1, none⟩ = some (.int .i64 x.2.1) ∧ W.cell? ⟨b, 2, none⟩ = some (.int .i64 x.2.2) ∧
  W.cell? ⟨c, 0, none⟩ = some (.int .i64 y.1) ∧ W.cell? ⟨c, 1, none⟩ = some (.int .i64 y.2.1) ∧ W.cell? ⟨c, 2, none⟩ = some (.int .i64 y.2.2) ∧ Grw W0 W
section
variable {W0 : World} {b c : Nat} {x y : Pc} {W : World}
set_option maxRecDepth 100000 in
theorem CmpS.drew (h : CmpS W0 b c x y W) : CmpS W0 b c x y W.drew := ⟨h.1, h.2.1, h.2.2.1, h.2.2.2.1, h.2.2.2.2.1, h.2.2.2.2.2.1, ⟨h.2.2.2.2.2.2.gr.drew⟩⟩
set_option maxRecDepth 100000 in
theorem CmpS.alloc (h : CmpS W0 b c x y W) (o : Obj) : CmpS W0 b c x y (W.alloc o) := by
  have hb := World.block_lt_of_cell? W _ h.1
  have hc := World.block_lt_of_cell? W _ h.2.2.2.1
  exact ⟨((below_alloc1 W o).cell (p := ⟨b, 0, none⟩) hb).trans h.1, ((below_alloc1 W o).cell (p := ⟨b, 1, none⟩) hb).trans h.2.1, ((below_alloc1 W o).cell (p := ⟨b, 2, none⟩) hb).trans h.2.2.1,
    ((below_alloc1 W o).cell (p := ⟨c, 0, none⟩) hc).trans h.2.2.2.1, ((below_alloc1 W o).cell (p := ⟨c, 1, none⟩) hc).trans h.2.2.2.2.1, ((below_alloc1 W o).cell (p := ⟨c, 2, none⟩) hc).trans h.2.2.2.2.2.1, ⟨h.2.2.2.2.2.2.gr.alloc o⟩⟩
end

set_option maxHeartbeats 3200000 in
set_option maxRecDepth 100000 in
theorem compare_any (x y : Pc) (w : World) :
    Calls Tryz.prog 95 #[pval x, pval y] w fun e w' => e = .returned (.int .i64 (cf x y)) ∧ Gr w w' := by
  have mixed : Tryz.prog.follows .mixedOrders = true := by kernel_rfl
  have h3 := fun W g c0 c1 c2 => or_any g (cz x.1 y.1) (cz x.2.1 y.2.1) (cz x.2.2 y.2.2) W c0 c1 c2
  rw [show orV (cz x.1 y.1) (cz x.2.1 y.2.1) (cz x.2.2 y.2.2) = cf x y from rfl] at h3
  generalize cf x y = r at h3 ⊢
  go_enter Tryz.func95, Tryz.ntmps95
  go_wp2_with fail
  obtain ⟨W1, hW1⟩ : ∃ W1, w.alloc (.cells #[.int .i64 x.1, .int .i64 x.2.1, .int .i64 x.2.2] PT) = W1 := ⟨_, rfl⟩
  have hp1 : W1.heap[w.heap.size]? = some (.cells #[.int .i64 x.1, .int .i64 x.2.1, .int .i64 x.2.2] PT) := by rw [← hW1]; exact heap_alloc_new w _
  have hz1 : W1.heap.size = w.heap.size + 1 := by rw [← hW1]; simp
  obtain ⟨W0, hW0⟩ : ∃ W0, W1.alloc (.cells #[.int .i64 y.1, .int .i64 y.2.1, .int .i64 y.2.2] PT) = W0 := ⟨_, rfl⟩
  have hq0 : W0.heap[w.heap.size + 1]? = some (.cells #[.int .i64 y.1, .int .i64 y.2.1, .int .i64 y.2.2] PT) := by rw [← hW0, ← hz1]; exact heap_alloc_new W1 _
  have hp0 : W0.heap[w.heap.size]? = some (.cells #[.int .i64 x.1, .int .i64 x.2.1, .int .i64 x.2.2] PT) := by rw [← hW0]; exact ((below_alloc1 W1 _).block _ (by omega)).trans hp1
  have hS : CmpS W0 w.heap.size (w.heap.size + 1) x y W0 := ⟨cell_of_block hp0 0, cell_of_block hp0 1, cell_of_block hp0 2, cell_of_block hq0 0, cell_of_block hq0 1, cell_of_block hq0 2, ⟨Gr.refl _⟩⟩
  have hG : Gr w W0 := by rw [← hW0, ← hW1]; exact (Gr.alloc1 _ _).alloc _
  rw [hW1, hW0]
  generalize w.heap.size + 1 = c at hS ⊢
  generalize w.heap.size = b at hS ⊢
  clear hW0 hW1 hp1 hq0 hp0 hz1
  go_region_held3 (CmpS W0 b c x y) (first | with_reducible exact CmpS.drew (by assumption) | with_reducible exact CmpS.alloc (by assumption) _ | with_reducible assumption | with_reducible exact CmpS.drew (CmpS.alloc (by assumption) _))
    (first
      | (go_at_call 119; refine (cmpI_any _ _ _).mono ?_; rintro e w1 ⟨rfl, hw1⟩; obtain rfl := hw1.symm)
      | (go_at_call 118; refine (h3 _ _ (by show (World.alloc _ _).cell? _ = _; rw [cell_of_block (heap_alloc_new _ _)]; rfl) (by show (World.alloc _ _).cell? _ = _; rw [cell_of_block (heap_alloc_new _ _)]; rfl) (by show (World.alloc _ _).cell? _ = _; rw [cell_of_block (heap_alloc_new _ _)]; rfl)).mono ?_; rintro e w3 ⟨rfl, hw3⟩; obtain rfl := hw3.symm))
  go_wp2
  go_ret
  exact ⟨rfl, (hG.alloc _).drew⟩

end Go.Proofs.YtgfmnffaknmcnaaGreatDoor.Sw
