/- The comparison of the points at two places, and what the sort asks of it. -/
import Derived.Test.YtcmdglmcmifflaaDoorRsSort
import Derived.Test.YtcmdglmcmifflaaDoorRgPure
import Derived.Test.YtcmdglmcmifflaaDoorGQuiet
namespace Go.Proofs.YtcmdglmcmifflaaDoor.Rs
open Go.RowKit Go.Joins Go.Sort Gk Rg

def cz (a b : Int) : Int := if a < b then -1 else if b < a then 1 else 0

set_option maxHeartbeats 800000 in
theorem nanU_any (x : Int) (w : World) : Calls Tryd.prog 88 #[.int .u64 x] w fun e w' => e = .returned (.bool false) ∧ w' = w := by
  go_enter Tryd.func88, Tryd.ntmps88
  go_wp2
  go_ret
  exact ⟨by simp, rfl⟩
set_option maxHeartbeats 800000 in
theorem nanI_any (x : Int) (w : World) : Calls Tryd.prog 89 #[.int .i64 x] w fun e w' => e = .returned (.bool false) ∧ w' = w := by
  go_enter Tryd.func89, Tryd.ntmps89
  go_wp2
  go_ret
  exact ⟨by simp, rfl⟩
set_option maxHeartbeats 1600000 in
theorem cmpU_any (x y : Int) (w : World) : Calls Tryd.prog 73 #[.int .u64 x, .int .u64 y] w fun e w' => e = .returned (.int .i64 (cz x y)) ∧ w' = w := by
  go_enter Tryd.func73, Tryd.ntmps73
  go_wp2_with (go_at_call 88; refine (nanU_any _ _).mono ?_; rintro e w' ⟨rfl, hw⟩; rw [hw])
  all_goals (go_ret; refine ⟨?_, rfl⟩; unfold cz; (repeat' split) <;> first | rfl | (exfalso; omega))
set_option maxHeartbeats 1600000 in
theorem cmpI_any (x y : Int) (w : World) : Calls Tryd.prog 74 #[.int .i64 x, .int .i64 y] w fun e w' => e = .returned (.int .i64 (cz x y)) ∧ w' = w := by
  go_enter Tryd.func74, Tryd.ntmps74
  go_wp2_with (go_at_call 89; refine (nanI_any _ _).mono ?_; rintro e w' ⟨rfl, hw⟩; rw [hw])
  all_goals (go_ret; refine ⟨?_, rfl⟩; unfold cz; (repeat' split) <;> first | rfl | (exfalso; omega))

def orV (x y : Int) : Int := if x = 0 then y else x
set_option maxHeartbeats 1600000 in
theorem or_any (g : Nat) (x y : Int) (w : World) (c0 : w.cell? ⟨g, 0, none⟩ = some (.int .i64 x)) (c1 : w.cell? ⟨g, 1, none⟩ = some (.int .i64 y)) :
    Calls Tryd.prog 72 #[.slice (some ⟨g, 0, none⟩) 2 2] w fun e w' => e = .returned (.int .i64 (orV x y)) ∧ w' = w := by
  go_enter Tryd.func72, Tryd.ntmps72
  go_wp2
  go_loop [8] (fun i => i = .int .i64 0 ∨ i = .int .i64 1 ∧ x = 0 ∨ i = .int .i64 2 ∧ x = 0 ∧ y = 0) (fun i => 2 - (intOf i).toNat)
  case atStart => exact Or.inl rfl
  case round =>
    rcases hrel with rfl | ⟨rfl, hx⟩ | ⟨rfl, hx, hy⟩
    · by_cases hx : x = 0
      · subst hx
        go_wp2
        go_round
        case rel => exact Or.inr (Or.inl ⟨by go_num, trivial⟩)
        case measure => simp [intOf]
      · go_wp2
        go_ret
        exact ⟨ret_int (by rw [orV, if_neg hx]), rfl⟩
    · by_cases hy : y = 0
      · subst hy
        go_wp2
        go_round
        case rel => exact Or.inr (Or.inr ⟨by go_num, hx, trivial⟩)
        case measure => simp [intOf]
      · go_wp2
        go_ret
        exact ⟨ret_int (by simp [orV]), rfl⟩
    · go_wp2
      go_ret
      exact ⟨ret_int (by simp [orV]), rfl⟩

structure Grw (w w' : World) : Prop where
  gr : Gr w w'
abbrev CmpS (W0 : World) (b ga x y : Nat) (va : Value) (X Y : Int) (W : World) : Prop :=
  W.cell? ⟨b, 0, none⟩ = some va ∧ W.cell? ⟨ga, x, none⟩ = some (.int .u64 X) ∧ W.cell? ⟨ga, y, none⟩ = some (.int .u64 Y) ∧ Grw W0 W
section
variable {W0 : World} {b ga x y : Nat} {va : Value} {X Y : Int} {W : World}
theorem CmpS.drew (h : CmpS W0 b ga x y va X Y W) : CmpS W0 b ga x y va X Y W.drew := ⟨h.1, h.2.1, h.2.2.1, ⟨h.2.2.2.gr.drew⟩⟩
theorem CmpS.alloc (h : CmpS W0 b ga x y va X Y W) (o : Obj) : CmpS W0 b ga x y va X Y (W.alloc o) := by
  have hb := World.block_lt_of_cell? W _ h.1
  have hg := World.block_lt_of_cell? W _ h.2.1
  exact ⟨((below_alloc1 W o).cell (p := ⟨b, 0, none⟩) hb).trans h.1, ((below_alloc1 W o).cell (p := ⟨ga, x, none⟩) hg).trans h.2.1, ((below_alloc1 W o).cell (p := ⟨ga, y, none⟩) hg).trans h.2.2.1, ⟨h.2.2.2.gr.alloc o⟩⟩
end

set_option maxHeartbeats 3200000 in
theorem compare_any (ga n cap : Nat) (vc : Value) (x y : Nat) (X Y : Int) (w : World) (hg : ga < w.heap.size) (cx : w.cell? ⟨ga, x, none⟩ = some (.int .u64 X)) (cy : w.cell? ⟨ga, y, none⟩ = some (.int .u64 Y)) (hx : x < n) (hy : y < n) :
    Calls Tryd.prog 63 #[.agg #[.slice (some ⟨ga, 0, none⟩) n cap, vc], .int .i64 (x : Int), .int .i64 (y : Int)] w fun e w' => e = .returned (.int .i64 (orV (cz X Y) (cz x y))) ∧ Gr w w' := by
  have mixed : Tryd.prog.follows .mixedOrders = true := by kernel_rfl
  have h1 := fun W => cmpU_any X Y W
  have h2 := fun W => cmpI_any (x : Int) (y : Int) W
  have h3 := fun W g c0 c1 => or_any g (cz X Y) (cz x y) W c0 c1
  generalize cz X Y = p at h1 h3 ⊢
  generalize cz (x : Int) (y : Int) = q at h2 h3 ⊢
  have hx1 : (x : Int) < (n : Int) := by omega
  have hy1 : (y : Int) < (n : Int) := by omega
  go_enter Tryd.func63, Tryd.ntmps63
  go_wp2_with fail
  obtain ⟨W0, hW0⟩ : ∃ W0, w.alloc (.cells #[.slice (some ⟨ga, 0, none⟩) n cap, vc] 62) = W0 := ⟨_, rfl⟩
  have hblk : W0.heap[w.heap.size]? = some (.cells #[.slice (some ⟨ga, 0, none⟩) n cap, vc] 62) := by rw [← hW0]; exact heap_alloc_new w _
  have hB : Below w.heap.size w W0 := by rw [← hW0]; exact below_alloc1 _ _
  have hS : CmpS W0 w.heap.size ga x y (.slice (some ⟨ga, 0, none⟩) n cap) X Y W0 := ⟨by rw [cell_of_block hblk]; rfl, (hB.cell (p := ⟨ga, x, none⟩) hg).trans cx, (hB.cell (p := ⟨ga, y, none⟩) hg).trans cy, ⟨Gr.refl _⟩⟩
  have hG : Gr w W0 := by rw [← hW0]; exact Gr.alloc1 _ _
  rw [hW0]
  generalize w.heap.size = b at hS ⊢
  clear hW0 hblk hB cx cy
  go_region_held3 (CmpS W0 b ga x y (.slice (some ⟨ga, 0, none⟩) n cap) X Y) (first | exact CmpS.drew (by assumption) | exact CmpS.alloc (by assumption) _ | assumption)
    (first
      | (go_at_call 73; refine (h1 _).mono ?_; rintro e w1 ⟨rfl, hw1⟩; obtain rfl := hw1.symm)
      | (go_at_call 74; refine (h2 _).mono ?_; rintro e w2 ⟨rfl, hw2⟩; obtain rfl := hw2.symm)
      | (go_at_call 72; refine (h3 _ _ (by show (World.alloc _ _).cell? _ = _; rw [cell_of_block (heap_alloc_new _ _)]; rfl) (by show (World.alloc _ _).cell? _ = _; rw [cell_of_block (heap_alloc_new _ _)]; rfl)).mono ?_; rintro e w3 ⟨rfl, hw3⟩; obtain rfl := hw3.symm))
  go_wp2
  go_ret
  exact ⟨rfl, (hG.alloc _).drew⟩

/-! ### the order of places -/
/-- the comparison of the places of a list of points -/
def cf (l : List Pt) (N : Nat) (x y : Pl N) : Int := orV (cz (hp (l.getD x.val (0, 0))) (hp (l.getD y.val (0, 0)))) (cz x.val y.val)
theorem cf_lt {l : List Pt} {N : Nat} {x y : Pl N} : ltOf (cf l N) x y = true ↔ hp (l.getD x.val (0, 0)) < hp (l.getD y.val (0, 0)) ∨ hp (l.getD x.val (0, 0)) = hp (l.getD y.val (0, 0)) ∧ x.val < y.val := by
  unfold ltOf cf orV cz
  rw [decide_eq_true_eq]
  generalize hp (l.getD x.val (0, 0)) = a
  generalize hp (l.getD y.val (0, 0)) = b
  split <;> split <;> (try split) <;> (try split) <;> omega
theorem cf_swo (l : List Pt) (N : Nat) : SWO (ltOf (cf l N)) where
  irrefl x := by
    rw [Bool.eq_false_iff]; intro h; have := cf_lt.1 h; omega
  trans x y z h k := by
    have := cf_lt.1 h; have := cf_lt.1 k; exact cf_lt.2 (by omega)
  ntrans x y z h k := by
    rw [Bool.eq_false_iff] at h k ⊢
    intro m
    have := cf_lt.1 m
    have h' : ¬ _ := fun q => h (cf_lt.2 q)
    have k' : ¬ _ := fun q => k (cf_lt.2 q)
    omega

/-- the contract that the sort asks for -/
theorem cf_cl {l : List Pt} {N : Nat} (hl : l.length = N + 1) (ga cap : Nat) (vc : Value) (blk size : Nat) (w : World) (hne : ga ≠ blk) (hg : ga < w.heap.size) (hc : ∀ i, i < l.length → w.cell? ⟨ga, i, none⟩ = some (.int .u64 (hp (l.getD i (0, 0))))) :
    CL (.agg #[.slice (some ⟨ga, 0, none⟩) l.length cap, vc]) (cf l N) blk size w := by
  intro m os dk _ x y
  have hz : ∀ i, i < l.length → (sortWorld ec w blk 0 m dk os).cell? ⟨ga, i, none⟩ = some (.int .u64 (hp (l.getD i (0, 0)))) := fun i hi => by
    unfold sortWorld
    rw [cell?_grow _ _ _ (by show ga < _; rw [size_putRow]; exact hg), cell?_putRow_other _ _ _ _ _ _ (Or.inl hne)]
    exact hc i hi
  exact compare_any ga l.length cap vc x.val y.val _ _ _ (by show ga < _; unfold sortWorld; simp [grow, Sort.ahead]; omega) (hz x.val (by omega)) (hz y.val (by omega)) (by omega) (by omega)

end Go.Proofs.YtcmdglmcmifflaaDoor.Rs
