/- Walks over segment.go: ready. -/
import Derived.Test.YtdlicndbdnfekaaGreatDoorWlTidy
namespace Go.Proofs.YtdlicndbdnfekaaGreatDoor.Wl
open Go.RowKit Go.Joins
open Go.Proofs.YtdlicndbdnfekaaGreatDoor.Dk (Bs Fil Fls St St.Ok Held Only)

/-- all that a call of a log may touch, its row too -/
abbrev mayL (own : Nat → Prop) (bw : Nat) (v : Value) (n : Nat) : Nat → Prop := fun b => (own b ∨ n ≤ b) ∨ b = bw ∨ v.ownBlock = some b

theorem push_grown {w W X w4 : World} {r : Option Nat} (hbd : Below w.heap.size w W) (hX : Below W.heap.size W X) (hg4 : X.grownBy w4 r) : w.grownBy w4 r :=
  Gk.grown_trans (Gk.grown_trans (Gk.grown_below hbd r) (Gk.grown_below hX r)) hg4
theorem push_at {w W X : World} {v v4 : Value} (hbd : Below w.heap.size w W) (hX : Below W.heap.size W X) (hat : v4.ownBlock = v.ownBlock ∨ v4.ownBlock = some X.heap.size) : ∀ g, v4.ownBlock = some g → v.ownBlock = some g ∨ w.heap.size ≤ g := fun g hg => by
  rcases hat with h | h
  · exact Or.inl (by rw [← h]; exact hg)
  · rw [h] at hg; cases hg; exact Or.inr (Nat.le_trans hbd.size hX.size)

set_option maxRecDepth 100000 in
set_option maxHeartbeats 3200000 in
theorem ready_room {own : Nat → Prop} {bw bd most : Nat} {S : St} {v : Value} {a : List Sm} {f b nx : Nat} (w : World) (h : Both w own bd bw most S v (a ++ [(f, b)]) nx) (ha : a.length ≤ 1000000) (hb : b < most) :
    Calls Tryz.prog 26 #[.pointer (some ⟨bw, 0, none⟩)] w fun e w' => e = .returned (.tuple #[v, .int .i64 0]) ∧ Below w.heap.size w w' := by
  obtain ⟨g, o, c, hv, -⟩ := h.log.row.form (by simp)
  rw [List.length_append, List.length_singleton] at hv
  obtain ⟨K, hK⟩ : ∃ K, K = a.length + 1 := ⟨_, rfl⟩
  obtain ⟨L, hL⟩ : ∃ L, L = a.length := ⟨_, rfl⟩
  rw [← hK] at hv
  subst hv
  have c1 := h.log.c1
  have c2 := h.log.c2
  obtain ⟨-, x1, -, -⟩ := h.log.lastCells
  rw [← hL] at x1
  have hK1 : (K : Int) - 1 = (L : Int) := by omega
  have i0 : 0 < K := by omega
  have i1 : (0 : Int) ≤ (L : Int) := by omega
  have i2 : (L : Int) < (K : Int) := by omega
  have i3 : (b : Int) < (most : Int) := by omega
  have hLb : L ≤ 1000000 := by omega
  have hKb : K ≤ 1000001 := by omega
  clear h hK hL ha
  go_enter Tryz.func26, Tryz.ntmps26
  go_wp2
  go_quiet (fail)
  go_wp2
  go_ret2
  exact ⟨rfl, below_draws _ _ _⟩

set_option maxRecDepth 100000 in
set_option maxHeartbeats 3200000 in
theorem ready_first {own : Nat → Prop} {bw bd most : Nat} {S : St} {v : Value} {nx : Nat} (w : World) (h : Both w own bd bw most S v [] nx) :
    Calls Tryz.prog 26 #[.pointer (some ⟨bw, 0, none⟩)] w fun e w' => ∃ v', e = .returned (.tuple #[v', .int .i64 0]) ∧ SR w' v' [(nx, 0)] ∧ SR w' v [] ∧ w.grownBy w' v.ownBlock ∧ (∀ g, v'.ownBlock = some g → v.ownBlock = some g ∨ w.heap.size ≤ g) := by
  obtain ⟨a, c, rfl⟩ := h.log.row.slice
  have c2 := h.log.c2
  have c3 := h.log.c3
  have hrow := h.log.row
  have hlt := h.log.lt
  clear h
  simp only [List.length_nil] at c2 hrow ⊢
  go_enter Tryz.func26, Tryz.ntmps26
  go_wp2
  go_quiet (fail)
  have c2' : (w.drewN nq).cell? ⟨bw, 2, none⟩ = some (.slice a 0 c) := c2
  have c3' : (w.drewN nq).cell? ⟨bw, 3, none⟩ = some (.int .i64 nx) := c3
  have hr' : SR (w.drewN nq) (.slice a 0 c) [] := hrow.below (below_draws _ _ _)
  have hbd := below_draws w.heap.size w nq
  have hzd : w.heap.size = (w.drewN nq).heap.size := rfl
  have hlt' : bw < (w.drewN nq).heap.size := hlt
  have hne' : bw ≠ (w.drewN nq).heap.size := by omega
  generalize w.drewN nq = W at *
  go_wp2
  go_region_law (first | (refine step_segs (by rfl) (.tmp 46) (.tmp 52) (by rfl) (.slice a 0 c) [] (by rfl) (by first | exact hr'.below (below_alloc1 W _) | exact (hr'.below ((Below.refl _ _).drew)).below (below_alloc1 W.drew _)) W.heap.size (nx, 0) (by rfl) (by first | exact heap_alloc_new W _ | exact heap_alloc_new W.drew _) (by simp) ?_; intro v4 w4 hr4 hr4o hg4 hat4; have HG4 := hide (push_grown hbd (by first | exact below_alloc1 W _ | exact (below_alloc1 W _).drew | exact ((Below.refl _ W).drew).alloc (Nat.le_refl _) _ | exact (((Below.refl _ W).drew).alloc (Nat.le_refl _) _).drew) hg4); have HA4 := hide (push_at hbd (by first | exact below_alloc1 W _ | exact (below_alloc1 W _).drew | exact ((Below.refl _ W).drew).alloc (Nat.le_refl _) _ | exact (((Below.refl _ W).drew).alloc (Nat.le_refl _) _).drew) hat4)))
  all_goals go_wp2
  all_goals go_ret2
  all_goals exact ⟨v4, rfl, hr4, hr4o, HG4.out, HA4.out⟩

set_option maxRecDepth 100000 in
set_option maxHeartbeats 3200000 in
theorem ready_full {own : Nat → Prop} {bw bd most : Nat} {S : St} {v : Value} {a : List Sm} {f b nx : Nat} (w : World) (h : Both w own bd bw most S v (a ++ [(f, b)]) nx) (ha : a.length ≤ 1000) (hb : most ≤ b) :
    Calls Tryz.prog 26 #[.pointer (some ⟨bw, 0, none⟩)] w fun e w' => ∃ own' u, Both w' own' bd bw most S.sync.2 v (a ++ [(f, b)]) nx ∧ (∀ b, own' b → own b ∨ w.heap.size ≤ b) ∧ Only (mayL own bw v w.heap.size) w w' ∧ e = .returned (.tuple #[u, .int .i64 S.sync.1]) ∧ (S.sync.1 = 0 → SR w' u (a ++ [(f, b)] ++ [(nx, 0)]) ∧ (∀ g, u.ownBlock = some g → ¬ own' g ∧ (v.ownBlock = some g ∨ w.heap.size ≤ g))) := by
  obtain ⟨g, o, c, hv, -⟩ := h.log.row.form (by simp)
  rw [List.length_append, List.length_singleton] at hv
  obtain ⟨K, hK⟩ : ∃ K, K = a.length + 1 := ⟨_, rfl⟩
  obtain ⟨L, hL⟩ : ∃ L, L = a.length := ⟨_, rfl⟩
  rw [← hK] at hv
  subst hv
  have c0 := h.log.c0
  have c1 := h.log.c1
  have c2 := h.log.c2
  obtain ⟨-, x1, -, -⟩ := h.log.lastCells
  rw [← hL] at x1
  have hK1 : (K : Int) - 1 = (L : Int) := by omega
  have i0 : 0 < K := by omega
  have i1 : (0 : Int) ≤ (L : Int) := by omega
  have i2 : (L : Int) < (K : Int) := by omega
  have i3 : ¬ (b : Int) < (most : Int) := by omega
  have hLb : L ≤ 1000000 := by omega
  have hKb : K ≤ 1000001 := by omega
  have HB := hide h
  have hlt := h.log.lt
  have HAL := hide ha
  clear h hK hL ha
  go_enter Tryz.func26, Tryz.ntmps26
  go_wp2
  go_quiet (fail)
  have c0' : (w.drewN nq).cell? ⟨bw, 0, none⟩ = some (.pointer (some ⟨bd, 0, none⟩)) := c0
  have hbd := below_draws w.heap.size w nq
  have HB1 := hide (HB.out.below hbd)
  have hzd : w.heap.size = (w.drewN nq).heap.size := rfl
  generalize w.drewN nq = W0 at *
  have hS := Dk.sync_any W0 HB1.out.disk.open
  go_wp2_with fail
  refine hS.mono ?_
  rintro e W ⟨rfl, hH, hO⟩
  have hz2 := hO.size
  obtain ⟨own2, hB2, HSUB⟩ : ∃ own2, Both W own2 bd bw most S.sync.2 (.slice (some ⟨g, o * 2, none⟩) K c) (a ++ [(f, b)]) nx ∧ Hid (∀ b, own2 b → own b ∨ w.heap.size ≤ b) := ⟨_, HB1.out.disked hH hO, fun b hb => hb.1.imp id fun h => by omega⟩
  have HO2 : Hid (Only (mayL own bw (.slice (some ⟨g, o * 2, none⟩) K c) w.heap.size) w W) := (Only.of_below hbd).trans (hO.mono fun b _ hb => Or.inl (hb.imp id fun h => by omega))
  clear hS hH hO
  by_cases hc : S.sync.1 = 0
  · rw [hc]
    have c2' := hB2.log.c2
    have c3' := hB2.log.c3
    have hr' := hB2.log.row
    have hlt' := hB2.log.lt
    have hne' : bw ≠ W.heap.size := by omega
    have HB2 := hide hB2
    have hbd2 := Below.refl W.heap.size W
    have HC := hide hc
    clear hB2 hc
    go_wp2
    go_region_law (first | (refine step_segs (by rfl) (.tmp 46) (.tmp 52) (by rfl) (.slice (some ⟨g, o * 2, none⟩) K c) (a ++ [(f, b)]) (by rfl) (by first | exact hr'.below (below_alloc1 W _) | exact (hr'.below ((Below.refl _ _).drew)).below (below_alloc1 W.drew _)) W.heap.size (nx, 0) (by rfl) (by first | exact heap_alloc_new W _ | exact heap_alloc_new W.drew _) (by rw [List.length_append, List.length_singleton]; have := HAL.out; omega) ?_; intro v4 w4 hr4 hr4o hg4 hat4; have HG4 := hide (push_grown hbd2 (by first | exact below_alloc1 W _ | exact (below_alloc1 W _).drew | exact ((Below.refl _ W).drew).alloc (Nat.le_refl _) _ | exact (((Below.refl _ W).drew).alloc (Nat.le_refl _) _).drew) hg4); have HA4 := hide (push_at hbd2 (by first | exact below_alloc1 W _ | exact (below_alloc1 W _).drew | exact ((Below.refl _ W).drew).alloc (Nat.le_refl _) _ | exact (((Below.refl _ W).drew).alloc (Nat.le_refl _) _).drew) hat4)))
    all_goals go_wp2
    all_goals go_ret2
    all_goals exact ⟨own2, v4, HB2.out.grown HG4.out hr4o, HSUB.out, HO2.out.trans (Only.of_grown HG4.out fun k e => Or.inr (Or.inr e)), by rw [HC.out]; rfl, fun _ => ⟨hr4, fun g' hg' => ⟨fun hoo => (HA4.out g' hg').elim (fun h => HB2.out.noRow g' h hoo) fun h => by have := HB2.out.disk.old g' hoo; omega, (HA4.out g' hg').imp id fun h => by omega⟩⟩⟩
  · have hcb : ((S.sync.1 : Int) != 0) = true := by rw [bne_iff_ne]; omega
    go_wp2
    go_ret2
    exact ⟨own2, _, hB2, HSUB.out, HO2.out, rfl, fun h => absurd h hc⟩

end Go.Proofs.YtdlicndbdnfekaaGreatDoor.Wl
