/- Layer 8: which operations write. -/
import Derived.Test.YtkjcfkninmmbhaaOpMay
namespace Go.Proofs.Ytkjcfkninmmbhaa.Oq
open Go.RowKit Go.Joins Go.Proofs.Ytkjcfkninmmbhaa.Gk

set_option maxRecDepth 100000 in
set_option maxHeartbeats 400000 in
theorem kwrites_op (k : Int) (w : World) :
    Calls Try.prog 25 #[.int .i64 k] w fun e w' => e = .returned (.bool (within k 1 4)) ∧ w' = w := by
  by_cases k1 : k = 1
  · subst k1; go_enter Try.func25, Try.ntmps25; go_wp2; go_ret; exact ⟨rfl, rfl⟩
  by_cases k2 : k = 2
  · subst k2; go_enter Try.func25, Try.ntmps25; go_wp2; go_ret; exact ⟨rfl, rfl⟩
  by_cases k3 : k = 3
  · subst k3; go_enter Try.func25, Try.ntmps25; go_wp2; go_ret; exact ⟨rfl, rfl⟩
  by_cases k4 : k = 4
  · subst k4; go_enter Try.func25, Try.ntmps25; go_wp2; go_ret; exact ⟨rfl, rfl⟩
  have b1 : (k == 1) = false := by rw [beq_eq_false_iff_ne]; exact k1
  have b2 : (k == 2) = false := by rw [beq_eq_false_iff_ne]; exact k2
  have b3 : (k == 3) = false := by rw [beq_eq_false_iff_ne]; exact k3
  have b4 : (k == 4) = false := by rw [beq_eq_false_iff_ne]; exact k4
  have hw : within k 1 4 = false := by
    unfold within
    rw [Bool.and_eq_false_iff]
    by_cases h : 1 ≤ k
    · right; exact decide_eq_false (by omega)
    · left; exact decide_eq_false h
  rw [hw]
  go_enter Try.func25, Try.ntmps25
  go_wp2
  go_ret
  exact ⟨rfl, rfl⟩

set_option maxRecDepth 100000 in
set_option maxHeartbeats 400000 in
theorem Writes_op (x : Opn) (w : World) :
    Calls Try.prog 8 #[x.v] w fun e w' => e = .returned (.bool x.writes) ∧ Below w.heap.size w w' := by
  have hb : ∀ o, Below w.heap.size w (w.alloc o) := fun o => (Below.refl _ _).alloc (Nat.le_refl _) o
  go_enter Try.func8, Try.ntmps8
  go_wp2_with fail
  refine (kwrites_op x.kind _).mono ?_
  rintro e w1 ⟨rfl, rfl⟩
  go_wp2
  go_ret
  exact ⟨rfl, hb _⟩

end Go.Proofs.Ytkjcfkninmmbhaa.Oq
