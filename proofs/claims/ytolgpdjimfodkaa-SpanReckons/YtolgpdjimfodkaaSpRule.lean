/- Walks over rule.go: the rules. -/
import Derived.Test.YtolgpdjimfodkaaSpSort
namespace Go.Proofs.Ytolgpdjimfodkaa.Sp
open Go.RowKit Go.Joins Gk

/-- what a rule is, as a value -/
abbrev rval (g : Nat) : Value := .agg #[.func (.func 35) #[] #[], .func (.func g) #[] #[]]
/-- a function that keeps by K -/
def Keeps (g : Nat) (K : Bool → Bool → Bool) : Prop :=
  (∀ args w, (callFunc g args).run Try.prog w = .ok (.enter g args) w) ∧ ∀ x y W, Calls Try.prog g #[.bool x, .bool y] W fun e w' => e = .returned (.bool (K x y)) ∧ w' = W
theorem unionRule_keeps : Keeps 36 kOr := by
  refine ⟨enters_of Try.func36 (by kernel_rfl) rfl, fun x y W => ?_⟩
  cases x <;> cases y
  all_goals
    go_enter Try.func36, Try.ntmps36
    go_wp2
    go_ret
    exact ⟨rfl, rfl⟩
theorem unionRule_any (W : World) : Calls Try.prog 25 #[] W fun e w' => e = .returned (rval 36) ∧ Below W.heap.size W w' := by
  go_enter Try.func25, Try.ntmps25
  go_wp2
  refine bodyPost_ret (v := rval 36) (by simp [results, Try.results25, go_sem]) rfl ?_
  exact ⟨rfl, below_alloc1 _ _⟩
theorem minusRule_keeps : Keeps 38 kNot := by
  refine ⟨enters_of Try.func38 (by kernel_rfl) rfl, fun x y W => ?_⟩
  cases x <;> cases y
  all_goals
    go_enter Try.func38, Try.ntmps38
    go_wp2
    go_ret
    exact ⟨rfl, rfl⟩
theorem minusRule_any (W : World) : Calls Try.prog 27 #[] W fun e w' => e = .returned (rval 38) ∧ Below W.heap.size W w' := by
  go_enter Try.func27, Try.ntmps27
  go_wp2
  refine bodyPost_ret (v := rval 38) (by simp [results, Try.results27, go_sem]) rfl ?_
  exact ⟨rfl, below_alloc1 _ _⟩

end Go.Proofs.Ytolgpdjimfodkaa.Sp
