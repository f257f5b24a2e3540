/- Walks over rule.go: the rules. -/
import Derived.Test.YtficnmgjbjgmeaaSpSort
namespace Go.Proofs.Ytficnmgjbjgmeaa.Sp
open Go.RowKit Go.Joins Gk

/-- what a rule is, as a value -/
abbrev rval (g : Nat) : Value := .agg #[.func (.func 36) #[] #[], .func (.func g) #[] #[]]
/-- a function that keeps by K -/
def Keeps (g : Nat) (K : Bool → Bool → Bool) : Prop :=
  (∀ args w, (callFunc g args).run Try.prog w = .ok (.enter g args) w) ∧ ∀ x y W, Calls Try.prog g #[.bool x, .bool y] W fun e w' => e = .returned (.bool (K x y)) ∧ w' = W
theorem unionRule_keeps : Keeps 37 kOr := by
  refine ⟨enters_of Try.func37 (by kernel_rfl) rfl, fun x y W => ?_⟩
  cases x <;> cases y
  all_goals
    go_enter Try.func37, Try.ntmps37
    go_wp2
    go_ret
    exact ⟨rfl, rfl⟩
theorem unionRule_any (W : World) : Calls Try.prog 26 #[] W fun e w' => e = .returned (rval 37) ∧ Below W.heap.size W w' := by
  go_enter Try.func26, Try.ntmps26
  go_wp2
  refine bodyPost_ret (v := rval 37) (by simp [results, Try.results26, go_sem]) rfl ?_
  exact ⟨rfl, below_alloc1 _ _⟩
theorem minusRule_keeps : Keeps 39 kNot := by
  refine ⟨enters_of Try.func39 (by kernel_rfl) rfl, fun x y W => ?_⟩
  cases x <;> cases y
  all_goals
    go_enter Try.func39, Try.ntmps39
    go_wp2
    go_ret
    exact ⟨rfl, rfl⟩
theorem minusRule_any (W : World) : Calls Try.prog 28 #[] W fun e w' => e = .returned (rval 39) ∧ Below W.heap.size W w' := by
  go_enter Try.func28, Try.ntmps28
  go_wp2
  refine bodyPost_ret (v := rval 39) (by simp [results, Try.results28, go_sem]) rfl ?_
  exact ⟨rfl, below_alloc1 _ _⟩

end Go.Proofs.Ytficnmgjbjgmeaa.Sp
