/- Walks over rule.go: the rules. -/
import Derived.Test.YtficnmgjbjgmeabSpSort
namespace Go.Proofs.Ytficnmgjbjgmeab.Sp
open Go.RowKit Go.Joins Gk

/-- what a rule is, as a value -/
abbrev rval (g : Nat) : Value := .agg #[.func (.func 18) #[] #[], .func (.func g) #[] #[]]
/-- a function that keeps by K -/
def Keeps (g : Nat) (K : Bool → Bool → Bool) : Prop :=
  (∀ args w, (callFunc g args).run Try.prog w = .ok (.enter g args) w) ∧ ∀ x y W, Calls Try.prog g #[.bool x, .bool y] W fun e w' => e = .returned (.bool (K x y)) ∧ w' = W
theorem unionRule_keeps : Keeps 19 kOr := by
  refine ⟨enters_of Try.func19 (by kernel_rfl) rfl, fun x y W => ?_⟩
  cases x <;> cases y
  all_goals
    go_enter Try.func19, Try.ntmps19
    go_wp2
    go_ret
    exact ⟨rfl, rfl⟩
theorem unionRule_any (W : World) : Calls Try.prog 13 #[] W fun e w' => e = .returned (rval 19) ∧ Below W.heap.size W w' := by
  go_enter Try.func13, Try.ntmps13
  go_wp2
  refine bodyPost_ret (v := rval 19) (by simp [results, Try.results13, go_sem]) rfl ?_
  exact ⟨rfl, below_alloc1 _ _⟩
theorem minusRule_keeps : Keeps 20 kNot := by
  refine ⟨enters_of Try.func20 (by kernel_rfl) rfl, fun x y W => ?_⟩
  cases x <;> cases y
  all_goals
    go_enter Try.func20, Try.ntmps20
    go_wp2
    go_ret
    exact ⟨rfl, rfl⟩
theorem minusRule_any (W : World) : Calls Try.prog 14 #[] W fun e w' => e = .returned (rval 20) ∧ Below W.heap.size W w' := by
  go_enter Try.func14, Try.ntmps14
  go_wp2
  refine bodyPost_ret (v := rval 20) (by simp [results, Try.results14, go_sem]) rfl ?_
  exact ⟨rfl, below_alloc1 _ _⟩

end Go.Proofs.Ytficnmgjbjgmeab.Sp
