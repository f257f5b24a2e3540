/- Walks over rule.go: the rule of a meet. -/
import Derived.Test.YtolgpdjimfodkaaSpRule
namespace Go.Proofs.Ytolgpdjimfodkaa.Sp
open Go.RowKit Go.Joins Gk

theorem meetRule_keeps : Keeps 37 kAnd := by
  refine ⟨enters_of Try.func37 (by kernel_rfl) rfl, fun x y W => ?_⟩
  cases x <;> cases y
  all_goals
    go_enter Try.func37, Try.ntmps37
    go_wp2
    go_ret
    exact ⟨rfl, rfl⟩
theorem meetRule_any (W : World) : Calls Try.prog 26 #[] W fun e w' => e = .returned (rval 37) ∧ Below W.heap.size W w' := by
  go_enter Try.func26, Try.ntmps26
  go_wp2
  refine bodyPost_ret (v := rval 37) (by simp [results, Try.results26, go_sem]) rfl ?_
  exact ⟨rfl, below_alloc1 _ _⟩

end Go.Proofs.Ytolgpdjimfodkaa.Sp
