/- Walks over rule.go: the rule of a meet. -/
import Derived.Test.YtficnmgjbjgmeaaSpRule
namespace Go.Proofs.Ytficnmgjbjgmeaa.Sp
open Go.RowKit Go.Joins Gk

theorem meetRule_keeps : Keeps 38 kAnd := by
  refine ⟨enters_of Try.func38 (by kernel_rfl) rfl, fun x y W => ?_⟩
  cases x <;> cases y
  all_goals
    go_enter Try.func38, Try.ntmps38
    go_wp2
    go_ret
    exact ⟨rfl, rfl⟩
theorem meetRule_any (W : World) : Calls Try.prog 27 #[] W fun e w' => e = .returned (rval 38) ∧ Below W.heap.size W w' := by
  go_enter Try.func27, Try.ntmps27
  go_wp2
  refine bodyPost_ret (v := rval 38) (by simp [results, Try.results27, go_sem]) rfl ?_
  exact ⟨rfl, below_alloc1 _ _⟩

end Go.Proofs.Ytficnmgjbjgmeaa.Sp
