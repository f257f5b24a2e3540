/- What an argument that is a list of integers reads as, with its length's bound. -/
import Derived.Test.YtdgfbkkjeogigaaDoorGArgsI
namespace Go.Proofs.YtdgfbkkjeogigaaDoor.Gk
open Go.ChangeShapes Go.WideShapes Go.ChangeAt Go.RowKit Go.Deep Go.Joins

theorem bytes_int : Tryd.prog.bytesOf 3 = 8 := by kernel_rfl
set_option maxRecDepth 100000 in
theorem open_intsB {H : Type} {enc : TypeId × Value → H} {W : World} {fuel : Nat} {cs : List Value} {x : DataW H × List MemPlace} (h : DataW.trod enc Tryd.prog W 0 (fun _ => true) true fuel 22 cs = some x)
    (hsz : ∀ n ∈ x.1.weights Tryd.prog 22, n ≤ reachBytes) : ∃ a cap ds, cs = [.slice a (List.length ds) cap] ∧ IntsAt W a cap ds ∧ ds.length * 8 ≤ 140737488351232 := by
  obtain ⟨a, cap, ds, e, at_⟩ := open_ints h
  refine ⟨a, cap, ds, e, at_, ?_⟩
  rcases open_slice Tryd.underlying22 h with ⟨e1, rfl⟩ | ⟨a', len, cap', m, n, D, Pl, e1, _, hl, hm9, hmm, rfl, hx⟩
  · rw [e] at e1
    simp only [List.cons.injEq, Value.slice.injEq, and_true] at e1
    omega
  · rw [e] at e1
    simp only [List.cons.injEq, Value.slice.injEq, and_true] at e1
    simp only [DataW.weights, Tryd.underlying22] at hsz
    have := hsz _ (List.mem_cons_self ..)
    simp only [bytes_int, List.length_map, List.length_range, reachBytes] at this
    omega

end Go.Proofs.YtdgfbkkjeogigaaDoor.Gk
