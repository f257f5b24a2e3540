/- What an argument that is a list of spans reads as, with its length's bound. -/
import Derived.Test.YtolgpdjimfodkaaSpArgs
namespace Go.Proofs.Ytolgpdjimfodkaa.Sp
open Go.ChangeShapes Go.WideShapes Go.ChangeAt Go.RowKit Go.Deep Go.Joins Gk

theorem bytes_span : Try.prog.bytesOf 35 = 32 := by kernel_rfl

set_option maxRecDepth 100000 in
theorem open_spansB {H : Type} {enc : TypeId × Value → H} {W : World} {fuel : Nat} {cs : List Value} {x : DataW H × List MemPlace} (h : DataW.trod enc Try.prog W 0 (fun _ => true) true fuel 22 cs = some x)
    (hsz : ∀ n ∈ x.1.weights Try.prog 22, n ≤ reachBytes) : ∃ a cap ac, cs = [.slice a (List.length ac) cap] ∧ SpansAt W a cap ac ∧ ac.length * 32 ≤ 140737488351232 := by
  rcases open_slice Try.underlying22 h with ⟨rfl, rfl⟩ | ⟨a, len, cap, m, n, D, Pl, rfl, _, hl, hm9, hmm, rfl, hx⟩
  · exact ⟨none, 0, [], rfl, ⟨Or.inl rfl, by simp, fun _ => rfl, by omega⟩, by simp⟩
  · have hm : m = cap := by rw [hmm]; simp
    have each : ∀ i, i < len → ∃ f : Sp, ∀ j u, (senc f)[j]? = some u → W.cell? (a.add (i * 2 + j)) = some u := by
      intro i hi
      obtain ⟨cs', h1, h2⟩ := hx i (by omega)
      rw [cells_span] at h1
      obtain ⟨f, hc⟩ := open_span h1 h2
      exact ⟨f, fun j u hj => by have := hc j u hj; rw [add_add] at this; exact this⟩
    obtain ⟨ac, hlen, hac⟩ := list_of len each
    simp only [DataW.weights, Try.underlying22] at hsz
    refine ⟨some a, cap, ac, by rw [hlen], ⟨lies_of senc_len (by omega) fun i hi j u hj => hac i hi j u hj, by omega, by simp, by unfold maxLen at hm9; omega⟩, ?_⟩
    have := hsz _ (List.mem_cons_self ..)
    simp only [bytes_span, List.length_map, List.length_range, reachBytes] at this
    omega

end Go.Proofs.Ytolgpdjimfodkaa.Sp
