/- What an argument that is a list of texts reads as. -/
import Derived.Test.YtmgamfenbbcfhaaDArgs
namespace Go.Proofs.Ytmgamfenbbcfhaa.Dk
open Go.ChangeShapes Go.WideShapes Go.ChangeAt Go.RowKit Go.Deep Go.Joins

theorem open_texts {H : Type} {enc : TypeId × Value → H} {W : World} {fuel : Nat} {cs : List Value} {x : DataW H × List MemPlace} (h : DataW.trod enc Try.prog W 0 (fun _ => true) true fuel 49 cs = some x)
    (hsz : ∀ n ∈ x.1.weights Try.prog 49, n ≤ reachBytes) : ∃ a cap ts, cs = [.slice a (List.length ts) cap] ∧ LiesT W a ts ∧ (∀ t ∈ ts, t.size ≤ 140737488351232) ∧ ts.length ≤ 9223372036854775807 := by
  rcases Go.Deep.open_slice1 Try.underlying49 cells_string h with ⟨rfl, rfl⟩ | ⟨a, len, cap, m, n, V, D, Pl, rfl, _, hl, hm9, hmm, rfl, hx⟩
  · exact ⟨none, 0, [], rfl, Or.inl rfl, by simp, by simp⟩
  · have hm : m = cap := by rw [hmm]; simp
    have each : ∀ i, i < len → ∃ t : ByteArray, W.cell? (a.add i) = some (.string t) ∧ D i = .lit (.string t.data.toList) := by
      intro i hi
      obtain ⟨h1, h2⟩ := hx i (by omega)
      obtain ⟨t, e, ex, _⟩ := DataW.trod_string Try.underlying9 h2
      simp only [List.cons.injEq, and_true] at e
      simp only [Prod.mk.injEq] at ex
      exact ⟨t, by rw [h1, e], ex.1⟩
    obtain ⟨ts, hlen, hts⟩ := list_of len each
    simp only [DataW.weights, Try.underlying49] at hsz
    refine ⟨some a, cap, ts, by rw [hlen], ?_, ?_, by unfold maxLen at hm9; omega⟩
    · by_cases h0 : ts = []
      · exact Or.inl h0
      · have hp : 0 < ts.length := List.length_pos_iff.2 h0
        obtain ⟨b, off, spot⟩ := a
        have hspot : spot = none := by simpa [Addr.add] using World.cell?_spot (hts 0 hp).1
        subst hspot
        have hlt := World.block_lt_of_cell? W _ (hts 0 hp).1
        refine Or.inr ⟨b, off, rfl, by simpa [Go.WideShapes.add_plain] using hlt, fun i hi => ?_⟩
        have c0 := (hts i hi).1
        rw [Go.WideShapes.add_plain] at c0
        exact c0
    · intro y hy
      obtain ⟨i, hi, rfl⟩ := List.getElem_of_mem hy
      obtain ⟨_, hd⟩ := hts i hi
      have hmem : D i ∈ (List.range len).map D := List.mem_map.2 ⟨i, List.mem_range.2 (by omega), rfl⟩
      have hn : (ts[i]).data.toList.length ∈ (D i).weights Try.prog 9 := by rw [hd]; simp [DataW.weights]
      have := hsz _ (List.mem_cons_of_mem _ (List.mem_append_left _ (weightsAll_mem hmem hn)))
      rw [← Lib.size_eq] at this
      simpa [reachBytes] using this

end Go.Proofs.Ytmgamfenbbcfhaa.Dk
