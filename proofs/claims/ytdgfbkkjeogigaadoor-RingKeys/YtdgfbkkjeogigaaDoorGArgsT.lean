/- What an argument that is a list of texts reads as. -/
import Derived.Test.YtdgfbkkjeogigaaDoorGArgs
namespace Go.Proofs.YtdgfbkkjeogigaaDoor.Gk
open Go.ChangeShapes Go.WideShapes Go.ChangeAt Go.RowKit Go.Deep Go.Joins

structure TextsAt (W : World) (a : Option Addr) (cap : Nat) (ts : List ByteArray) : Prop extends SliceAt W tenc a cap ts where
  each : ∀ t ∈ ts, t.size ≤ 140737488351232

theorem open_texts {H : Type} {enc : TypeId × Value → H} {W : World} {fuel : Nat} {cs : List Value} {x : DataW H × List MemPlace} (h : DataW.trod enc Tryd.prog W 0 (fun _ => true) true fuel 34 cs = some x)
    (hsz : ∀ n ∈ x.1.weights Tryd.prog 34, n ≤ reachBytes) : ∃ a cap ts, cs = [.slice a (List.length ts) cap] ∧ TextsAt W a cap ts := by
  rcases Go.Deep.open_slice1 Tryd.underlying34 cells_string h with ⟨rfl, rfl⟩ | ⟨a, len, cap, m, n, V, D, Pl, rfl, _, hl, hm9, hmm, rfl, hx⟩
  · exact ⟨none, 0, [], rfl, ⟨⟨Or.inl rfl, by simp, fun _ => rfl, by omega⟩, by simp⟩⟩
  · have hm : m = cap := by rw [hmm]; simp
    have each : ∀ i, i < len → ∃ t : ByteArray, W.cell? (a.add i) = some (.string t) ∧ D i = .lit (.string t.data.toList) := by
      intro i hi
      obtain ⟨h1, h2⟩ := hx i (by omega)
      obtain ⟨t, e, ex, _⟩ := DataW.trod_string Tryd.underlying9 h2
      simp only [List.cons.injEq, and_true] at e
      simp only [Prod.mk.injEq] at ex
      exact ⟨t, by rw [h1, e], ex.1⟩
    obtain ⟨ts, hlen, hts⟩ := list_of len each
    simp only [DataW.weights, Tryd.underlying34] at hsz
    refine ⟨some a, cap, ts, by rw [hlen], ⟨⟨lies_of tenc_len (by omega) fun i hi j u hj => ?_, by omega, by simp, by unfold maxLen at hm9; omega⟩, ?_⟩⟩
    · have hj0 : j = 0 := by have := (List.getElem?_eq_some_iff.1 hj).1; rw [tenc_len] at this; omega
      subst hj0
      cases hj
      rw [Nat.mul_one, Nat.add_zero]; exact (hts i hi).1
    · intro y hy
      obtain ⟨i, hi, rfl⟩ := List.getElem_of_mem hy
      obtain ⟨_, hd⟩ := hts i hi
      have hmem : D i ∈ (List.range len).map D := List.mem_map.2 ⟨i, List.mem_range.2 (by omega), rfl⟩
      have hn : (ts[i]).data.toList.length ∈ (D i).weights Tryd.prog 9 := by rw [hd]; simp [DataW.weights]
      have := hsz _ (List.mem_cons_of_mem _ (List.mem_append_left _ (weightsAll_mem hmem hn)))
      rw [← Lib.size_eq] at this
      simpa [reachBytes] using this

end Go.Proofs.YtdgfbkkjeogigaaDoor.Gk
