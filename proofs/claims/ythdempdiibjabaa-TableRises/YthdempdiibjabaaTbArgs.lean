/- Layer 9: what a list of lists of operations reads as, when it is a law's argument. -/
import Derived.Test.YthdempdiibjabaaOpArgO
import Derived.Test.YthdempdiibjabaaTbPly
namespace Go.Proofs.Ythdempdiibjabaa.Tb
open Go.ChangeShapes Go.WideShapes Go.ChangeAt Go.RowKit Go.Deep Go.Joins Gk Oq

structure OpssAt (W : World) (a : Option Addr) (cap : Nat) (l : List OpsA) : Prop extends SliceAt W osenc a cap l where
  each : ∀ x ∈ l, OpsAt W x.a x.cap x.ops

set_option maxRecDepth 100000 in
theorem open_opss {H : Type} {enc : TypeId × Value → H} {W : World} {fuel : Nat} {cs : List Value} {x : DataW H × List MemPlace} (h : DataW.trod enc Try.prog W 0 (fun _ => true) true fuel 58 cs = some x)
    (hsz : ∀ n ∈ x.1.weights Try.prog 58, n ≤ reachBytes) : ∃ a cap ac, cs = [.slice a (List.length ac) cap] ∧ OpssAt W a cap ac := by
  rcases open_slice Try.underlying58 h with ⟨rfl, rfl⟩ | ⟨a, len, cap, m, n, D, Pl, rfl, _, hl, hm9, hmm, rfl, hx⟩
  · exact ⟨none, 0, [], rfl, ⟨⟨Or.inl rfl, by simp, fun _ => rfl, by omega⟩, by simp⟩⟩
  · have hm : m = cap := by rw [hmm]; simp
    simp only [DataW.weights, Try.underlying58] at hsz
    have each : ∀ i, i < len → ∃ f : OpsA, (∀ j u, (osenc f)[j]? = some u → W.cell? (a.add (i * 1 + j)) = some u) ∧ OpsAt W f.a f.cap f.ops := by
      intro i hi
      obtain ⟨cs', h1, h2⟩ := hx i (by omega)
      rw [cells_ops] at h1
      obtain ⟨_, hlen, hcell⟩ := World.cells?_some h1
      have hmem : D i ∈ (List.range len).map D := List.mem_map.2 ⟨i, List.mem_range.2 (by omega), rfl⟩
      obtain ⟨fa, fc, fo, rfl, hok⟩ := open_ops h2 (fun n hn => hsz _ (List.mem_cons_of_mem _ (List.mem_append_left _ (weightsAll_mem hmem hn))))
      refine ⟨⟨fa, fc, fo⟩, fun j u hj => ?_, hok⟩
      have hj1 : j < 1 := by have := (List.getElem?_eq_some_iff.1 hj).1; rwa [osenc_len] at this
      have := hcell j hj1
      rw [add_add] at this
      rw [this]
      exact hj
    obtain ⟨ac, hlen, hac⟩ := list_of len each
    refine ⟨some a, cap, ac, by rw [hlen], ⟨⟨lies_of osenc_len (by omega) fun i hi j u hj => (hac i hi).1 j u hj, by omega, by simp, by unfold maxLen at hm9; omega⟩, ?_⟩⟩
    intro y hy
    obtain ⟨i, hi, rfl⟩ := List.getElem_of_mem hy
    exact (hac i hi).2

end Go.Proofs.Ythdempdiibjabaa.Tb
