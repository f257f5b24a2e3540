/- What an argument that is a list of spans reads as. -/
import Derived.Test.YtolgpdjimfodkaaGArgs
import Derived.Test.YtolgpdjimfodkaaSpHas
namespace Go.Proofs.Ytolgpdjimfodkaa.Sp
open Go.ChangeShapes Go.WideShapes Go.ChangeAt Go.RowKit Go.Deep Go.Joins Gk

abbrev SpansAt (W : World) (a : Option Addr) (cap : Nat) (l : List Sp) : Prop := SliceAt W senc a cap l
theorem cells_span : Try.prog.cellsOf 35 = 2 := by kernel_rfl

set_option maxRecDepth 100000 in
theorem open_span {H : Type} {enc : TypeId × Value → H} {W : World} {fuel : Nat} {a : Addr} {cs : List Value} {x : DataW H × List MemPlace} (hc : W.cells? 0 a 2 = some cs) (h : DataW.trod enc Try.prog W 0 (fun _ => true) true fuel 35 cs = some x) :
    ∃ f : Sp, ∀ j u, (senc f)[j]? = some u → W.cell? (a.add j) = some u := by
  obtain ⟨_, hlen, hcell⟩ := World.cells?_some hc
  obtain ⟨xs, n, _, rfl, hl, hxl, hf⟩ := DataW.trod_struct Try.underlying35 h
  match cs, hlen, xs, hxl with
  | [v0, v1], _, [y0, y1], _ =>
    have h0 := hf 0 _ rfl
    have h1 := hf 1 _ rfl
    simp [cells_string] at h0 h1
    obtain ⟨k0, e0, _⟩ := DataW.trod_string Try.underlying9 h0
    obtain ⟨k1, e1, _⟩ := DataW.trod_string Try.underlying9 h1
    simp only [List.cons.injEq, and_true] at e0 e1
    subst e0 e1
    refine ⟨⟨k0, k1⟩, fun j u hj => ?_⟩
    have hj2 : j < 2 := by have := (List.getElem?_eq_some_iff.1 hj).1; rwa [senc_len] at this
    rw [hcell j hj2]
    exact hj

set_option maxRecDepth 100000 in
theorem open_spans {H : Type} {enc : TypeId × Value → H} {W : World} {fuel : Nat} {cs : List Value} {x : DataW H × List MemPlace} (h : DataW.trod enc Try.prog W 0 (fun _ => true) true fuel 22 cs = some x) : ∃ a cap ac, cs = [.slice a (List.length ac) cap] ∧ SpansAt W a cap ac := by
  rcases open_slice Try.underlying22 h with ⟨rfl, rfl⟩ | ⟨a, len, cap, m, n, D, Pl, rfl, _, hl, hm9, hmm, rfl, hx⟩
  · exact ⟨none, 0, [], rfl, ⟨Or.inl rfl, by simp, fun _ => rfl, by omega⟩⟩
  · have hm : m = cap := by rw [hmm]; simp
    have each : ∀ i, i < len → ∃ f : Sp, ∀ j u, (senc f)[j]? = some u → W.cell? (a.add (i * 2 + j)) = some u := by
      intro i hi
      obtain ⟨cs', h1, h2⟩ := hx i (by omega)
      rw [cells_span] at h1
      obtain ⟨f, hc⟩ := open_span h1 h2
      exact ⟨f, fun j u hj => by have := hc j u hj; rw [add_add] at this; exact this⟩
    obtain ⟨ac, hlen, hac⟩ := list_of len each
    exact ⟨some a, cap, ac, by rw [hlen], ⟨lies_of senc_len (by omega) fun i hi j u hj => hac i hi j u hj, by omega, by simp, by unfold maxLen at hm9; omega⟩⟩

end Go.Proofs.Ytolgpdjimfodkaa.Sp
