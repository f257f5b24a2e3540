/- What an argument that is a list of calls of a clock reads as. -/
import Derived.Test.YtkofmdchopfcgaaGArgs
namespace Go.Proofs.Ytkofmdchopfcgaa.Ck
open Go.ChangeShapes Go.WideShapes Go.ChangeAt Go.RowKit Go.Deep Go.Joins Gk

structure ActV where
  kind : Int
  node : Int
  n : Int
def aenc (x : ActV) : List Value := [.int .i64 x.kind, .int .i64 x.node, .int .i64 x.n]
theorem aenc_len (x : ActV) : (aenc x).length = 3 := rfl
structure ActV.Ok (x : ActV) : Prop where
  kind : -9223372036854775808 ≤ x.kind ∧ x.kind ≤ 9223372036854775807
  node : -9223372036854775808 ≤ x.node ∧ x.node ≤ 9223372036854775807
  n : -9223372036854775808 ≤ x.n ∧ x.n ≤ 9223372036854775807
structure ActsAt (W : World) (a : Option Addr) (cap : Nat) (ac : List ActV) : Prop extends SliceAt W aenc a cap ac where
  each : ∀ x ∈ ac, x.Ok

theorem cells_act : Try.prog.cellsOf 32 = 3 := by kernel_rfl

set_option maxRecDepth 100000 in
theorem open_act {H : Type} {enc : TypeId × Value → H} {W : World} {fuel : Nat} {a : Addr} {cs : List Value} {x : DataW H × List MemPlace} (hc : W.cells? 0 a 3 = some cs) (h : DataW.trod enc Try.prog W 0 (fun _ => true) true fuel 32 cs = some x) :
    ∃ f : ActV, (∀ j u, (aenc f)[j]? = some u → W.cell? (a.add j) = some u) ∧ f.Ok := by
  obtain ⟨_, hlen, hcell⟩ := World.cells?_some hc
  obtain ⟨xs, n, _, rfl, hl, hxl, hf⟩ := DataW.trod_struct Try.underlying32 h
  match cs, hlen, xs, hxl with
  | [v0, v1, v2], _, [y0, y1, y2], _ =>
    have h0 := hf 0 _ rfl
    have h1 := hf 1 _ rfl
    have h2 := hf 2 _ rfl
    simp [cells_int] at h0 h1 h2
    obtain ⟨k0, e0, _, hk0⟩ := DataW.trod_int Try.underlying3 h0
    obtain ⟨k1, e1, _, hk1⟩ := DataW.trod_int Try.underlying3 h1
    obtain ⟨k2, e2, _, hk2⟩ := DataW.trod_int Try.underlying3 h2
    simp only [List.cons.injEq, and_true] at e0 e1 e2
    subst e0 e1 e2
    refine ⟨⟨k0, k1, k2⟩, fun j u hj => ?_, ⟨bounds_i64 hk0, bounds_i64 hk1, bounds_i64 hk2⟩⟩
    have hj3 : j < 3 := by have := (List.getElem?_eq_some_iff.1 hj).1; rwa [aenc_len] at this
    rw [hcell j hj3]
    exact hj

set_option maxRecDepth 100000 in
theorem open_acts {H : Type} {enc : TypeId × Value → H} {W : World} {fuel : Nat} {cs : List Value} {x : DataW H × List MemPlace} (h : DataW.trod enc Try.prog W 0 (fun _ => true) true fuel 23 cs = some x)
    (_ : ∀ n ∈ x.1.weights Try.prog 23, n ≤ reachBytes) : ∃ a cap ac, cs = [.slice a (List.length ac) cap] ∧ ActsAt W a cap ac := by
  rcases open_slice Try.underlying23 h with ⟨rfl, rfl⟩ | ⟨a, len, cap, m, n, D, Pl, rfl, _, hl, hm9, hmm, rfl, hx⟩
  · exact ⟨none, 0, [], rfl, ⟨⟨Or.inl rfl, by simp, fun _ => rfl, by omega⟩, by simp⟩⟩
  · have hm : m = cap := by rw [hmm]; simp
    have each : ∀ i, i < len → ∃ f : ActV, (∀ j u, (aenc f)[j]? = some u → W.cell? (a.add (i * 3 + j)) = some u) ∧ f.Ok := by
      intro i hi
      obtain ⟨cs', h1, h2⟩ := hx i (by omega)
      rw [cells_act] at h1
      obtain ⟨f, hc, rest⟩ := open_act h1 h2
      exact ⟨f, fun j u hj => by have := hc j u hj; rw [add_add] at this; exact this, rest⟩
    obtain ⟨ac, hlen, hac⟩ := list_of len each
    refine ⟨some a, cap, ac, by rw [hlen], ⟨⟨lies_of aenc_len (by omega) fun i hi j u hj => (hac i hi).1 j u hj, by omega, by simp, by unfold maxLen at hm9; omega⟩, ?_⟩⟩
    intro y hy
    obtain ⟨i, hi, rfl⟩ := List.getElem_of_mem hy
    exact (hac i hi).2

/-- a call's cells, in whatever world comes behind -/
theorem ActsAt.cells {w : World} {a : Option Addr} {cap : Nat} {ac : List ActV} (hl : ActsAt w a cap ac) (k : Nat) (hk : k < ac.length) : ∃ b off, a = some ⟨b, off, none⟩ ∧ ∀ W, Below w.heap.size w W → W.cell? ⟨b, off + k * 3, none⟩ = some (.int .i64 ac[k].kind) ∧ W.cell? ⟨b, off + k * 3 + 1, none⟩ = some (.int .i64 ac[k].node) ∧ W.cell? ⟨b, off + k * 3 + 2, none⟩ = some (.int .i64 ac[k].n) := by
  obtain ⟨b, off, rfl, hlt, hc⟩ := hl.lies.at aenc_len k hk
  refine ⟨b, off, rfl, fun W hb => ?_⟩
  obtain ⟨b', off', e, _, hc'⟩ := (hl.lies.below hb).at aenc_len k hk
  cases e
  exact ⟨hc' 0 _ rfl, hc' 1 _ rfl, hc' 2 _ rfl⟩

end Go.Proofs.Ytkofmdchopfcgaa.Ck
