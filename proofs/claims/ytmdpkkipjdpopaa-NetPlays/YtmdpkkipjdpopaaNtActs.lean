/- What an argument that is a list of calls of a net reads as. -/
import Derived.Test.YtmdpkkipjdpopaaGArgs
namespace Go.Proofs.Ytmdpkkipjdpopaa.Nk
open Go.ChangeShapes Go.WideShapes Go.ChangeAt Go.RowKit Go.Deep Go.Joins Gk

structure ActV where
  kind : Int
  a : Int
  b : Int
  i : Int
  body : ByteArray
  own : Bool
def aenc (x : ActV) : List Value := [.int .i64 x.kind, .int .i64 x.a, .int .i64 x.b, .int .i64 x.i, .string x.body, .bool x.own]
theorem aenc_len (x : ActV) : (aenc x).length = 6 := rfl
structure ActV.Ok (x : ActV) : Prop where
  kind : -9223372036854775808 ≤ x.kind ∧ x.kind ≤ 9223372036854775807
  a : -9223372036854775808 ≤ x.a ∧ x.a ≤ 9223372036854775807
  b : -9223372036854775808 ≤ x.b ∧ x.b ≤ 9223372036854775807
  i : -9223372036854775808 ≤ x.i ∧ x.i ≤ 9223372036854775807
  body : x.body.size ≤ 140737488351232
structure ActsAt (W : World) (a : Option Addr) (cap : Nat) (ac : List ActV) : Prop extends SliceAt W aenc a cap ac where
  each : ∀ x ∈ ac, x.Ok

theorem cells_act : Try.prog.cellsOf 32 = 6 := by kernel_rfl

set_option maxRecDepth 100000 in
theorem open_act {H : Type} {enc : TypeId × Value → H} {W : World} {fuel : Nat} {a : Addr} {cs : List Value} {x : DataW H × List MemPlace} (hc : W.cells? 0 a 6 = some cs) (h : DataW.trod enc Try.prog W 0 (fun _ => true) true fuel 32 cs = some x) :
    ∃ f : ActV, (∀ j u, (aenc f)[j]? = some u → W.cell? (a.add j) = some u) ∧ (∃ d0 d1 d2 d3 d5, x.1 = .agg [d0, d1, d2, d3, .lit (.string f.body.data.toList), d5]) ∧ (-9223372036854775808 ≤ f.kind ∧ f.kind ≤ 9223372036854775807) ∧ (-9223372036854775808 ≤ f.a ∧ f.a ≤ 9223372036854775807) ∧ (-9223372036854775808 ≤ f.b ∧ f.b ≤ 9223372036854775807) ∧ (-9223372036854775808 ≤ f.i ∧ f.i ≤ 9223372036854775807) := by
  obtain ⟨_, hlen, hcell⟩ := World.cells?_some hc
  obtain ⟨xs, n, _, rfl, hl, hxl, hf⟩ := DataW.trod_struct Try.underlying32 h
  match cs, hlen, xs, hxl with
  | [v0, v1, v2, v3, v4, v5], _, [y0, y1, y2, y3, y4, y5], _ =>
    have h0 := hf 0 _ rfl
    have h1 := hf 1 _ rfl
    have h2 := hf 2 _ rfl
    have h3 := hf 3 _ rfl
    have h4 := hf 4 _ rfl
    have h5 := hf 5 _ rfl
    simp [cells_int, cells_string, cells_bool] at h0 h1 h2 h3 h4 h5
    obtain ⟨k0, e0, _, hk0⟩ := DataW.trod_int Try.underlying3 h0
    obtain ⟨k1, e1, _, hk1⟩ := DataW.trod_int Try.underlying3 h1
    obtain ⟨k2, e2, _, hk2⟩ := DataW.trod_int Try.underlying3 h2
    obtain ⟨k3, e3, _, hk3⟩ := DataW.trod_int Try.underlying3 h3
    obtain ⟨s4, e4, ex4, _⟩ := DataW.trod_string Try.underlying9 h4
    obtain ⟨b5, e5, _⟩ := DataW.trod_bool Try.underlying4 h5
    simp only [List.cons.injEq, and_true] at e0 e1 e2 e3 e4 e5
    subst e0 e1 e2 e3 e4 e5
    refine ⟨⟨k0, k1, k2, k3, s4, b5⟩, fun j u hj => ?_, ⟨y0.1, y1.1, y2.1, y3.1, y5.1, ?_⟩, bounds_i64 hk0, bounds_i64 hk1, bounds_i64 hk2, bounds_i64 hk3⟩
    · have hj6 : j < 6 := by have := (List.getElem?_eq_some_iff.1 hj).1; rwa [aenc_len] at this
      rw [hcell j hj6]
      exact hj
    · rw [ex4]; simp

set_option maxRecDepth 100000 in
theorem open_acts {H : Type} {enc : TypeId × Value → H} {W : World} {fuel : Nat} {cs : List Value} {x : DataW H × List MemPlace} (h : DataW.trod enc Try.prog W 0 (fun _ => true) true fuel 22 cs = some x)
    (hsz : ∀ n ∈ x.1.weights Try.prog 22, n ≤ reachBytes) : ∃ a cap ac, cs = [.slice a (List.length ac) cap] ∧ ActsAt W a cap ac := by
  rcases open_slice Try.underlying22 h with ⟨rfl, rfl⟩ | ⟨a, len, cap, m, n, D, Pl, rfl, _, hl, hm9, hmm, rfl, hx⟩
  · exact ⟨none, 0, [], rfl, ⟨⟨Or.inl rfl, by simp, fun _ => rfl, by omega⟩, by simp⟩⟩
  · have hm : m = cap := by rw [hmm]; simp
    have each : ∀ i, i < len → ∃ f : ActV, (∀ j u, (aenc f)[j]? = some u → W.cell? (a.add (i * 6 + j)) = some u) ∧ (∃ d0 d1 d2 d3 d5, D i = .agg [d0, d1, d2, d3, .lit (.string f.body.data.toList), d5]) ∧ (-9223372036854775808 ≤ f.kind ∧ f.kind ≤ 9223372036854775807) ∧ (-9223372036854775808 ≤ f.a ∧ f.a ≤ 9223372036854775807) ∧ (-9223372036854775808 ≤ f.b ∧ f.b ≤ 9223372036854775807) ∧ (-9223372036854775808 ≤ f.i ∧ f.i ≤ 9223372036854775807) := by
      intro i hi
      obtain ⟨cs', h1, h2⟩ := hx i (by omega)
      rw [cells_act] at h1
      obtain ⟨f, hc, rest⟩ := open_act h1 h2
      exact ⟨f, fun j u hj => by have := hc j u hj; rw [add_add] at this; exact this, rest⟩
    obtain ⟨ac, hlen, hac⟩ := list_of len each
    simp only [DataW.weights, Try.underlying22] at hsz
    refine ⟨some a, cap, ac, by rw [hlen], ⟨⟨lies_of aenc_len (by omega) fun i hi j u hj => (hac i hi).1 j u hj, by omega, by simp, by unfold maxLen at hm9; omega⟩, ?_⟩⟩
    intro y hy
    obtain ⟨i, hi, rfl⟩ := List.getElem_of_mem hy
    obtain ⟨_, ⟨d0, d1, d2, d3, d5, hd⟩, hk, ha, hb, hi'⟩ := hac i hi
    have hmem : D i ∈ (List.range len).map D := List.mem_map.2 ⟨i, List.mem_range.2 (by omega), rfl⟩
    have hw : ∀ n, n ∈ (D i).weights Try.prog 32 → n ≤ reachBytes := fun n hn => hsz _ (List.mem_cons_of_mem _ (List.mem_append_left _ (weightsAll_mem hmem hn)))
    have h1 := hw (ac[i]).body.data.toList.length (by rw [hd]; simp [DataW.weights, Try.underlying32, DataW.weightsEach])
    rw [← Lib.size_eq] at h1
    exact ⟨hk, ha, hb, hi', by simpa [reachBytes] using h1⟩

end Go.Proofs.Ytmdpkkipjdpopaa.Nk
