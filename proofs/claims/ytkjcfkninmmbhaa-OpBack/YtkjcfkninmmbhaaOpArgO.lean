/- Layer 8: what an operation, a list of them, and a request read as, when they are a law's arguments. -/
import Derived.Test.YtkjcfkninmmbhaaGArgs
import Derived.Test.YtkjcfkninmmbhaaOpMay
namespace Go.Proofs.Ytkjcfkninmmbhaa.Oq
open Go.ChangeShapes Go.WideShapes Go.ChangeAt Go.RowKit Go.Deep Go.Joins Gk

/-- numbers of 64 bits, texts that can be read -/
structure Opn.Ok (x : Opn) : Prop where
  kind : -9223372036854775808 ≤ x.kind ∧ x.kind ≤ 9223372036854775807
  stamp : -9223372036854775808 ≤ x.stamp ∧ x.stamp ≤ 9223372036854775807
  test : -9223372036854775808 ≤ x.test ∧ x.test ≤ 9223372036854775807
  most : -9223372036854775808 ≤ x.most ∧ x.most ≤ 9223372036854775807
  key : x.key.size ≤ 140737488351232
  val : x.val.size ≤ 140737488351232
structure OpsAt (W : World) (a : Option Addr) (cap : Nat) (l : List Opn) : Prop extends SliceAt W oenc a cap l where
  each : ∀ x ∈ l, x.Ok

theorem cells_op : Try.prog.cellsOf 29 = 6 := by kernel_rfl
theorem cells_ops : Try.prog.cellsOf 22 = 1 := by kernel_rfl

theorem size_of {s : ByteArray} (h : s.data.toList.length ≤ reachBytes) : s.size ≤ 140737488351232 := by
  rw [← Lib.size_eq] at h; simpa [reachBytes] using h

set_option maxRecDepth 100000 in
theorem open_op {H : Type} {enc : TypeId × Value → H} {W : World} {fuel : Nat} {cs : List Value} {x : DataW H × List MemPlace} (h : DataW.trod enc Try.prog W 0 (fun _ => true) true fuel 29 cs = some x) (hsz : ∀ n ∈ x.1.weights Try.prog 29, n ≤ reachBytes) :
    ∃ f : Opn, cs = oenc f ∧ f.Ok := by
  obtain ⟨xs, n, _, rfl, hl, hxl, hf⟩ := DataW.trod_struct Try.underlying29 h
  rw [cells_op] at hl
  match cs, hl, xs, hxl with
  | [v0, v1, v2, v3, v4, v5], _, [y0, y1, y2, y3, y4, y5], _ =>
    have h0 := hf 0 _ rfl
    have h1 := hf 1 _ rfl
    have h2 := hf 2 _ rfl
    have h3 := hf 3 _ rfl
    have h4 := hf 4 _ rfl
    have h5 := hf 5 _ rfl
    simp [cells_int, cells_string] at h0 h1 h2 h3 h4 h5
    obtain ⟨k0, e0, _, hk0⟩ := DataW.trod_int Try.underlying3 h0
    obtain ⟨s1, e1, ex1, _⟩ := DataW.trod_string Try.underlying9 h1
    obtain ⟨s2, e2, ex2, _⟩ := DataW.trod_string Try.underlying9 h2
    obtain ⟨k3, e3, _, hk3⟩ := DataW.trod_int Try.underlying3 h3
    obtain ⟨k4, e4, _, hk4⟩ := DataW.trod_int Try.underlying3 h4
    obtain ⟨k5, e5, _, hk5⟩ := DataW.trod_int Try.underlying3 h5
    simp only [List.cons.injEq, and_true] at e0 e1 e2 e3 e4 e5
    subst e0 e1 e2 e3 e4 e5
    refine ⟨⟨k0, s1, s2, k3, k4, k5⟩, rfl, ⟨bounds_i64 hk0, bounds_i64 hk3, bounds_i64 hk4, bounds_i64 hk5, size_of (hsz _ ?_), size_of (hsz _ ?_)⟩⟩
    · simp [DataW.weights, Try.underlying29, DataW.weightsEach, ex1]
    · simp [DataW.weights, Try.underlying29, DataW.weightsEach, ex2]

set_option maxRecDepth 100000 in
theorem open_ops {H : Type} {enc : TypeId × Value → H} {W : World} {fuel : Nat} {cs : List Value} {x : DataW H × List MemPlace} (h : DataW.trod enc Try.prog W 0 (fun _ => true) true fuel 22 cs = some x)
    (hsz : ∀ n ∈ x.1.weights Try.prog 22, n ≤ reachBytes) : ∃ a cap ac, cs = [.slice a (List.length ac) cap] ∧ OpsAt W a cap ac := by
  rcases open_slice Try.underlying22 h with ⟨rfl, rfl⟩ | ⟨a, len, cap, m, n, D, Pl, rfl, _, hl, hm9, hmm, rfl, hx⟩
  · exact ⟨none, 0, [], rfl, ⟨⟨Or.inl rfl, by simp, fun _ => rfl, by omega⟩, by simp⟩⟩
  · have hm : m = cap := by rw [hmm]; simp
    simp only [DataW.weights, Try.underlying22] at hsz
    have each : ∀ i, i < len → ∃ f : Opn, (∀ j u, (oenc f)[j]? = some u → W.cell? (a.add (i * 6 + j)) = some u) ∧ f.Ok := by
      intro i hi
      obtain ⟨cs', h1, h2⟩ := hx i (by omega)
      rw [cells_op] at h1
      obtain ⟨_, hlen, hcell⟩ := World.cells?_some h1
      have hmem : D i ∈ (List.range len).map D := List.mem_map.2 ⟨i, List.mem_range.2 (by omega), rfl⟩
      obtain ⟨f, rfl, hok⟩ := open_op h2 (fun n hn => hsz _ (List.mem_cons_of_mem _ (List.mem_append_left _ (weightsAll_mem hmem hn))))
      refine ⟨f, fun j u hj => ?_, hok⟩
      have hj6 : j < 6 := by have := (List.getElem?_eq_some_iff.1 hj).1; rwa [oenc_len] at this
      have := hcell j hj6
      rw [add_add] at this
      rw [this]
      exact hj
    obtain ⟨ac, hlen, hac⟩ := list_of len each
    refine ⟨some a, cap, ac, by rw [hlen], ⟨⟨lies_of oenc_len (by omega) fun i hi j u hj => (hac i hi).1 j u hj, by omega, by simp, by unfold maxLen at hm9; omega⟩, ?_⟩⟩
    intro y hy
    obtain ⟨i, hi, rfl⟩ := List.getElem_of_mem hy
    exact (hac i hi).2

theorem op_eq {cs : Array Value} {x : Opn} (h : (Value.agg cs).cells.toList = oenc x) : Value.agg cs = x.v := by
  have : cs.toList = oenc x := h
  rw [show cs = (oenc x).toArray from Array.toList_inj.1 (by rw [this])]
  rfl

end Go.Proofs.Ytkjcfkninmmbhaa.Oq
