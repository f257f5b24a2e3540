/- Layer 9: what a list of calls of a table reads as, when it is a law's argument. -/
import Derived.Test.YthdempdiibjabaaOpArgO
import Derived.Test.YthdempdiibjabaaTbRep
namespace Go.Proofs.Ythdempdiibjabaa.Tb
open Go.ChangeShapes Go.WideShapes Go.ChangeAt Go.RowKit Go.Deep Go.Joins Gk Oq

/-- a call, and where its lists lie -/
structure ActV where
  kind : Int
  oa : Option Addr
  oc : Nat
  ops : List Opn
  fr : ByteArray
  to : ByteArray
  ra : Option Addr
  rcap : Nat
  rows : List Rw
def aenc (x : ActV) : List Value := [.int .i64 x.kind, .slice x.oa x.ops.length x.oc, .string x.fr, .string x.to, .slice x.ra x.rows.length x.rcap]
theorem aenc_len (x : ActV) : (aenc x).length = 5 := rfl
structure ActAt (W : World) (x : ActV) : Prop where
  kind : -9223372036854775808 ≤ x.kind ∧ x.kind ≤ 9223372036854775807
  ops : SliceAt W oenc x.oa x.oc x.ops
  bytes : x.ops.length * 64 ≤ 140737488351232
  rows : SliceAt W rwenc x.ra x.rcap x.rows
structure ActsAt (W : World) (a : Option Addr) (cap : Nat) (l : List ActV) : Prop extends SliceAt W aenc a cap l where
  each : ∀ x ∈ l, ActAt W x
theorem cells_row : Try.prog.cellsOf 53 = 3 := by kernel_rfl
theorem cells_rows : Try.prog.cellsOf 26 = 1 := by kernel_rfl
theorem cells_span : Try.prog.cellsOf 31 = 2 := by kernel_rfl
theorem cells_act : Try.prog.cellsOf 33 = 5 := by kernel_rfl
theorem bytes_op : Try.prog.bytesOf 45 = 64 := by kernel_rfl

set_option maxRecDepth 100000 in
theorem ops_bytes {H : Type} {enc : TypeId × Value → H} {W : World} {fuel : Nat} {a : Option Addr} {n cap : Nat} {x : DataW H × List MemPlace} (h : DataW.trod enc Try.prog W 0 (fun _ => true) true fuel 29 [.slice a n cap] = some x)
    (hsz : ∀ n ∈ x.1.weights Try.prog 29, n ≤ reachBytes) : n * 64 ≤ 140737488351232 := by
  rcases open_slice Try.underlying29 h with ⟨e, rfl⟩ | ⟨a', len, cap', m, n', D, Pl, e, _, hl, hm9, hmm, rfl, hx⟩
  · simp only [List.cons.injEq, Value.slice.injEq, and_true] at e
    rw [e.2.1]; omega
  · simp only [List.cons.injEq, Value.slice.injEq, and_true] at e
    simp only [DataW.weights, Try.underlying29] at hsz
    have := hsz _ (List.mem_cons_self ..)
    simp only [bytes_op, List.length_map, List.length_range, reachBytes] at this
    rw [e.2.1]
    omega

set_option maxRecDepth 100000 in
theorem open_row {H : Type} {enc : TypeId × Value → H} {W : World} {fuel : Nat} {cs : List Value} {x : DataW H × List MemPlace} (h : DataW.trod enc Try.prog W 0 (fun _ => true) true fuel 53 cs = some x) :
    ∃ f : Rw, cs = rwenc f := by
  obtain ⟨y0, y1, y2, n, rfl, hl, h0, h1, h2⟩ := trod_struct3 Try.underlying53 h
  rw [cells_row] at hl
  match cs, hl with
  | [p, q, v], _ =>
    dsimp only at h0 h1 h2
    rw [cells_string] at h0 h2
    rw [cells_int] at h1
    obtain ⟨k, e0, _, _⟩ := DataW.trod_string Try.underlying9 h0
    obtain ⟨s, e1, _, _⟩ := DataW.trod_int Try.underlying3 h1
    obtain ⟨z, e2, _, _⟩ := DataW.trod_string Try.underlying9 h2
    simp only [List.drop_succ_cons, List.drop_zero, List.take_succ_cons, List.take_zero, List.cons.injEq, and_true] at e0 e1 e2
    subst e0 e1 e2
    exact ⟨⟨k, s, z⟩, rfl⟩

set_option maxRecDepth 100000 in
theorem open_rows {H : Type} {enc : TypeId × Value → H} {W : World} {fuel : Nat} {cs : List Value} {x : DataW H × List MemPlace} (h : DataW.trod enc Try.prog W 0 (fun _ => true) true fuel 26 cs = some x) :
    ∃ a cap ac, cs = [.slice a (List.length ac) cap] ∧ SliceAt W rwenc a cap ac := by
  rcases open_slice Try.underlying26 h with ⟨rfl, rfl⟩ | ⟨a, len, cap, m, n, D, Pl, rfl, _, hl, hm9, hmm, rfl, hx⟩
  · exact ⟨none, 0, [], rfl, ⟨Or.inl rfl, by simp, fun _ => rfl, by omega⟩⟩
  · have hm : m = cap := by rw [hmm]; simp
    have each : ∀ i, i < len → ∃ f : Rw, (∀ j u, (rwenc f)[j]? = some u → W.cell? (a.add (i * 3 + j)) = some u) := by
      intro i hi
      obtain ⟨cs', h1, h2⟩ := hx i (by omega)
      rw [cells_row] at h1
      obtain ⟨_, hlen, hcell⟩ := World.cells?_some h1
      obtain ⟨f, rfl⟩ := open_row h2
      refine ⟨f, fun j u hj => ?_⟩
      have hj3 : j < 3 := by have := (List.getElem?_eq_some_iff.1 hj).1; rwa [rwenc_len] at this
      have := hcell j hj3
      rw [add_add] at this
      rw [this]
      exact hj
    obtain ⟨ac, hlen, hac⟩ := list_of len each
    exact ⟨some a, cap, ac, by rw [hlen], ⟨lies_of rwenc_len (by omega) fun i hi j u hj => hac i hi j u hj, by omega, by simp, by unfold maxLen at hm9; omega⟩⟩

set_option maxRecDepth 100000 in
theorem open_span {H : Type} {enc : TypeId × Value → H} {W : World} {fuel : Nat} {cs : List Value} {x : DataW H × List MemPlace} (h : DataW.trod enc Try.prog W 0 (fun _ => true) true fuel 31 cs = some x) :
    ∃ fr to : ByteArray, cs = [.string fr, .string to] := by
  obtain ⟨y0, y1, n, rfl, hl, h0, h1⟩ := trod_struct2 Try.underlying31 h
  rw [cells_span] at hl
  match cs, hl with
  | [p, q], _ =>
    dsimp only at h0 h1
    rw [cells_string] at h0 h1
    obtain ⟨k, e0, _, _⟩ := DataW.trod_string Try.underlying9 h0
    obtain ⟨z, e1, _, _⟩ := DataW.trod_string Try.underlying9 h1
    simp only [List.drop_succ_cons, List.drop_zero, List.take_succ_cons, List.take_zero, List.cons.injEq, and_true] at e0 e1
    subst e0 e1
    exact ⟨k, z, rfl⟩

set_option maxRecDepth 100000 in
theorem open_act {H : Type} {enc : TypeId × Value → H} {W : World} {fuel : Nat} {cs : List Value} {x : DataW H × List MemPlace} (h : DataW.trod enc Try.prog W 0 (fun _ => true) true fuel 33 cs = some x) (hsz : ∀ n ∈ x.1.weights Try.prog 33, n ≤ reachBytes) :
    ∃ f : ActV, cs = aenc f ∧ ActAt W f := by
  obtain ⟨y0, y1, y2, y3, n, rfl, hl, h0, h1, h2, h3⟩ := trod_struct4 Try.underlying33 h
  rw [cells_act] at hl
  match cs, hl with
  | [p0, p1, p2, p3, p4], _ =>
    dsimp only at h0 h1 h2 h3
    rw [cells_int] at h0
    rw [cells_ops] at h1
    rw [cells_span] at h2
    rw [cells_rows] at h3
    have hsz1 : ∀ n ∈ y1.1.weights Try.prog 29, n ≤ reachBytes := fun n hn => hsz n (by simp [DataW.weights, Try.underlying33, DataW.weightsEach, hn])
    obtain ⟨k, e0, _, hk⟩ := DataW.trod_int Try.underlying3 h0
    obtain ⟨oa, oc, ops, e1, hat⟩ := open_ops h1 hsz1
    rw [e1] at h1
    have hby := ops_bytes h1 hsz1
    obtain ⟨fr, to, e2⟩ := open_span h2
    obtain ⟨ra, rcap, rows, e3, hrt⟩ := open_rows h3
    simp only [List.drop_succ_cons, List.drop_zero, List.take_succ_cons, List.take_zero, List.cons.injEq, and_true] at e0 e1 e2 e3
    obtain ⟨rfl, rfl⟩ := e2
    subst e0 e1 e3
    exact ⟨⟨k, oa, oc, ops, fr, to, ra, rcap, rows⟩, rfl, ⟨bounds_i64 hk, hat.toSliceAt, hby, hrt⟩⟩

set_option maxRecDepth 100000 in
theorem open_acts {H : Type} {enc : TypeId × Value → H} {W : World} {fuel : Nat} {cs : List Value} {x : DataW H × List MemPlace} (h : DataW.trod enc Try.prog W 0 (fun _ => true) true fuel 22 cs = some x)
    (hsz : ∀ n ∈ x.1.weights Try.prog 22, n ≤ reachBytes) : ∃ a cap ac, cs = [.slice a (List.length ac) cap] ∧ ActsAt W a cap ac := by
  rcases open_slice Try.underlying22 h with ⟨rfl, rfl⟩ | ⟨a, len, cap, m, n, D, Pl, rfl, _, hl, hm9, hmm, rfl, hx⟩
  · exact ⟨none, 0, [], rfl, ⟨⟨Or.inl rfl, by simp, fun _ => rfl, by omega⟩, by simp⟩⟩
  · have hm : m = cap := by rw [hmm]; simp
    simp only [DataW.weights, Try.underlying22] at hsz
    have each : ∀ i, i < len → ∃ f : ActV, (∀ j u, (aenc f)[j]? = some u → W.cell? (a.add (i * 5 + j)) = some u) ∧ ActAt W f := by
      intro i hi
      obtain ⟨cs', h1, h2⟩ := hx i (by omega)
      rw [cells_act] at h1
      obtain ⟨_, hlen, hcell⟩ := World.cells?_some h1
      have hmem : D i ∈ (List.range len).map D := List.mem_map.2 ⟨i, List.mem_range.2 (by omega), rfl⟩
      obtain ⟨f, rfl, hok⟩ := open_act h2 (fun n hn => hsz _ (List.mem_cons_of_mem _ (List.mem_append_left _ (weightsAll_mem hmem hn))))
      refine ⟨f, fun j u hj => ?_, hok⟩
      have hj6 : j < 5 := by have := (List.getElem?_eq_some_iff.1 hj).1; rwa [aenc_len] at this
      have := hcell j hj6
      rw [add_add] at this
      rw [this]
      exact hj
    obtain ⟨ac, hlen, hac⟩ := list_of len each
    refine ⟨some a, cap, ac, by rw [hlen], ⟨⟨lies_of aenc_len (by omega) fun i hi j u hj => (hac i hi).1 j u hj, by omega, by simp, by unfold maxLen at hm9; omega⟩, ?_⟩⟩
    intro y hy
    obtain ⟨i, hi, rfl⟩ := List.getElem_of_mem hy
    exact (hac i (by omega)).2

end Go.Proofs.Ythdempdiibjabaa.Tb
