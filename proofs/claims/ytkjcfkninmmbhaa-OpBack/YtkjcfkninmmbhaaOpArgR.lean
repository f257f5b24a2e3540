/- Layer 8: what a reply reads as, when it is a law's argument. -/
import Derived.Test.YtkjcfkninmmbhaaOpArgs
import Derived.Test.YtkjcfkninmmbhaaOpRpG
import Derived.Lib.SmallJoins
namespace Go.Proofs.Ytkjcfkninmmbhaa.Oq
open Go.ChangeShapes Go.WideShapes Go.ChangeAt Go.RowKit Go.Deep Go.Joins Gk

theorem cells_row : Try.prog.cellsOf 111 = 3 := by kernel_rfl
theorem cells_rows : Try.prog.cellsOf 105 = 1 := by kernel_rfl
theorem cells_result : Try.prog.cellsOf 107 = 4 := by kernel_rfl
theorem cells_results : Try.prog.cellsOf 40 = 1 := by kernel_rfl
theorem cells_errno : Try.prog.cellsOf 26 = 1 := by kernel_rfl
theorem cells_fault : Try.prog.cellsOf 42 = 2 := by kernel_rfl
theorem cells_reply : Try.prog.cellsOf 44 = 5 := by kernel_rfl

set_option maxRecDepth 100000 in
theorem open_row {H : Type} {enc : TypeId × Value → H} {W : World} {fuel : Nat} {cs : List Value} {x : DataW H × List MemPlace} (h : DataW.trod enc Try.prog W 0 (fun _ => true) true fuel 111 cs = some x) : ∃ f : Rw, cs = rwenc f := by
  obtain ⟨y0, y1, y2, n, rfl, hl, h0, h1, h2⟩ := trod_struct3 Try.underlying111 h
  rw [cells_row] at hl
  match cs, hl with
  | [p, q, v], _ =>
    simp [cells_int, cells_string] at h0 h1 h2
    obtain ⟨s0, e0, _, _⟩ := DataW.trod_string Try.underlying9 h0
    obtain ⟨k1, e1, _, _⟩ := DataW.trod_int Try.underlying3 h1
    obtain ⟨s2, e2, _, _⟩ := DataW.trod_string Try.underlying9 h2
    simp only [List.cons.injEq, and_true] at e0 e1 e2
    subst e0 e1 e2
    exact ⟨⟨s0, k1, s2⟩, rfl⟩

set_option maxRecDepth 100000 in
theorem open_rows {H : Type} {enc : TypeId × Value → H} {W : World} {fuel : Nat} {cs : List Value} {x : DataW H × List MemPlace} (h : DataW.trod enc Try.prog W 0 (fun _ => true) true fuel 105 cs = some x) : ∃ a cap ac, cs = [.slice a (List.length ac) cap] ∧ SliceAt W rwenc a cap ac := by
  rcases open_slice Try.underlying105 h with ⟨rfl, rfl⟩ | ⟨a, len, cap, m, n, D, Pl, rfl, _, hl, hm9, hmm, rfl, hx⟩
  · exact ⟨none, 0, [], rfl, ⟨Or.inl rfl, by simp, fun _ => rfl, by omega⟩⟩
  · have hm : m = cap := by rw [hmm]; simp
    have each : ∀ i, i < len → ∃ f : Rw, ∀ j u, (rwenc f)[j]? = some u → W.cell? (a.add (i * 3 + j)) = some u := by
      intro i hi
      obtain ⟨cs', h1, h2⟩ := hx i (by omega)
      rw [cells_row] at h1
      obtain ⟨_, hlen, hcell⟩ := World.cells?_some h1
      obtain ⟨f, rfl⟩ := open_row h2
      refine ⟨f, fun j u hj => ?_⟩
      have hj6 : j < 3 := by have := (List.getElem?_eq_some_iff.1 hj).1; rwa [rwenc_len] at this
      have := hcell j hj6
      rw [add_add] at this
      rw [this]
      exact hj
    obtain ⟨ac, hlen, hac⟩ := list_of len each
    exact ⟨some a, cap, ac, by rw [hlen], ⟨lies_of rwenc_len (by omega) fun i hi j u hj => hac i hi j u hj, by omega, by simp, by unfold maxLen at hm9; omega⟩⟩

set_option maxRecDepth 100000 in
theorem open_result {H : Type} {enc : TypeId × Value → H} {W : World} {fuel : Nat} {cs : List Value} {x : DataW H × List MemPlace} (h : DataW.trod enc Try.prog W 0 (fun _ => true) true fuel 107 cs = some x) :
    ∃ f : RsA, cs = rsenc f ∧ Gk.Lies W rwenc f.a f.r.rows ∧ f.r.rows.length ≤ 9223372036854775807 := by
  obtain ⟨y0, y1, y2, y3, n, rfl, hl, h0, h1, h2, h3⟩ := trod_struct4 Try.underlying107 h
  rw [cells_result] at hl
  match cs, hl with
  | [p, q, v, u], _ =>
    simp [cells_int, cells_string, cells_errno, cells_rows] at h0 h1 h2 h3
    obtain ⟨k0, e0, _, _⟩ := DataW.trod_int Try.underlying26 h0
    obtain ⟨k1, e1, _, _⟩ := DataW.trod_int Try.underlying3 h1
    obtain ⟨s2, e2, _, _⟩ := DataW.trod_string Try.underlying9 h2
    obtain ⟨a, cap, ac, e3, hat⟩ := open_rows h3
    simp only [List.cons.injEq, and_true] at e0 e1 e2 e3
    subst e0 e1 e2 e3
    exact ⟨⟨⟨k0, k1, s2, ac⟩, a, cap⟩, rfl, hat.lies, Nat.le_trans hat.room hat.max⟩

set_option maxRecDepth 100000 in
theorem open_results {H : Type} {enc : TypeId × Value → H} {W : World} {fuel : Nat} {cs : List Value} {x : DataW H × List MemPlace} (h : DataW.trod enc Try.prog W 0 (fun _ => true) true fuel 40 cs = some x) :
    ∃ a cap ac, cs = [.slice a (List.length ac) cap] ∧ ResL W a ac ∧ List.length ac ≤ 9223372036854775807 ∧ ∀ y ∈ ac, y.r.rows.length ≤ 9223372036854775807 := by
  rcases open_slice Try.underlying40 h with ⟨rfl, rfl⟩ | ⟨a, len, cap, m, n, D, Pl, rfl, _, hl, hm9, hmm, rfl, hx⟩
  · exact ⟨none, 0, [], rfl, ⟨Or.inl rfl, fun _ hx => absurd hx List.not_mem_nil⟩, by simp, fun _ hx => absurd hx List.not_mem_nil⟩
  · have hm : m = cap := by rw [hmm]; simp
    have each : ∀ i, i < len → ∃ f : RsA, (∀ j u, (rsenc f)[j]? = some u → W.cell? (a.add (i * 4 + j)) = some u) ∧ Gk.Lies W rwenc f.a f.r.rows ∧ f.r.rows.length ≤ 9223372036854775807 := by
      intro i hi
      obtain ⟨cs', h1, h2⟩ := hx i (by omega)
      rw [cells_result] at h1
      obtain ⟨_, hlen, hcell⟩ := World.cells?_some h1
      obtain ⟨f, rfl, hf⟩ := open_result h2
      refine ⟨f, fun j u hj => ?_, hf⟩
      have hj6 : j < 4 := by have := (List.getElem?_eq_some_iff.1 hj).1; rwa [rsenc_len] at this
      have := hcell j hj6
      rw [add_add] at this
      rw [this]
      exact hj
    obtain ⟨ac, hlen, hac⟩ := list_of len each
    refine ⟨some a, cap, ac, by rw [hlen], ⟨lies_of rsenc_len (by omega) fun i hi j u hj => (hac i hi).1 j u hj, fun y hy => ?_⟩, by unfold maxLen at hm9; omega, fun y hy => ?_⟩
    · obtain ⟨i, hi, rfl⟩ := List.getElem_of_mem hy
      exact (hac i hi).2.1
    · obtain ⟨i, hi, rfl⟩ := List.getElem_of_mem hy
      exact (hac i hi).2.2

/-- a reply, and where its lists lie -/
structure RepA where
  client : Int
  seq : Int
  at_ : Int
  code : Int
  a : Option Addr
  cap : Nat
  l : List RsA
structure RepAt (W : World) (x : RepA) : Prop where
  lies : ResL W x.a x.l
  len : x.l.length ≤ 9223372036854775807
  rows : ∀ y ∈ x.l, y.r.rows.length ≤ 9223372036854775807
  at_ : -9223372036854775808 ≤ x.at_ ∧ x.at_ ≤ 9223372036854775807
  code : -9223372036854775808 ≤ x.code ∧ x.code ≤ 9223372036854775807
abbrev RepA.cs (x : RepA) : List Value := [.int .i64 x.client, .int .i64 x.seq, .slice x.a x.l.length x.cap, .int .i64 x.at_, .int .i64 x.code]

set_option maxRecDepth 100000 in
theorem open_rep {H : Type} {enc : TypeId × Value → H} {W : World} {fuel : Nat} {cs : List Value} {x : DataW H × List MemPlace} (h : DataW.trod enc Try.prog W 0 (fun _ => true) true fuel 44 cs = some x) (_ : ∀ n ∈ x.1.weights Try.prog 44, n ≤ reachBytes) :
    ∃ y : RepA, cs = y.cs ∧ RepAt W y := by
  obtain ⟨y0, y1, y2, y3, n, rfl, hl, h0, h1, h2, h3⟩ := trod_struct4 Try.underlying44 h
  rw [cells_reply] at hl
  match cs, hl with
  | [p, q, v, u, t], _ =>
    simp [cells_int, cells_results, cells_fault] at h0 h1 h2 h3
    obtain ⟨k0, e0, _, _⟩ := DataW.trod_int Try.underlying3 h0
    obtain ⟨k1, e1, _, _⟩ := DataW.trod_int Try.underlying3 h1
    obtain ⟨a, cap, ac, e2, hat, hl2, hr2⟩ := open_results h2
    obtain ⟨z0, z1, m, ex, hl3, g0, g1⟩ := trod_struct2 Try.underlying42 h3
    simp [cells_int, cells_errno] at g0 g1
    obtain ⟨k3, e3, _, hk3⟩ := DataW.trod_int Try.underlying3 g0
    obtain ⟨k4, e4, _, hk4⟩ := DataW.trod_int Try.underlying26 g1
    simp only [List.cons.injEq, and_true] at e0 e1 e2 e3 e4
    subst e0 e1 e2 e3 e4
    exact ⟨⟨k0, k1, k3, k4, a, cap, ac⟩, rfl, ⟨hat, hl2, hr2, bounds_i64 hk3, bounds_i64 hk4⟩⟩
theorem rep_eq {cs : Array Value} {x : RepA} (h : (Value.agg cs).cells.toList = x.cs) : Value.agg cs = .agg #[.int .i64 x.client, .int .i64 x.seq, .slice x.a x.l.length x.cap, .int .i64 x.at_, .int .i64 x.code] := by
  have : cs.toList = x.cs := h
  rw [show cs = x.cs.toArray from Array.toList_inj.1 (by rw [this])]

end Go.Proofs.Ytkjcfkninmmbhaa.Oq
