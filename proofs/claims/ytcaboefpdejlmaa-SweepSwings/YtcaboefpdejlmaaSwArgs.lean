/- Layer 12: what sizes, places and moves read as, when they are a law's arguments. -/
import Derived.Test.YtcaboefpdejlmaaGArgs
import Derived.Test.YtcaboefpdejlmaaSwLiv
namespace Go.Proofs.Ytcaboefpdejlmaa.Sw
open Go.ChangeShapes Go.WideShapes Go.ChangeAt Go.RowKit Go.Deep Go.Joins Gk

abbrev Mv : Type := Pc × Pc
def menc (m : Mv) : List Value := penc m.1 ++ penc m.2
theorem menc_len (m : Mv) : (menc m).length = 6 := rfl
theorem menc_one (m : Mv) : ∀ u ∈ menc m, u.oneCell' = true := by
  intro u hu
  rcases List.mem_append.1 hu with h | h
  · exact penc_one _ u h
  · exact penc_one _ u h
structure SzsAt (W : World) (a : Option Addr) (cap : Nat) (l : List Sz) : Prop extends SliceAt W szE a cap l where
  each : ∀ s ∈ l, I64 s.1 ∧ I64 s.2
structure PcsAt (W : World) (a : Option Addr) (cap : Nat) (l : List Pc) : Prop extends SliceAt W penc a cap l where
  each : ∀ p ∈ l, Fit3 p
structure MvsAt (W : World) (a : Option Addr) (cap : Nat) (l : List Mv) : Prop extends SliceAt W menc a cap l where
  each : ∀ m ∈ l, Fit3 m.1 ∧ Fit3 m.2
theorem cells_place : Try.prog.cellsOf 48 = 3 := by kernel_rfl
theorem cells_places : Try.prog.cellsOf 23 = 1 := by kernel_rfl

set_option maxRecDepth 100000 in
theorem open_place {H : Type} {enc : TypeId × Value → H} {W : World} {fuel : Nat} {cs : List Value} {x : DataW H × List MemPlace} (h : DataW.trod enc Try.prog W 0 (fun _ => true) true fuel 48 cs = some x) : ∃ p : Pc, cs = penc p ∧ Fit3 p := by
  obtain ⟨y0, y1, y2, n, rfl, hl, h0, h1, h2⟩ := trod_struct3 Try.underlying48 h
  rw [cells_place] at hl
  match cs, hl with
  | [p, q, v], _ =>
    simp [cells_int] at h0 h1 h2
    obtain ⟨k0, e0, _, hk0⟩ := DataW.trod_int Try.underlying3 h0
    obtain ⟨k1, e1, _, hk1⟩ := DataW.trod_int Try.underlying3 h1
    obtain ⟨k2, e2, _, hk2⟩ := DataW.trod_int Try.underlying3 h2
    simp only [List.cons.injEq, and_true] at e0 e1 e2
    subst e0 e1 e2
    exact ⟨(k0, k1, k2), rfl, bounds_i64 hk0, bounds_i64 hk1, bounds_i64 hk2⟩
set_option maxRecDepth 100000 in
theorem open_places {H : Type} {enc : TypeId × Value → H} {W : World} {fuel : Nat} {cs : List Value} {x : DataW H × List MemPlace} (h : DataW.trod enc Try.prog W 0 (fun _ => true) true fuel 23 cs = some x) : ∃ a cap ac, cs = [.slice a (List.length ac) cap] ∧ PcsAt W a cap ac := by
  rcases open_slice Try.underlying23 h with ⟨rfl, rfl⟩ | ⟨a, len, cap, m, n, D, Pl, rfl, _, hl, hm9, hmm, rfl, hx⟩
  · exact ⟨none, 0, [], rfl, ⟨⟨Or.inl rfl, by simp, fun _ => rfl, by omega⟩, by simp⟩⟩
  · have hm : m = cap := by rw [hmm]; simp
    have each : ∀ i, i < len → ∃ f : Pc, (∀ j u, (penc f)[j]? = some u → W.cell? (a.add (i * 3 + j)) = some u) ∧ Fit3 f := by
      intro i hi
      obtain ⟨cs', h1, h2⟩ := hx i (by omega)
      rw [cells_place] at h1
      obtain ⟨_, hlen, hcell⟩ := World.cells?_some h1
      obtain ⟨f, e, hf⟩ := open_place h2
      refine ⟨f, fun j u hj => ?_, hf⟩
      have hj3 : j < 3 := by have := (List.getElem?_eq_some_iff.1 hj).1; rwa [penc_len] at this
      have := hcell j (by omega)
      rw [add_add] at this
      rw [this, e]; exact hj
    obtain ⟨ac, hlen, hac⟩ := list_of len each
    exact ⟨some a, cap, ac, by rw [hlen], ⟨⟨lies_of penc_len (by omega) fun i hi j u hj => (hac i hi).1 j u hj, by omega, by simp, by unfold maxLen at hm9; omega⟩, fun y hy => by
      obtain ⟨i, hi, rfl⟩ := List.getElem_of_mem hy
      exact (hac i hi).2⟩⟩
theorem cells_move : Try.prog.cellsOf 50 = 6 := by kernel_rfl
set_option maxRecDepth 100000 in
theorem open_move {H : Type} {enc : TypeId × Value → H} {W : World} {fuel : Nat} {cs : List Value} {x : DataW H × List MemPlace} (h : DataW.trod enc Try.prog W 0 (fun _ => true) true fuel 50 cs = some x) : ∃ m : Mv, cs = menc m ∧ Fit3 m.1 ∧ Fit3 m.2 := by
  obtain ⟨y0, y1, n, rfl, hl, h0, h1⟩ := trod_struct2 Try.underlying50 h
  rw [cells_move] at hl
  match cs, hl with
  | [p, q, v, p', q', v'], _ =>
    simp [cells_place] at h0 h1
    obtain ⟨m0, e0, hf0⟩ := open_place h0
    obtain ⟨m1, e1, hf1⟩ := open_place h1
    refine ⟨(m0, m1), ?_, hf0, hf1⟩
    simp only [penc, List.cons.injEq, and_true] at e0 e1
    obtain ⟨rfl, rfl, rfl⟩ := e0
    obtain ⟨rfl, rfl, rfl⟩ := e1
    rfl
set_option maxRecDepth 100000 in
theorem open_moves {H : Type} {enc : TypeId × Value → H} {W : World} {fuel : Nat} {cs : List Value} {x : DataW H × List MemPlace} (h : DataW.trod enc Try.prog W 0 (fun _ => true) true fuel 26 cs = some x) : ∃ a cap ac, cs = [.slice a (List.length ac) cap] ∧ MvsAt W a cap ac := by
  rcases open_slice Try.underlying26 h with ⟨rfl, rfl⟩ | ⟨a, len, cap, m, n, D, Pl, rfl, _, hl, hm9, hmm, rfl, hx⟩
  · exact ⟨none, 0, [], rfl, ⟨⟨Or.inl rfl, by simp, fun _ => rfl, by omega⟩, by simp⟩⟩
  · have hm : m = cap := by rw [hmm]; simp
    have each : ∀ i, i < len → ∃ f : Mv, (∀ j u, (menc f)[j]? = some u → W.cell? (a.add (i * 6 + j)) = some u) ∧ Fit3 f.1 ∧ Fit3 f.2 := by
      intro i hi
      obtain ⟨cs', h1, h2⟩ := hx i (by omega)
      rw [cells_move] at h1
      obtain ⟨_, hlen, hcell⟩ := World.cells?_some h1
      obtain ⟨f, e, hf⟩ := open_move h2
      refine ⟨f, fun j u hj => ?_, hf⟩
      have hj3 : j < 6 := by have := (List.getElem?_eq_some_iff.1 hj).1; rwa [menc_len] at this
      have := hcell j (by omega)
      rw [add_add] at this
      rw [this, e]; exact hj
    obtain ⟨ac, hlen, hac⟩ := list_of len each
    exact ⟨some a, cap, ac, by rw [hlen], ⟨⟨lies_of menc_len (by omega) fun i hi j u hj => (hac i hi).1 j u hj, by omega, by simp, by unfold maxLen at hm9; omega⟩, fun y hy => by
      obtain ⟨i, hi, rfl⟩ := List.getElem_of_mem hy
      exact (hac i hi).2⟩⟩
theorem cells_size : Try.prog.cellsOf 44 = 2 := by kernel_rfl
theorem cells_sizes : Try.prog.cellsOf 22 = 1 := by kernel_rfl
theorem cells_plan : Try.prog.cellsOf 25 = 3 := by kernel_rfl
set_option maxRecDepth 100000 in
theorem open_size {H : Type} {enc : TypeId × Value → H} {W : World} {fuel : Nat} {cs : List Value} {x : DataW H × List MemPlace} (h : DataW.trod enc Try.prog W 0 (fun _ => true) true fuel 44 cs = some x) : ∃ p : Sz, cs = szE p ∧ I64 p.1 ∧ I64 p.2 := by
  obtain ⟨y0, y1, n, rfl, hl, h0, h1⟩ := trod_struct2 Try.underlying44 h
  rw [cells_size] at hl
  match cs, hl with
  | [p, q], _ =>
    simp [cells_int] at h0 h1
    obtain ⟨k0, e0, _, hk0⟩ := DataW.trod_int Try.underlying3 h0
    obtain ⟨k1, e1, _, hk1⟩ := DataW.trod_int Try.underlying3 h1
    simp only [List.cons.injEq, and_true] at e0 e1
    subst e0 e1
    exact ⟨(k0, k1), rfl, bounds_i64 hk0, bounds_i64 hk1⟩
set_option maxRecDepth 100000 in
theorem open_sizes {H : Type} {enc : TypeId × Value → H} {W : World} {fuel : Nat} {cs : List Value} {x : DataW H × List MemPlace} (h : DataW.trod enc Try.prog W 0 (fun _ => true) true fuel 22 cs = some x) : ∃ a cap ac, cs = [.slice a (List.length ac) cap] ∧ SzsAt W a cap ac := by
  rcases open_slice Try.underlying22 h with ⟨rfl, rfl⟩ | ⟨a, len, cap, m, n, D, Pl, rfl, _, hl, hm9, hmm, rfl, hx⟩
  · exact ⟨none, 0, [], rfl, ⟨⟨Or.inl rfl, by simp, fun _ => rfl, by omega⟩, by simp⟩⟩
  · have hm : m = cap := by rw [hmm]; simp
    have each : ∀ i, i < len → ∃ f : Sz, (∀ j u, (szE f)[j]? = some u → W.cell? (a.add (i * 2 + j)) = some u) ∧ I64 f.1 ∧ I64 f.2 := by
      intro i hi
      obtain ⟨cs', h1, h2⟩ := hx i (by omega)
      rw [cells_size] at h1
      obtain ⟨_, hlen, hcell⟩ := World.cells?_some h1
      obtain ⟨f, e, hf⟩ := open_size h2
      refine ⟨f, fun j u hj => ?_, hf⟩
      have hj3 : j < 2 := by have := (List.getElem?_eq_some_iff.1 hj).1; rwa [szE_len] at this
      have := hcell j (by omega)
      rw [add_add] at this
      rw [this, e]; exact hj
    obtain ⟨ac, hlen, hac⟩ := list_of len each
    exact ⟨some a, cap, ac, by rw [hlen], ⟨⟨lies_of szE_len (by omega) fun i hi j u hj => (hac i hi).1 j u hj, by omega, by simp, by unfold maxLen at hm9; omega⟩, fun y hy => by
      obtain ⟨i, hi, rfl⟩ := List.getElem_of_mem hy
      exact (hac i hi).2⟩⟩
/-- a plan, and where its lists lie -/
structure PlnA where
  sa : Option Addr
  sc : Nat
  szs : List Sz
  la : Option Addr
  lc : Nat
  lv : List Pc
  pc : Int
structure PlnAt (W : World) (x : PlnA) : Prop where
  szs : SzsAt W x.sa x.sc x.szs
  lv : PcsAt W x.la x.lc x.lv
  pc : I64 x.pc
abbrev PlnA.cs (x : PlnA) : List Value := [.slice x.sa x.szs.length x.sc, .slice x.la x.lv.length x.lc, .int .i64 x.pc]
abbrev PlnA.v (x : PlnA) : Value := .agg #[.slice x.sa x.szs.length x.sc, .slice x.la x.lv.length x.lc, .int .i64 x.pc]
set_option maxRecDepth 100000 in
theorem open_plan {H : Type} {enc : TypeId × Value → H} {W : World} {fuel : Nat} {cs : List Value} {x : DataW H × List MemPlace} (h : DataW.trod enc Try.prog W 0 (fun _ => true) true fuel 25 cs = some x) (_ : ∀ n ∈ x.1.weights Try.prog 25, n ≤ reachBytes) :
    ∃ y : PlnA, cs = y.cs ∧ PlnAt W y := by
  obtain ⟨y0, y1, y2, n, rfl, hl, h0, h1, h2⟩ := trod_struct3 Try.underlying25 h
  rw [cells_plan] at hl
  match cs, hl with
  | [p, q, v], _ =>
    simp [cells_int, cells_sizes, cells_places] at h0 h1 h2
    obtain ⟨a0, c0, s0, e0, hat0⟩ := open_sizes h0
    obtain ⟨a1, c1, s1, e1, hat1⟩ := open_places h1
    obtain ⟨k2, e2, _, hk2⟩ := DataW.trod_int Try.underlying3 h2
    simp only [List.cons.injEq, and_true] at e0 e1 e2
    subst e0 e1 e2
    exact ⟨⟨a0, c0, s0, a1, c1, s1, k2⟩, rfl, hat0, hat1, bounds_i64 hk2⟩
theorem plan_eq {cs : Array Value} {x : PlnA} (h : (Value.agg cs).cells.toList = x.cs) : Value.agg cs = x.v := by
  have : cs.toList = x.cs := h
  rw [show cs = x.cs.toArray from Array.toList_inj.1 (by rw [this])]

end Go.Proofs.Ytcaboefpdejlmaa.Sw
