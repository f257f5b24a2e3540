/- What a change reads as, when it is a law's argument. -/
import Derived.Test.YtcmdglmcmifflaaDoorLyMay
import Derived.Test.YtcmdglmcmifflaaDoorGArgs
import Derived.Test.YtcmdglmcmifflaaDoorLyChk
namespace Go.Proofs.YtcmdglmcmifflaaDoor.Ly
open Go.ChangeShapes Go.WideShapes Go.ChangeAt Go.RowKit Go.Deep Go.Joins Gk Rg

theorem cells_layout : Tryd.prog.cellsOf 34 = 2 := by kernel_rfl
theorem cells_change : Tryd.prog.cellsOf 36 = 6 := by kernel_rfl
theorem cells_ints : Tryd.prog.cellsOf 22 = 1 := by kernel_rfl

set_option maxRecDepth 100000 in
theorem open_layout {H : Type} {enc : TypeId × Value → H} {W : World} {fuel : Nat} {cs : List Value} {x : DataW H × List MemPlace} (h : DataW.trod enc Tryd.prog W 0 (fun _ => true) true fuel 34 cs = some x) :
    ∃ y : La, cs = [.int .i64 y.v, .slice y.a y.ws.length y.c] ∧ y.At W ∧ (-9223372036854775808 ≤ y.v ∧ y.v ≤ 9223372036854775807) := by
  obtain ⟨y0, y1, n, rfl, hl, h0, h1⟩ := trod_struct2 Tryd.underlying34 h
  rw [cells_layout] at hl
  match cs, hl with
  | [p, q], _ =>
    dsimp only at h0 h1
    rw [cells_int] at h0
    rw [cells_ints] at h1
    obtain ⟨v, e0, _, hv⟩ := DataW.trod_int Tryd.underlying3 h0
    obtain ⟨a, cap, ds, e1, hat⟩ := open_ints h1
    simp only [List.drop_zero, List.take_succ_cons, List.take_zero, List.cons.injEq, and_true] at e0
    simp only [List.drop_succ_cons, List.drop_zero, List.take_succ_cons, List.take_zero, List.cons.injEq, and_true] at e1
    subst e0 e1
    exact ⟨⟨v, a, cap, ds⟩, rfl, ⟨hat.lies, Nat.le_trans hat.room hat.max⟩, bounds_i64 hv⟩

set_option maxRecDepth 100000 in
theorem open_change {H : Type} {enc : TypeId × Value → H} {W : World} {fuel : Nat} {cs : List Value} {x : DataW H × List MemPlace} (h : DataW.trod enc Tryd.prog W 0 (fun _ => true) true fuel 36 cs = some x) :
    ∃ c : Ch, cs = c.cells.toList ∧ c.At W ∧ c.cur.size ≤ 9223372036854775807 := by
  obtain ⟨y0, y1, y2, y3, n, rfl, hl, h0, h1, h2, h3⟩ := trod_struct4 Tryd.underlying36 h
  rw [cells_change] at hl
  match cs, hl with
  | [p0, p1, p2, p3, p4, p5], _ =>
    dsimp only at h0 h1 h2 h3
    rw [cells_layout] at h0 h1
    rw [cells_string] at h2
    rw [cells_bool] at h3
    obtain ⟨l1, e1, hat1, _⟩ := open_layout h0
    obtain ⟨l2, e2, hat2, _⟩ := open_layout h1
    obtain ⟨s, e3, _, hs⟩ := DataW.trod_string Tryd.underlying9 h2
    obtain ⟨d, e4, _⟩ := DataW.trod_bool Tryd.underlying4 h3
    simp only [List.drop_succ_cons, List.drop_zero, List.take_succ_cons, List.take_zero, List.cons.injEq, and_true] at e1 e2 e3 e4
    obtain ⟨rfl, rfl⟩ := e1
    obtain ⟨rfl, rfl⟩ := e2
    subst e3 e4
    exact ⟨⟨l1, l2, s, d⟩, rfl, ⟨hat1, hat2⟩, hs⟩

theorem agg_eq {cs : Array Value} {c : Ch} (h : (Value.agg cs).cells.toList = c.cells.toList) : Value.agg cs = c.val := by
  have : cs.toList = c.cells.toList := h
  rw [show cs = c.cells from Array.toList_inj.1 this]

end Go.Proofs.YtcmdglmcmifflaaDoor.Ly
