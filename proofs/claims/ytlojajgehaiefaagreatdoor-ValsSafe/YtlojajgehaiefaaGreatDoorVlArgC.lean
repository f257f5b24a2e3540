/- What an argument that is a crash reads as. -/
import Derived.Test.YtlojajgehaiefaaGreatDoorGArgs
namespace Go.Proofs.YtlojajgehaiefaaGreatDoor.Vl
open Go.ChangeShapes Go.WideShapes Go.ChangeAt Go.RowKit Go.Deep Go.Joins Go.Proofs.YtlojajgehaiefaaGreatDoor.Gk

structure CrA where
  sy : Int
  a : Option Addr
  cap : Nat
  ds : List Int
structure CrAt (W : World) (x : CrA) : Prop extends IntsAt W x.a x.cap x.ds where
  sync : -9223372036854775808 ≤ x.sy ∧ x.sy ≤ 9223372036854775807
abbrev CrA.cs (x : CrA) : List Value := [.int .i64 x.sy, .slice x.a x.ds.length x.cap]
theorem cells_crash : Tryz.prog.cellsOf 57 = 2 := by kernel_rfl
theorem cells_intsC : Tryz.prog.cellsOf 41 = 1 := by kernel_rfl
set_option maxRecDepth 100000 in
theorem open_crash {H : Type} {enc : TypeId × Value → H} {W : World} {fuel : Nat} {cs : List Value} {x : DataW H × List MemPlace} (h : DataW.trod enc Tryz.prog W 0 (fun _ => true) true fuel 57 cs = some x) (_ : ∀ n ∈ x.1.weights Tryz.prog 57, n ≤ reachBytes) :
    ∃ y : CrA, cs = y.cs ∧ CrAt W y := by
  obtain ⟨y0, y1, n, rfl, hl, h0, h1⟩ := trod_struct2 Tryz.underlying57 h
  rw [cells_crash] at hl
  match cs, hl with
  | [p, v], _ =>
    simp [cells_int, cells_intsC] at h0 h1
    obtain ⟨k0, e0, _, hk0⟩ := DataW.trod_int Tryz.underlying3 h0
    obtain ⟨a, cap, ds, e1, hat⟩ := open_ints h1
    simp only [List.cons.injEq, and_true] at e0 e1
    subst e0 e1
    exact ⟨⟨k0, a, cap, ds⟩, rfl, ⟨hat, bounds_i64 hk0⟩⟩
theorem crash_eq {cs : Array Value} {x : CrA} (h : (Value.agg cs).cells.toList = x.cs) : Value.agg cs = .agg #[.int .i64 x.sy, .slice x.a x.ds.length x.cap] := by
  have : cs.toList = x.cs := h
  rw [show cs = x.cs.toArray from Array.toList_inj.1 (by rw [this])]

end Go.Proofs.YtlojajgehaiefaaGreatDoor.Vl
