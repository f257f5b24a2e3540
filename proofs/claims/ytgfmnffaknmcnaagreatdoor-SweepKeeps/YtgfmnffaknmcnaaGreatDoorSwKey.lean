/- Layer 12: maps whose keys are places. -/
import Derived.Test.YtgfmnffaknmcnaaGreatDoorSwPure
import Derived.Test.YtgfmnffaknmcnaaGreatDoorGMapK
import Derived.DeepKeys4
namespace Go.Proofs.YtgfmnffaknmcnaaGreatDoor.Sw
open Go.RowKit Go.Joins Go.Maps Gk

abbrev plT : TypeId := 42
abbrev plv (x : Pc) : Value := .agg #[.int .i64 x.1, .int .i64 x.2.1, .int .i64 x.2.2]
/-- numbers that an int holds -/
abbrev Fit3 (x : Pc) : Prop := I64 x.1 ∧ I64 x.2.1 ∧ I64 x.2.2
set_option maxRecDepth 100000 in
theorem laidOut : laidOutB Tryz.prog = true := by kernel_rfl
set_option maxRecDepth 100000 in
theorem pl_row : plT < Tryz.prog.types.size := of_decide_eq_true (by kernel_rfl)
set_option maxRecDepth 100000 in
theorem pl_wide : (match Tryz.prog.underlying plT with | some (.array _ _) | some (.struct _) => true | _ => false) = true := by rw [Tryz.underlying42]
set_option maxRecDepth 100000 in
theorem pl_keyed : Keyed Tryz.prog plT := Keyed.of_law (deep_law_laid laidOut (m := 2) (by omega) pl_row (by kernel_rfl) pl_wide)
def plLit (x : Pc) : Lit := .string (keyBytes [.int .i64 x.1, .int .i64 x.2.1, .int .i64 x.2.2])
set_option maxRecDepth 100000 in
theorem pl_type : Tryz.prog.keyType plT = true := by kernel_rfl
set_option maxRecDepth 100000 in
theorem pl_cells : Tryz.prog.cellsOf plT = 3 := by kernel_rfl
set_option maxRecDepth 100000 in
theorem int_cells : Tryz.prog.cellsOf 3 = 1 := by kernel_rfl
set_option maxRecDepth 100000 in
theorem types_size : ∃ d, Tryz.prog.types.size = d + 1 := by
  have h : (0 : Nat) < Tryz.prog.types.size := Nat.lt_of_le_of_lt (Nat.zero_le _) pl_row
  exact ⟨Tryz.prog.types.size - 1, by omega⟩
set_option maxRecDepth 100000 in
theorem lits_pl (d : Nat) (x : Pc) (h : Fit3 x) : Tryz.prog.keyLits (d + 1 + 1) plT [.int .i64 x.1, .int .i64 x.2.1, .int .i64 x.2.2] = some [.int .i64 x.1, .int .i64 x.2.1, .int .i64 x.2.2] := by
  simp [Program.keyLits, Tryz.underlying42, Tryz.underlying3, pl_cells, int_cells, wfI h.1, wfI h.2.1, wfI h.2.2]
set_option maxRecDepth 100000 in
theorem pl_key (x : Pc) (h : Fit3 x) : keyOf Tryz.prog plT (plv x) = some (plLit x) := by
  have hf : (plv x).formed Tryz.prog plT = true := by simp [Value.formed, Tryz.underlying42, pl_cells]
  unfold keyOf
  rw [Tryz.underlying42]
  simp only [pl_type, hf, Bool.and_self, if_true]
  obtain ⟨d, hd⟩ := types_size
  rw [hd]
  show Option.map _ (Tryz.prog.keyLits (d + 1 + 1) plT [.int .i64 x.1, .int .i64 x.2.1, .int .i64 x.2.2]) = _
  rw [lits_pl d x h]
  rfl
def plKs : KeySp Pc := ⟨plT, pl_keyed, plv, plLit, Fit3, pl_key, fun a b ha hb e => by
  have h1 := pl_key a ha
  rw [e] at h1
  have h2 := pl_keyed.inj h1 (pl_key b hb)
  simp only [Value.agg.injEq, Array.mk.injEq, List.cons.injEq, Value.int.injEq, true_and, and_true] at h2
  exact Prod.ext h2.1 (Prod.ext h2.2.1 h2.2.2)⟩

end Go.Proofs.YtgfmnffaknmcnaaGreatDoor.Sw
