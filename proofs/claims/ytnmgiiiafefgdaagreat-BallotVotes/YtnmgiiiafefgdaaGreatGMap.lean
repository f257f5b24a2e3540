/- Maps of int keys as functions: what a key has, put. -/
import Derived.Test.YtnmgiiiafefgdaaGreatGBase
import Derived.Maps.Views
namespace Go.Proofs.YtnmgiiiafefgdaaGreat.Gk
open Go.RowKit Go.Joins Go.Maps

abbrev RV : Value → Option (DataW Value × List MemPlace) := fun v => some (.held v, [])
theorem keyedI : Keyed Tryz.prog 3 := int_keyed Tryz.underlying3
theorem wf_i64 {x : Int} (h : -9223372036854775808 ≤ x ∧ x ≤ 9223372036854775807) : (Lit.int .i64 x).wf = true := by
  have e1 : IntKind.i64.min = -9223372036854775808 := by decide
  have e2 : IntKind.i64.max = 9223372036854775807 := by decide
  simp only [Lit.wf, e1, e2, Bool.and_eq_true, decide_eq_true_eq]; exact h
/-- a map is a function -/
def MapIs (w : World) (b n : Nat) (f : Int → Option Value) : Prop := ∃ D : DataW Value, w.ownsMap Tryz.prog 3 RV b n D ∧ (∀ x, has D (.int .i64 x) = (f x).isSome) ∧ ∀ x z, D.atKey (.int .i64 x) (.held z) = .held ((f x).getD z)
def upd (f : Int → Option Value) (x : Int) (v : Value) : Int → Option Value := fun y => if y = x then some v else f y
theorem upd_same (f : Int → Option Value) (x : Int) (v : Value) : upd f x v x = some v := by simp [upd]
theorem upd_other (f : Int → Option Value) {x y : Int} (v : Value) (h : y ≠ x) : upd f x v y = f y := by simp [upd, h]
theorem MapIs.obj {w : World} {b n : Nat} {f : Int → Option Value} (h : MapIs w b n f) : ∃ es c, w.heap[b]? = some (.map es c) := by
  obtain ⟨D, ⟨es, c, hb, _⟩, _⟩ := h; exact ⟨es, c, hb⟩
theorem MapIs.lt {w : World} {b n : Nat} {f : Int → Option Value} (h : MapIs w b n f) : b < w.heap.size := by
  obtain ⟨es, c, hb⟩ := h.obj; exact (Array.getElem?_eq_some_iff.1 hb).1
theorem MapIs.stay {w w' : World} {b n : Nat} {f : Int → Option Value} (h : MapIs w b n f) (e : w'.heap[b]? = w.heap[b]?) : MapIs w' b n f := by
  obtain ⟨D, ⟨es, c, hb, rest⟩, h2⟩ := h; exact ⟨D, ⟨es, c, e.trans hb, rest⟩, h2⟩
theorem MapIs.below {w w' : World} {b n : Nat} {f : Int → Option Value} (h : MapIs w b n f) (hb : Below w.heap.size w w') : MapIs w' b n f := h.stay (hb.block b h.lt)
theorem MapIs.made (w : World) : MapIs (w.alloc (.map #[] 0)) w.heap.size 0 (fun _ => none) :=
  ⟨.map [], World.ownsMap_made w Tryz.prog 3 RV, fun _ => rfl, fun _ _ => rfl⟩
theorem MapIs.look {w : World} {b n : Nat} {f : Int → Option Value} (h : MapIs w b n f) {t e : TypeId} (ht : Tryz.prog.underlying t = some (.map 3 e)) {z : Value} (hz : (zeroValue e).run Tryz.prog w = .ok z w) {x : Int} (hx : -9223372036854775808 ≤ x ∧ x ≤ 9223372036854775807) :
    (Instr.lookup t (.map (some b)) (.int .i64 x) false).run Tryz.prog w = .ok ((f x).getD z) w := by
  obtain ⟨D, ho, h1, h2⟩ := h
  obtain ⟨v, ps, hrun, hv⟩ := ho.lookup keyedI ht hz (R := RV) (zd := .held z) (zp := []) rfl (keyOf_int_mk Tryz.underlying3 (wf_i64 hx))
  rw [hrun]
  simp only [h2, Option.some.injEq, Prod.mk.injEq] at hv
  rw [DataW.held.inj hv.1]
theorem MapIs.look_ok {w : World} {b n : Nat} {f : Int → Option Value} (h : MapIs w b n f) {t e : TypeId} (ht : Tryz.prog.underlying t = some (.map 3 e)) {z : Value} (hz : (zeroValue e).run Tryz.prog w = .ok z w) {x : Int} (hx : -9223372036854775808 ≤ x ∧ x ≤ 9223372036854775807) :
    (Instr.lookup t (.map (some b)) (.int .i64 x) true).run Tryz.prog w = .ok (.tuple #[(f x).getD z, .bool (f x).isSome]) w := by
  obtain ⟨D, ho, h1, h2⟩ := h
  obtain ⟨v, ps, hrun, hv⟩ := ho.look_ok keyedI ht hz (R := RV) (zd := .held z) (zp := []) rfl (keyOf_int_mk Tryz.underlying3 (wf_i64 hx))
  rw [hrun, h1]
  simp only [h2, Option.some.injEq, Prod.mk.injEq] at hv
  rw [DataW.held.inj hv.1]
theorem MapIs.put {w : World} {b n : Nat} {f : Int → Option Value} (h : MapIs w b n f) {t e : TypeId} (ht : Tryz.prog.underlying t = some (.map 3 e)) (hn : n < 1000000) {x : Int} (hx : -9223372036854775808 ≤ x ∧ x ≤ 9223372036854775807) (v : Value) :
    ∃ w', (Instr.mapUpdate t (.map (some b)) (.int .i64 x) v).run Tryz.prog w = .ok () w' ∧ MapIs w' b (n + 1) (upd f x v) ∧ w.grownBy w' (some b) := by
  obtain ⟨D, ho, h1, h2⟩ := h
  have hk := keyOf_int_mk Tryz.underlying3 (wf_i64 hx)
  obtain ⟨w', hrun, ho', hg⟩ := ho.update keyedI ht (by unfold maxLen; omega) (val := v) (d := .held v) (ps := []) hk rfl
  have hkl : WideAt.IsKeyLit (.int .i64 x) := by simp [WideAt.IsKeyLit]
  refine ⟨w', hrun, ⟨_, ho', fun y => ?_, fun y z => ?_⟩, hg⟩
  · by_cases e : y = x
    · subst e; rw [has_put_same ho.isMap hkl, upd_same]; rfl
    · rw [has_put_other (by simpa using e), h1, upd_other f v e]
  · by_cases e : y = x
    · subst e; rw [atKey_put_same ho.isMap hkl, upd_same]; rfl
    · rw [atKey_put_other (by simpa using e), h2, upd_other f v e]

end Go.Proofs.YtnmgiiiafefgdaaGreat.Gk
