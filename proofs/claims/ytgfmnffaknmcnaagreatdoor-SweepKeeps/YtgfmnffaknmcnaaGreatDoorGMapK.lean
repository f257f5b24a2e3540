/- Maps of any keys, as functions of what the keys are: made, looked into, put, dropped. -/
import Derived.Test.YtgfmnffaknmcnaaGreatDoorGCore
import Derived.Maps.OwnSet
import Derived.Maps.Views
namespace Go.Proofs.YtgfmnffaknmcnaaGreatDoor.Gk
open Go.RowKit Go.Joins Go.Maps

abbrev RL : Value → Option (DataW Value × List MemPlace) := fun v => some (.held v, [])
set_option maxRecDepth 100000 in
theorem wfI {x : Int} (h : -9223372036854775808 ≤ x ∧ x ≤ 9223372036854775807) : (Lit.int .i64 x).wf = true := by
  have e1 : IntKind.i64.min = -9223372036854775808 := by decide
  have e2 : IntKind.i64.max = 9223372036854775807 := by decide
  simp only [Lit.wf, e1, e2, Bool.and_eq_true, decide_eq_true_eq]; exact h
/-- keys of one type: how they lie, what they read as -/
structure KeySp (κ : Type) where
  kt : TypeId
  keyed : Keyed Tryz.prog kt
  val : κ → Value
  lit : κ → Lit
  ok : κ → Prop
  key : ∀ k, ok k → keyOf Tryz.prog kt (val k) = some (lit k)
  inj : ∀ a b, ok a → ok b → lit a = lit b → a = b
section
variable {κ : Type}
/-- a map is a function of its keys -/
def MapF (s : KeySp κ) (w : World) (b n : Nat) (f : κ → Option Value) : Prop := ∃ D : DataW Value, w.ownsMap Tryz.prog s.kt RL b n D ∧ (∀ x, s.ok x → has D (s.lit x) = (f x).isSome) ∧ ∀ x z, s.ok x → D.atKey (s.lit x) (.held z) = .held ((f x).getD z)
def updF [DecidableEq κ] (f : κ → Option Value) (x : κ) (v : Value) : κ → Option Value := fun y => if y = x then some v else f y
def delF [DecidableEq κ] (f : κ → Option Value) (x : κ) : κ → Option Value := fun y => if y = x then none else f y
theorem updF_same [DecidableEq κ] (f : κ → Option Value) (x : κ) (v : Value) : updF f x v x = some v := by simp [updF]
theorem updF_other [DecidableEq κ] (f : κ → Option Value) {x y : κ} (v : Value) (h : y ≠ x) : updF f x v y = f y := by simp [updF, h]
theorem delF_same [DecidableEq κ] (f : κ → Option Value) (x : κ) : delF f x x = none := by simp [delF]
theorem delF_other [DecidableEq κ] (f : κ → Option Value) {x y : κ} (h : y ≠ x) : delF f x y = f y := by simp [delF, h]
variable {s : KeySp κ} {w w' : World} {b n : Nat} {f : κ → Option Value}
set_option maxRecDepth 100000 in
theorem MapF.obj (h : MapF s w b n f) : ∃ es c, w.heap[b]? = some (.map es c) := by
  obtain ⟨D, ⟨es, c, hb, _⟩, _⟩ := h; exact ⟨es, c, hb⟩
set_option maxRecDepth 100000 in
theorem MapF.lt (h : MapF s w b n f) : b < w.heap.size := by
  obtain ⟨es, c, hb⟩ := h.obj; exact (Array.getElem?_eq_some_iff.1 hb).1
set_option maxRecDepth 100000 in
theorem MapF.stay (h : MapF s w b n f) (e : w'.heap[b]? = w.heap[b]?) : MapF s w' b n f := by
  obtain ⟨D, ⟨es, c, hb, rest⟩, h2⟩ := h; exact ⟨D, ⟨es, c, e.trans hb, rest⟩, h2⟩
set_option maxRecDepth 100000 in
theorem MapF.below (h : MapF s w b n f) (hb : Below w.heap.size w w') : MapF s w' b n f := h.stay (hb.block b h.lt)
set_option maxRecDepth 100000 in
theorem MapF.mono (h : MapF s w b n f) {m : Nat} (hm : n ≤ m) : MapF s w b m f := by
  obtain ⟨D, ho, rest⟩ := h; exact ⟨D, ho.mono hm, rest⟩
set_option maxRecDepth 100000 in
theorem MapF.made (s : KeySp κ) (w : World) : MapF s (w.alloc (.map #[] 0)) w.heap.size 0 (fun _ => none) :=
  ⟨.map [], World.ownsMap_made w Tryz.prog s.kt RL, fun _ _ => rfl, fun _ _ _ => rfl⟩
set_option maxRecDepth 100000 in
/-- a block of cells is no map -/
theorem MapF.ne (h : MapF s w b n f) {c : Nat} {cs : Array Value} {t : TypeId} {fr : Nat × Nat} (hc : w.heap[c]? = some (.cells cs t fr)) : c ≠ b := by
  rintro rfl
  obtain ⟨es, cl, hb⟩ := h.obj
  rw [hb] at hc; cases hc
set_option maxRecDepth 100000 in
theorem MapF.look (h : MapF s w b n f) {t e : TypeId} (ht : Tryz.prog.underlying t = some (.map s.kt e)) {z : Value} (hz : (zeroValue e).run Tryz.prog w = .ok z w) {x : κ} (hx : s.ok x) :
    (Instr.lookup t (.map (some b)) (s.val x) false).run Tryz.prog w = .ok ((f x).getD z) w := by
  obtain ⟨D, ho, h1, h2⟩ := h
  obtain ⟨v, ps, hrun, hv⟩ := ho.lookup s.keyed ht hz (R := RL) (zd := .held z) (zp := []) rfl (s.key x hx)
  rw [hrun]
  simp only [h2 x z hx, Option.some.injEq, Prod.mk.injEq] at hv
  rw [DataW.held.inj hv.1]
set_option maxRecDepth 100000 in
theorem MapF.look_ok (h : MapF s w b n f) {t e : TypeId} (ht : Tryz.prog.underlying t = some (.map s.kt e)) {z : Value} (hz : (zeroValue e).run Tryz.prog w = .ok z w) {x : κ} (hx : s.ok x) :
    (Instr.lookup t (.map (some b)) (s.val x) true).run Tryz.prog w = .ok (.tuple #[(f x).getD z, .bool (f x).isSome]) w := by
  obtain ⟨D, ho, h1, h2⟩ := h
  obtain ⟨v, ps, hrun, hv⟩ := ho.look_ok s.keyed ht hz (R := RL) (zd := .held z) (zp := []) rfl (s.key x hx)
  rw [hrun, h1 x hx]
  simp only [h2 x z hx, Option.some.injEq, Prod.mk.injEq] at hv
  rw [DataW.held.inj hv.1]
set_option maxRecDepth 100000 in
theorem MapF.put [DecidableEq κ] (h : MapF s w b n f) {t e : TypeId} (ht : Tryz.prog.underlying t = some (.map s.kt e)) (hn : n < 1000000) {x : κ} (hx : s.ok x) (v : Value) :
    ∃ w', (Instr.mapUpdate t (.map (some b)) (s.val x) v).run Tryz.prog w = .ok () w' ∧ MapF s w' b (n + 1) (updF f x v) ∧ w.grownBy w' (some b) := by
  obtain ⟨D, ho, h1, h2⟩ := h
  have hk := s.key x hx
  obtain ⟨w', hrun, ho', hg⟩ := ho.update s.keyed ht (by unfold maxLen; omega) (val := v) (d := .held v) (ps := []) hk rfl
  have hkl := s.keyed.key hk
  refine ⟨w', hrun, ⟨_, ho', fun y hy => ?_, fun y z hy => ?_⟩, hg⟩
  · by_cases e : y = x
    · subst e; rw [has_put_same ho.isMap hkl, updF_same]; rfl
    · rw [has_put_other fun e' => e (s.inj y x hy hx e'), h1 y hy, updF_other f v e]
  · by_cases e : y = x
    · subst e; rw [atKey_put_same ho.isMap hkl, updF_same]; rfl
    · rw [atKey_put_other fun e' => e (s.inj y x hy hx e'), h2 y z hy, updF_other f v e]
set_option maxRecDepth 100000 in
theorem MapF.drop [DecidableEq κ] (h : MapF s w b n f) {t e : TypeId} (ht : Tryz.prog.underlying t = some (.map s.kt e)) {x : κ} (hx : s.ok x) (ty : TypeId) :
    ∃ w', (Builtin.delete_ #[t, s.kt] ty #[.map (some b), s.val x]).run Tryz.prog w = .ok (.tuple #[]) w' ∧ MapF s w' b n (delF f x) ∧ w.grownBy w' (some b) := by
  obtain ⟨D, ho, h1, h2⟩ := h
  obtain ⟨w', hrun, ho', hg⟩ := ho.drop s.keyed ht (s.key x hx) ty
  refine ⟨w', hrun, ⟨_, ho', fun y hy => ?_, fun y z hy => ?_⟩, hg.grown⟩
  · by_cases e : y = x
    · subst e; rw [has_del_same, delF_same]; rfl
    · rw [has_del_other fun e' => e (s.inj y x hy hx e'), h1 y hy, delF_other f e]
  · by_cases e : y = x
    · subst e; rw [atKey_del_same, delF_same]; rfl
    · rw [atKey_del_other fun e' => e (s.inj y x hy hx e'), h2 y z hy, delF_other f e]
end
/-- a number that an int holds -/
abbrev I64 (x : Int) : Prop := -9223372036854775808 ≤ x ∧ x ≤ 9223372036854775807
/-- int keys -/
def intKs : KeySp Int := ⟨3, int_keyed Tryz.underlying3, fun x => .int .i64 x, fun x => .int .i64 x, I64, fun _ h => keyOf_int_mk Tryz.underlying3 (wfI h), fun _ _ _ _ e => (Lit.int.inj e).2⟩

end Go.Proofs.YtgfmnffaknmcnaaGreatDoor.Gk
