/- Walks over disk.go: find, put. -/
import Derived.Test.YtokcknfbanpjjaaDCut
namespace Go.Proofs.Ytokcknfbanpjjaa.Dk
open Go.RowKit Go.Maps Go.Joins

abbrev noFile : Value := FV (.slice none 0 0) 0
/-- what the map has at a key -/
def fileAt (l : List (Bs × Ent)) (k : Bs) : Value := match getL k l with | some x => FV x.1 x.2.safe | none => noFile

theorem wpList_lookup_file {w : World} {ops : Array Oper} {rest : List Oper} {o : Oper} {a : Act} {Q : Exit → Act → World → Prop} (hg : o.guard = none) (m x : Operand) (hop : o.op = Op.lookup MapT m x true)
    (bm n : Nat) (l : List (Bs × Ent)) (hm : a.eval m = .map (some bm)) (hown : w.ownsMap Try.prog 9 RV bm n (DD l)) (s : ByteArray) (hs : s.size ≤ 140737488351232) (hx : a.eval x = .string s)
    (v : Value) (b : Bool) (hv : fileAt l s.data.toList = v) (hb : (getL s.data.toList l).isSome = b)
    (hK : wpList Try.prog ops Q rest (a.put o.dst (.tuple #[v, .bool b])) w) :
    wpList Try.prog ops Q (o :: rest) a w := by
  refine wpList_lookup_own_ok w hg m x MapT hop 9 61 keyed Try.underlying37 RV (zero_file w) (.held noFile) [] rfl bm n (DD l) hm hown (.string s) (.string s.data.toList) hx (key_str s hs) ?_
  intro v' ps hv'
  rw [DD_has, hb]
  have : v' = v := by
    rw [← hv]
    simp only [DD_at, Option.some.injEq, Prod.mk.injEq] at hv'
    unfold fileAt
    cases hgl : getL s.data.toList l with
    | none => rw [hgl] at hv'; exact DataW.held.inj hv'.1
    | some e => rw [hgl] at hv'; exact DataW.held.inj hv'.1
  rw [this]
  exact hK

theorem wpList_lookup_file1 {w : World} {ops : Array Oper} {rest : List Oper} {o : Oper} {a : Act} {Q : Exit → Act → World → Prop} (hg : o.guard = none) (m x : Operand) (hop : o.op = Op.lookup MapT m x false)
    (bm n : Nat) (l : List (Bs × Ent)) (hm : a.eval m = .map (some bm)) (hown : w.ownsMap Try.prog 9 RV bm n (DD l)) (s : ByteArray) (hs : s.size ≤ 140737488351232) (hx : a.eval x = .string s)
    (v : Value) (hv : fileAt l s.data.toList = v)
    (hK : wpList Try.prog ops Q rest (a.put o.dst v) w) :
    wpList Try.prog ops Q (o :: rest) a w := by
  refine wpList_plain hg fun K' hK' => ?_
  obtain ⟨v', ps, hrun, hv'⟩ := hown.lookup keyed Try.underlying37 (zero_file w) (R := RV) (zd := .held noFile) (zp := []) rfl (key_str s hs)
  unfold Oper.wp
  simp [execOp, hop, hm, hx, hrun, Result.andThen]
  refine hK' _ _ ?_
  have : v' = v := by
    rw [← hv]
    simp only [DD_at, Option.some.injEq, Prod.mk.injEq] at hv'
    unfold fileAt
    cases hgl : getL s.data.toList l with
    | none => rw [hgl] at hv'; exact DataW.held.inj hv'.1
    | some e => rw [hgl] at hv'; exact DataW.held.inj hv'.1
  rw [this]
  exact hK

theorem one_box {w : World} {x0 x1 : Value} {t : TypeId} : (w.alloc (.cells #[x0, x1] t)).heap[w.heap.size]? = some (.cells #[x0, x1] t (0, 0)) ∧ Below w.heap.size w (w.alloc (.cells #[x0, x1] t)) :=
  ⟨heap_alloc_new w _, below_alloc1 _ _⟩

/-- what find answers -/
def findV (l : List (Bs × Ent)) (k : Bs) : Value := if named k = true then (match getL k l with | some x => .tuple #[FV x.1 x.2.safe, .int .i64 0] | none => .tuple #[noFile, .int .i64 5]) else .tuple #[noFile, .int .i64 20]

set_option maxHeartbeats 800000 in
theorem find_any {own : Nat → Prop} {bd bm room : Nat} {l : List (Bs × Ent)} {fuse : Int} {down : Bool} (w : World) (h : HeldL w own bd bm room l fuse down) (s : ByteArray) (hs : s.size ≤ 140737488351232) :
    Calls Try.prog 39 #[.pointer (some ⟨bd, 0, none⟩), .string s] w fun e w' => e = .returned (findV l s.data.toList) ∧ Below w.heap.size w w' := by
  have hN := fun W => name_any s W hs
  have hbox := one_box (w := w) (x0 := .slice none 0 0) (x1 := .int .i64 0) (t := 61)
  cases hnm : named s.data.toList
  · rw [hnm] at hN
    have hfv : findV l s.data.toList = .tuple #[noFile, .int .i64 20] := by simp [findV, hnm]
    rw [hfv]
    clear hfv hnm
    go_enter Try.func39, Try.ntmps39
    go_wp2_with fail
    refine (hN _).mono ?_
    rintro e w1 ⟨rfl, hb1⟩
    have hA1 := (hb1.block _ (by simp)).trans hbox.1
    have hb1' := hbox.2.trans (hb1.mono (by simp))
    have e0 : w1.cell? ⟨w.heap.size, 0, none⟩ = some (.slice none 0 0) := cell_of_block hA1 0
    have e1 : w1.cell? ⟨w.heap.size, 1, none⟩ = some (.int .i64 0) := cell_of_block hA1 1
    have z0 := unfrozen_of_block hA1 0
    have z1 := unfrozen_of_block hA1 1
    clear hA1 hb1 hbox hN
    go_wp2
    exact bodyPost_ret (v := .tuple #[noFile, .int .i64 20]) (by simp [results, Try.results39, go_sem, e0, e1]) rfl ⟨rfl, (hb1'.setCell (by simp) _).setCell (by simp) _⟩
  · rw [hnm] at hN
    have h0 := h.below hbox.2
    have key : ∀ w1, Below (w.alloc (.cells #[.slice none 0 0, .int .i64 0] 61)).heap.size (w.alloc (.cells #[.slice none 0 0, .int .i64 0] 61)) w1 → HeldL w1 own bd bm room l fuse down := fun w1 hb => h0.below hb
    have hsl := h.rows.slices
    clear h h0
    cases hgl : getL s.data.toList l with
    | none =>
      have hfv : findV l s.data.toList = .tuple #[noFile, .int .i64 5] := by simp [findV, hnm, hgl]
      have hfa : fileAt l s.data.toList = noFile := by simp [fileAt, hgl]
      have hsm : (getL s.data.toList l).isSome = false := by rw [hgl]; rfl
      rw [hfv]
      clear hfv hnm hgl
      go_enter Try.func39, Try.ntmps39
      go_wp2_with fail
      refine (hN _).mono ?_
      rintro e w1 ⟨rfl, hb1⟩
      have hA1 := (hb1.block _ (by simp)).trans hbox.1
      have hb1' := hbox.2.trans (hb1.mono (by simp))
      have hz1 := hb1.size
      simp at hz1
      have h1 := key w1 hb1
      have e0 : w1.cell? ⟨w.heap.size, 0, none⟩ = some (.slice none 0 0) := cell_of_block hA1 0
      have e1 : w1.cell? ⟨w.heap.size, 1, none⟩ = some (.int .i64 0) := cell_of_block hA1 1
      have z0 := unfrozen_of_block hA1 0
      have z1 := unfrozen_of_block hA1 1
      have c1 := h1.base.c1
      have hown := h1.base.map
      have hlt : w.heap.size < w1.heap.size := by omega
      clear hA1 hb1 hbox hN h1 key
      go_wp2_with (first | (at_lookup; refine wpList_lookup_file rfl _ _ rfl bm l.length l rfl hown s hs rfl noFile false hfa hsm ?_) | go_in)
      exact bodyPost_ret (v := .tuple #[noFile, .int .i64 5]) (by simp [results, Try.results39, go_sem, e0, e1, hlt]) rfl ⟨rfl, ((hb1'.setCell (by simp) _).setCell (by simp) _).alloc (by simp; omega) _⟩
    | some x =>
      obtain ⟨v, f⟩ := x
      obtain ⟨ad, cap, rfl⟩ : ∃ ad cap, v = .slice ad f.data.length cap := hsl _ (getL_some hgl)
      have hfv : findV l s.data.toList = .tuple #[FV (.slice ad f.data.length cap) f.safe, .int .i64 0] := by simp [findV, hnm, hgl]
      have hfa : fileAt l s.data.toList = FV (.slice ad f.data.length cap) f.safe := by simp [fileAt, hgl]
      have hsm : (getL s.data.toList l).isSome = true := by rw [hgl]; rfl
      rw [hfv]
      clear hfv hnm hgl
      go_enter Try.func39, Try.ntmps39
      go_wp2_with fail
      refine (hN _).mono ?_
      rintro e w1 ⟨rfl, hb1⟩
      have hA1 := (hb1.block _ (by simp)).trans hbox.1
      have hb1' := hbox.2.trans (hb1.mono (by simp))
      have hz1 := hb1.size
      simp at hz1
      have h1 := key w1 hb1
      have e0 : w1.cell? ⟨w.heap.size, 0, none⟩ = some (.slice none 0 0) := cell_of_block hA1 0
      have e1 : w1.cell? ⟨w.heap.size, 1, none⟩ = some (.int .i64 0) := cell_of_block hA1 1
      have z0 := unfrozen_of_block hA1 0
      have z1 := unfrozen_of_block hA1 1
      have c1 := h1.base.c1
      have hown := h1.base.map
      have hlt : w.heap.size < w1.heap.size := by omega
      clear hA1 hb1 hbox hN h1 key
      go_wp2_with (first | (at_lookup; refine wpList_lookup_file rfl _ _ rfl bm l.length l rfl hown s hs rfl (FV (.slice ad f.data.length cap) f.safe) true hfa hsm ?_) | go_in)
      exact bodyPost_ret (v := .tuple #[FV (.slice ad f.data.length cap) f.safe, .int .i64 0]) (by simp [results, Try.results39, go_sem, e0, e1, hlt]) rfl ⟨rfl, ((hb1'.setCell (by simp) _).setCell (by simp) _).alloc (by simp; omega) _⟩

end Go.Proofs.Ytokcknfbanpjjaa.Dk
