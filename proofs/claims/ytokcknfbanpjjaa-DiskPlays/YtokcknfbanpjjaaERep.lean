/- Where the document's disk lies; walks over skylarkref02: ready, place. -/
import Derived.Test.YtokcknfbanpjjaaEPure
namespace Go.Proofs.Ytokcknfbanpjjaa.Dk
open Go.RowKit Go.Maps Go.Joins

abbrev RDsk : TypeId := 42
abbrev RFil : TypeId := 57
def rcell (p : Bs × Fil) : List Value := [.string (txt p.1), .string (txt p.2.data), .int .i64 p.2.safe]
def rcells (l : Fls) : List Value := l.flatMap rcell
theorem rcells_length (l : Fls) : (rcells l).length = l.length * 3 := by
  induction l with
  | nil => rfl
  | cons p r ih => simp only [rcells, List.flatMap_cons, List.length_append, List.length_cons] at *; rw [ih]; simp [rcell]; omega
theorem rcells_append (a b : Fls) : rcells (a ++ b) = rcells a ++ rcells b := by simp [rcells]
theorem rcells_at (l : Fls) (i : Nat) (h : i < l.length) : (rcells l)[i * 3]? = some (.string (txt l[i].1)) ∧ (rcells l)[i * 3 + 1]? = some (.string (txt l[i].2.data)) ∧ (rcells l)[i * 3 + 2]? = some (.int .i64 l[i].2.safe) := by
  induction l generalizing i with
  | nil => simp at h
  | cons p r ih =>
    cases i with
    | zero => simp [rcells, rcell]
    | succ i =>
      have h' : i < r.length := by simpa using h
      have := ih i h'
      have e : rcells (p :: r) = rcell p ++ rcells r := by simp [rcells]
      have e3 : (rcell p).length = 3 := rfl
      refine ⟨?_, ?_, ?_⟩
      · rw [e, List.getElem?_append_right (by omega), e3, show (i + 1) * 3 - 3 = i * 3 by omega]; exact this.1
      · rw [e, List.getElem?_append_right (by omega), e3, show (i + 1) * 3 + 1 - 3 = i * 3 + 1 by omega]; exact this.2.1
      · rw [e, List.getElem?_append_right (by omega), e3, show (i + 1) * 3 + 2 - 3 = i * 3 + 2 by omega]; exact this.2.2

structure RHeldL (w : World) (own : Nat → Prop) (br : Nat) (room : Nat) (l : Fls) (v : Value) (fused : Bool) (left : Int) (down : Bool) : Prop where
  block : w.heap[br]? = some (.cells #[.int .i64 room, v, .bool fused, .int .i64 left, .bool down] RDsk (0, 0))
  row : w.ownsRow 0 RFil 3 v l.length (rcells l)
  ownD : own br
  ownR : ∀ g, v.ownBlock = some g → own g
/-- the fuse as the document's answer keeps it -/
structure FuseIs (fuse : Int) (fused : Bool) (left : Int) : Prop where
  is : fuse = if fused = true then left else -1
  pos : fused = true → 0 ≤ left
  lo : -9223372036854775808 ≤ left
  hi : left ≤ 9223372036854775807
def RHeld (w : World) (own : Nat → Prop) (br : Nat) (S : St) : Prop := ∃ v fused left, RHeldL w own br S.room S.files v fused left S.down ∧ FuseIs S.fuse fused left ∧ S.Ok

section
variable {w w' : World} {own : Nat → Prop} {br room : Nat} {l : Fls} {v : Value} {fused : Bool} {left : Int} {down : Bool}
theorem RHeldL.rowLt (h : RHeldL w own br room l v fused left down) {g : Nat} (hg : v.ownBlock = some g) : g < w.heap.size := (h.row.lt g hg).2
theorem RHeldL.lt (h : RHeldL w own br room l v fused left down) : br < w.heap.size := (Array.getElem?_eq_some_iff.1 h.block).1
theorem RHeldL.rowNe (h : RHeldL w own br room l v fused left down) {g : Nat} (hg : v.ownBlock = some g) : g ≠ br := by
  intro e
  rcases h.row.2 with ⟨e1, _⟩ | ⟨g', _, cur, e1, _, hc, _⟩
  · rw [e1] at hg; simp [Value.ownBlock] at hg
  · rw [e1] at hg; simp only [Value.ownBlock, Option.some.injEq] at hg
    rw [hg, e, h.block] at hc; cases hc
theorem RHeldL.frame (h : RHeldL w own br room l v fused left down) (hs : ∀ k, k < w.heap.size → own k → w'.heap[k]? = w.heap[k]?) : RHeldL w' own br room l v fused left down :=
  ⟨(hs _ h.lt h.ownD).trans h.block, ownsRow_stay h.row fun g hg => hs g (h.rowLt hg) (h.ownR g hg), h.ownD, h.ownR⟩
theorem RHeldL.below (h : RHeldL w own br room l v fused left down) (hb : Below w.heap.size w w') : RHeldL w' own br room l v fused left down := h.frame fun k hk _ => hb.block k hk
theorem RHeldL.owns {own' : Nat → Prop} (h : RHeldL w own br room l v fused left down) (ho : ∀ b, b < w.heap.size → own b → own' b) : RHeldL w own' br room l v fused left down :=
  ⟨h.block, h.row, ho _ h.lt h.ownD, fun g hg => ho g (h.rowLt hg) (h.ownR g hg)⟩
theorem RHeldL.c0 (h : RHeldL w own br room l v fused left down) : w.cell? ⟨br, 0, none⟩ = some (.int .i64 room) := by rw [cell_of_block h.block]; rfl
theorem RHeldL.c1 (h : RHeldL w own br room l v fused left down) : w.cell? ⟨br, 1, none⟩ = some v := by rw [cell_of_block h.block]; rfl
theorem RHeldL.c2 (h : RHeldL w own br room l v fused left down) : w.cell? ⟨br, 2, none⟩ = some (.bool fused) := by rw [cell_of_block h.block]; rfl
theorem RHeldL.c3 (h : RHeldL w own br room l v fused left down) : w.cell? ⟨br, 3, none⟩ = some (.int .i64 left) := by rw [cell_of_block h.block]; rfl
theorem RHeldL.c4 (h : RHeldL w own br room l v fused left down) : w.cell? ⟨br, 4, none⟩ = some (.bool down) := by rw [cell_of_block h.block]; rfl
theorem RHeldL.fz (h : RHeldL w own br room l v fused left down) (i : Nat) : w.frozen? ⟨br, i, none⟩ = false := unfrozen_of_block h.block i
theorem RHeldL.set (h : RHeldL w own br room l v fused left down) {i : Nat} {u : Value} {fused' : Bool} {left' : Int} {down' : Bool}
    (e : (#[.int .i64 room, v, .bool fused, .int .i64 left, .bool down] : Array Value).setIfInBounds i u = #[.int .i64 room, v, .bool fused', .int .i64 left', .bool down']) : RHeldL (w.setCell ⟨br, i, none⟩ u) own br room l v fused' left' down' :=
  ⟨by rw [block_setCell h.block, e], ownsRow_stay h.row fun g hg => Below.heap_setCell w _ u g (h.rowNe hg), h.ownD, h.ownR⟩
theorem RHeldL.at (h : RHeldL w own br room l v fused left down) (i : Nat) (hi : i < l.length) : ∃ g cap, v = .slice (some ⟨g, 0, none⟩) l.length cap ∧ w.cell? ⟨g, i * 3, none⟩ = some (.string (txt l[i].1)) ∧ w.cell? ⟨g, i * 3 + 1, none⟩ = some (.string (txt l[i].2.data)) ∧ w.cell? ⟨g, i * 3 + 2, none⟩ = some (.int .i64 l[i].2.safe) := by
  obtain ⟨g, cap, rfl⟩ := ownsRow_form h.row (by omega)
  obtain ⟨e0, e1, e2⟩ := rcells_at l i hi
  exact ⟨g, cap, rfl, by rw [h.row.cellAt _ (by omega)]; exact e0, by rw [h.row.cellAt _ (by omega)]; exact e1, by rw [h.row.cellAt _ (by omega)]; exact e2⟩
end

set_option maxHeartbeats 800000 in
theorem ready_any {own : Nat → Prop} {br room : Nat} {l : Fls} {v : Value} {fused : Bool} {left fuse : Int} {down : Bool} (w : World) (h : RHeldL w own br room l v fused left down) (hf : FuseIs fuse fused left) :
    Calls Try.prog 37 #[.pointer (some ⟨br, 0, none⟩)] w fun e w' => ∃ left', e = .returned (.bool (taken fuse down).1) ∧ RHeldL w' own br room l v fused left' (taken fuse down).2.2 ∧ FuseIs (taken fuse down).2.1 fused left' ∧ w.grownBy w' (some br) := by
  have c2 := h.c2
  have c3 := h.c3
  have c4 := h.c4
  have z3 := h.fz 3
  have z4 := h.fz 4
  have hfi := hf.is
  have lo := hf.lo
  have hi := hf.hi
  cases down
  · cases fused
    · simp only [Bool.false_eq_true, if_false] at hfi
      subst hfi
      go_enter Try.func37, Try.ntmps37
      go_wp2
      go_ret
      exact ⟨left, by simp [taken], by simpa [taken] using h, by simpa [taken] using hf, grown_refl _ _⟩
    · simp only [if_true] at hfi
      have hp := hf.pos rfl
      subst hfi
      by_cases h0 : fuse = 0
      · subst h0
        go_enter Try.func37, Try.ntmps37
        go_wp2
        go_ret
        refine ⟨0, by simp [taken], ?_, by simpa [taken] using hf, grown_set w br _ _⟩
        simpa [taken] using h.set (i := 4) (u := .bool true) (fused' := true) (left' := 0) (down' := true) rfl
      · have b0 : (fuse == 0) = false := by rw [beq_eq_false_iff_ne]; exact h0
        have hn : ¬ fuse = -1 := by omega
        go_enter Try.func37, Try.ntmps37
        go_wp2
        go_ret
        refine ⟨fuse - 1, by simp [taken, h0], ?_, ?_, grown_set w br _ _⟩
        · simpa [taken, h0, hn] using h.set (i := 3) (u := .int .i64 (fuse - 1)) (fused' := true) (left' := fuse - 1) (down' := false) rfl
        · refine ⟨by simp [taken, h0, hn], fun _ => by omega, by omega, by omega⟩
  · go_enter Try.func37, Try.ntmps37
    go_wp2
    go_ret
    refine ⟨left, by simp [taken], ?_, by simpa [taken] using hf, grown_set w br _ _⟩
    simpa [taken] using h.set (i := 4) (u := .bool true) (fused' := fused) (left' := left) (down' := true) rfl

end Go.Proofs.Ytokcknfbanpjjaa.Dk
