/- Layer 8: the reader of fields: an operation is read. -/
import Derived.Test.YtkjcfkninmmbhaaOpRn
namespace Go.Proofs.Ytkjcfkninmmbhaa.Oq
open Go.RowKit Go.Joins Go.Proofs.Ytkjcfkninmmbhaa.Gk

def Rd.op1 (S : Rd) : Rd := S.num.2.txt.2
def Rd.op2 (S : Rd) : Rd := S.op1.txt.2
def Rd.op3 (S : Rd) : Rd := S.op2.num.2
def Rd.op4 (S : Rd) : Rd := S.op3.num.2
def Rd.opn (S : Rd) : Opn × Rd := (⟨S.num.1, S.num.2.txt.1, S.op1.txt.1, S.op2.num.1, S.op3.num.1, S.op4.num.1⟩, S.op4.num.2)

theorem RdH.drew {w : World} {br : Nat} {S : Rd} (h : RdH w br S) : RdH w.drew br S := h.below ((Below.refl _ _).drew)
abbrev zOp : Obj := .cells #[.int .i64 0, .string ⟨#[]⟩, .string ⟨#[]⟩, .int .i64 0, .int .i64 0, .int .i64 0] 29
/-- six cells, written one behind the other -/
theorem set6 {W : World} {R t : Nat} {x0 x1 x2 x3 x4 x5 : Value} (a b c d e f : Value) (h : W.heap[R]? = some (.cells #[x0, x1, x2, x3, x4, x5] t (0, 0))) :
    ((((((W.setCell ⟨R, 0, none⟩ a).setCell ⟨R, 1, none⟩ b).setCell ⟨R, 2, none⟩ c).setCell ⟨R, 3, none⟩ d).setCell ⟨R, 4, none⟩ e).setCell ⟨R, 5, none⟩ f).heap[R]? = some (.cells #[a, b, c, d, e, f] t (0, 0)) := by
  have e0 : (W.setCell ⟨R, 0, none⟩ a).heap[R]? = some (.cells #[a, x1, x2, x3, x4, x5] t (0, 0)) := by rw [block_setCell h]; rfl
  have e1 : ((W.setCell ⟨R, 0, none⟩ a).setCell ⟨R, 1, none⟩ b).heap[R]? = some (.cells #[a, b, x2, x3, x4, x5] t (0, 0)) := by rw [block_setCell e0]; rfl
  have e2 : (((W.setCell ⟨R, 0, none⟩ a).setCell ⟨R, 1, none⟩ b).setCell ⟨R, 2, none⟩ c).heap[R]? = some (.cells #[a, b, c, x3, x4, x5] t (0, 0)) := by rw [block_setCell e1]; rfl
  have e3 : ((((W.setCell ⟨R, 0, none⟩ a).setCell ⟨R, 1, none⟩ b).setCell ⟨R, 2, none⟩ c).setCell ⟨R, 3, none⟩ d).heap[R]? = some (.cells #[a, b, c, d, x4, x5] t (0, 0)) := by rw [block_setCell e2]; rfl
  have e4 : (((((W.setCell ⟨R, 0, none⟩ a).setCell ⟨R, 1, none⟩ b).setCell ⟨R, 2, none⟩ c).setCell ⟨R, 3, none⟩ d).setCell ⟨R, 4, none⟩ e).heap[R]? = some (.cells #[a, b, c, d, e, x5] t (0, 0)) := by rw [block_setCell e3]; rfl
  rw [block_setCell e4]; rfl
/-- what a cell holds -/
def cv (W : World) (R j : Nat) : Value := (W.cell? ⟨R, j, none⟩).getD undef
theorem cv_of {W : World} {R j : Nat} {x : Value} (h : W.cell? ⟨R, j, none⟩ = some x) : W.cell? ⟨R, j, none⟩ = some (cv W R j) := by rw [cv, h]; rfl
/-- the reader's box, and the operation's -/
abbrev OX (w : World) (H br : Nat) (W : World) : Prop :=
  (W.cell? ⟨H, 0, none⟩ = some (.pointer (some ⟨br, 0, none⟩)) ∧ W.cell? ⟨H + 1, 0, none⟩ = some (cv W (H + 1) 0) ∧ W.cell? ⟨H + 1, 1, none⟩ = some (cv W (H + 1) 1) ∧ W.cell? ⟨H + 1, 2, none⟩ = some (cv W (H + 1) 2) ∧ W.cell? ⟨H + 1, 3, none⟩ = some (cv W (H + 1) 3) ∧ W.cell? ⟨H + 1, 4, none⟩ = some (cv W (H + 1) 4) ∧ W.cell? ⟨H + 1, 5, none⟩ = some (cv W (H + 1) 5) ∧
    W.frozen? ⟨H + 1, 0, none⟩ = false ∧ W.frozen? ⟨H + 1, 1, none⟩ = false ∧ W.frozen? ⟨H + 1, 2, none⟩ = false ∧ W.frozen? ⟨H + 1, 3, none⟩ = false ∧ W.frozen? ⟨H + 1, 4, none⟩ = false ∧ W.frozen? ⟨H + 1, 5, none⟩ = false) ∧
  Hid (br < H ∧ W.heap[H]? = some (.cells #[.pointer (some ⟨br, 0, none⟩)] 60 (0, 0)) ∧ (∃ x0 x1 x2 x3 x4 x5, W.heap[H + 1]? = some (.cells #[x0, x1, x2, x3, x4, x5] 29 (0, 0))) ∧ One br w W ∧ w.heap.size ≤ H)
theorem OX.mk {w W : World} {H br : Nat} {x0 x1 x2 x3 x4 x5 : Value} (h0 : br < H) (h1 : W.heap[H]? = some (.cells #[.pointer (some ⟨br, 0, none⟩)] 60 (0, 0))) (h2 : W.heap[H + 1]? = some (.cells #[x0, x1, x2, x3, x4, x5] 29 (0, 0))) (h3 : One br w W) (h4 : w.heap.size ≤ H) : OX w H br W :=
  ⟨⟨by rw [cell_of_block h1]; rfl, cv_of (x := x0) (by rw [cell_of_block h2]; rfl), cv_of (x := x1) (by rw [cell_of_block h2]; rfl), cv_of (x := x2) (by rw [cell_of_block h2]; rfl), cv_of (x := x3) (by rw [cell_of_block h2]; rfl), cv_of (x := x4) (by rw [cell_of_block h2]; rfl), cv_of (x := x5) (by rw [cell_of_block h2]; rfl), unfrozen_of_block h2 0, unfrozen_of_block h2 1, unfrozen_of_block h2 2, unfrozen_of_block h2 3, unfrozen_of_block h2 4, unfrozen_of_block h2 5⟩, h0, h1, ⟨_, _, _, _, _, _, h2⟩, h3, h4⟩
theorem OX.drew {w W : World} {H br : Nat} (h : OX w H br W) : OX w H br W.drew := by
  obtain ⟨h0, h1, ⟨x0, x1, x2, x3, x4, x5, h2⟩, h3, h4⟩ := h.2.out
  exact OX.mk h0 h1 h2 (h3.trans (One.of_below ((Below.refl _ _).drew))) h4
theorem OX.one {w W W' : World} {H br : Nat} (hO : One br W W') (h : OX w H br W) : OX w H br W' := by
  obtain ⟨h0, h1, ⟨x0, x1, x2, x3, x4, x5, h2⟩, h3, h4⟩ := h.2.out
  exact OX.mk h0 ((hO.block H (Array.getElem?_eq_some_iff.1 h1).1 (by omega)).trans h1) ((hO.block (H + 1) (Array.getElem?_eq_some_iff.1 h2).1 (by omega)).trans h2) (h3.trans hO) h4
theorem OX.set {w W : World} {H br : Nat} {a b c d e f : Value} (h : OX w H br W) : OX w H br ((((((W.setCell ⟨H + 1, 0, none⟩ a).setCell ⟨H + 1, 1, none⟩ b).setCell ⟨H + 1, 2, none⟩ c).setCell ⟨H + 1, 3, none⟩ d).setCell ⟨H + 1, 4, none⟩ e).setCell ⟨H + 1, 5, none⟩ f) := by
  obtain ⟨h0, h1, ⟨x0, x1, x2, x3, x4, x5, h2⟩, h3, h4⟩ := h.2.out
  have hs : ∀ (V : World) i v, (V.setCell ⟨H + 1, i, none⟩ v).heap[H]? = V.heap[H]? := fun V i v => Below.heap_setCell V _ _ H (by show H ≠ H + 1; omega)
  refine OX.mk h0 ?_ (set6 a b c d e f h2) ?_ h4
  · rw [hs, hs, hs, hs, hs, hs]; exact h1
  · exact One.setNew (One.setNew (One.setNew (One.setNew (One.setNew (One.setNew h3 _ 0 (by omega) _) _ 1 (by omega) _) _ 2 (by omega) _) _ 3 (by omega) _) _ 4 (by omega) _) _ 5 (by omega) _

set_option maxRecDepth 100000 in
set_option maxHeartbeats 4000000 in
theorem operation_rd (S : Rd) (br : Nat) (w : World) (h : RdH w br S) :
    Calls Try.prog 66 #[.agg #[.pointer (some ⟨br, 0, none⟩)]] w fun e w' => e = .returned S.opn.1.v ∧ RdH w' br S.opn.2 ∧ One br w w' := by
  have hlt := h.lt
  obtain ⟨W, hW⟩ : ∃ W, W = (w.alloc (.cells #[.pointer (some ⟨br, 0, none⟩)] 60)).alloc zOp := ⟨_, rfl⟩
  have hbW : Below w.heap.size w W := by rw [hW]; exact below2 _ _ _
  have hX : OX w w.heap.size br W := by
    refine OX.mk hlt ?_ (x0 := .int .i64 0) (x1 := .string ⟨#[]⟩) (x2 := .string ⟨#[]⟩) (x3 := .int .i64 0) (x4 := .int .i64 0) (x5 := .int .i64 0) ?_ (One.of_below hbW) (Nat.le_refl _)
    · rw [hW]; exact ((below1 _ _).block _ (by simp)).trans (heap_alloc_new _ _)
    · rw [hW]; have := heap_alloc_new (w.alloc (.cells #[.pointer (some ⟨br, 0, none⟩)] 60)) zOp; simpa using this
  have hR := h.below hbW
  go_enter Try.func66, Try.ntmps66
  go_wp2_with fail
  rw [← hW]
  clear hW hbW h
  go_region_held3 (OX w w.heap.size br) (first | with_reducible exact OX.drew (by assumption) | with_reducible exact OX.one (by assumption) (by assumption) | with_reducible assumption | exact OX.set (by assumption))
    (first
      | (go_at_call 64; refine (number_rd _ br _ (by first | with_reducible assumption | with_reducible exact RdH.drew (by assumption) | with_reducible exact RdH.drew (RdH.drew (by assumption)))).mono ?_; rintro e w1 ⟨rfl, hR1, hO1⟩; have hX1 : OX w w.heap.size br w1 := OX.one hO1 (by first | with_reducible assumption | with_reducible exact OX.drew (by assumption)))
      | (go_at_call 87; refine (text_rd _ br _ (by first | with_reducible assumption | with_reducible exact RdH.drew (by assumption) | with_reducible exact RdH.drew (RdH.drew (by assumption)))).mono ?_; rintro e w1 ⟨rfl, hR1, hO1⟩; have hX1 : OX w w.heap.size br w1 := OX.one hO1 (by first | with_reducible assumption | with_reducible exact OX.drew (by assumption)))
      | fail)
  rename_i hHeld
  obtain ⟨⟨-, c0, c1, c2, c3, c4, c5, -⟩, hid⟩ := hX1
  have hOne := hHeld.2.out.2.2.2.1
  have hRF : Hid (RdH _ br _) := (((((hR1.set (w.heap.size + 1) 0 (by omega) (.int .i64 S.num.1)).set (w.heap.size + 1) 1 (by omega) (.string S.num.2.txt.1)).set (w.heap.size + 1) 2 (by omega) (.string S.num.2.txt.2.txt.1)).set (w.heap.size + 1) 3 (by omega) (.int .i64 S.num.2.txt.2.txt.2.num.1)).set (w.heap.size + 1) 4 (by omega) (.int .i64 S.num.2.txt.2.txt.2.num.2.num.1)).set (w.heap.size + 1) 5 (by omega) (.int .i64 S.num.2.txt.2.txt.2.num.2.num.2.num.1)
  clear hHeld hR1 hO1 hX hR hid
  go_wp2
  exact bodyPost_ret (v := S.opn.1.v) (by simp [results, Try.results66, go_sem, c0, c1, c2, c3, c4, c5, Rd.opn, Rd.op1, Rd.op2, Rd.op3, Rd.op4]) rfl ⟨rfl, hRF.out, hOne⟩

/-- so many operations, one behind the other -/
def Rd.ops (S : Rd) : Nat → List Opn × Rd
  | 0 => ([], S)
  | n + 1 => ((S.ops n).1 ++ [(S.ops n).2.opn.1], (S.ops n).2.opn.2)
theorem Rd.ops_len (S : Rd) (n : Nat) : (S.ops n).1.length = n := by
  induction n with
  | zero => rfl
  | succ n ih => simp [Rd.ops, ih]
def Rd.req0 (S : Rd) : Rd := S.num.2.num.2
def Rd.reqN (S : Rd) : Nat := (S.req0.count 32).1.toNat
def Rd.req (S : Rd) : Req × Rd := (⟨S.num.1, S.num.2.num.1, ((S.req0.count 32).2.ops S.reqN).1⟩, ((S.req0.count 32).2.ops S.reqN).2)
theorem Rd.count_in (S : Rd) (most : Int) (h : 0 ≤ most) : 0 ≤ (S.count most).1 ∧ (S.count most).1 ≤ most := by
  unfold Rd.count
  split
  · next h => exact within_iff.1 h
  · exact ⟨Int.le_refl _, h⟩

end Go.Proofs.Ytkjcfkninmmbhaa.Oq
