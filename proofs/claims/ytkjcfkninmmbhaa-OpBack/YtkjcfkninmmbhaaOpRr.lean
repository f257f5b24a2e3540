/- Layer 8: the reader of fields: a row is read. -/
import Derived.Test.YtkjcfkninmmbhaaOpRq
import Derived.Test.YtkjcfkninmmbhaaOpRpG
namespace Go.Proofs.Ytkjcfkninmmbhaa.Oq
open Go.RowKit Go.Joins Go.Proofs.Ytkjcfkninmmbhaa.Gk

def Rd.row1 (S : Rd) : Rd := S.txt.2.num.2
def Rd.row (S : Rd) : Rw × Rd := (⟨S.txt.1, S.txt.2.num.1, S.row1.txt.1⟩, S.row1.txt.2)
abbrev Rw.v (x : Rw) : Value := .agg #[.string x.key, .int .i64 x.stamp, .string x.val]

/-- the reader's box, and the row's -/
abbrev WX (w : World) (H br : Nat) (W : World) : Prop :=
  (W.cell? ⟨H, 0, none⟩ = some (.pointer (some ⟨br, 0, none⟩)) ∧ W.cell? ⟨H + 1, 0, none⟩ = some (cv W (H + 1) 0) ∧ W.cell? ⟨H + 1, 1, none⟩ = some (cv W (H + 1) 1) ∧ W.cell? ⟨H + 1, 2, none⟩ = some (cv W (H + 1) 2) ∧
    W.frozen? ⟨H + 1, 0, none⟩ = false ∧ W.frozen? ⟨H + 1, 1, none⟩ = false ∧ W.frozen? ⟨H + 1, 2, none⟩ = false) ∧
  Hid (br < H ∧ W.heap[H]? = some (.cells #[.pointer (some ⟨br, 0, none⟩)] 60 (0, 0)) ∧ (∃ x0 x1 x2, W.heap[H + 1]? = some (.cells #[x0, x1, x2] 111 (0, 0))) ∧ One br w W ∧ w.heap.size ≤ H)
theorem WX.mk {w W : World} {H br : Nat} {x0 x1 x2 : Value} (h0 : br < H) (h1 : W.heap[H]? = some (.cells #[.pointer (some ⟨br, 0, none⟩)] 60 (0, 0))) (h2 : W.heap[H + 1]? = some (.cells #[x0, x1, x2] 111 (0, 0))) (h3 : One br w W) (h4 : w.heap.size ≤ H) : WX w H br W :=
  ⟨⟨by rw [cell_of_block h1]; rfl, cv_of (x := x0) (by rw [cell_of_block h2]; rfl), cv_of (x := x1) (by rw [cell_of_block h2]; rfl), cv_of (x := x2) (by rw [cell_of_block h2]; rfl), unfrozen_of_block h2 0, unfrozen_of_block h2 1, unfrozen_of_block h2 2⟩, h0, h1, ⟨_, _, _, h2⟩, h3, h4⟩
theorem WX.drew {w W : World} {H br : Nat} (h : WX w H br W) : WX w H br W.drew := by
  obtain ⟨h0, h1, ⟨x0, x1, x2, h2⟩, h3, h4⟩ := h.2.out
  exact WX.mk h0 h1 h2 (h3.trans (One.of_below ((Below.refl _ _).drew))) h4
theorem WX.one {w W W' : World} {H br : Nat} (hO : One br W W') (h : WX w H br W) : WX w H br W' := by
  obtain ⟨h0, h1, ⟨x0, x1, x2, h2⟩, h3, h4⟩ := h.2.out
  exact WX.mk h0 ((hO.block H (Array.getElem?_eq_some_iff.1 h1).1 (by omega)).trans h1) ((hO.block (H + 1) (Array.getElem?_eq_some_iff.1 h2).1 (by omega)).trans h2) (h3.trans hO) h4
theorem WX.set {w W : World} {H br : Nat} {a b c : Value} (h : WX w H br W) : WX w H br (((W.setCell ⟨H + 1, 0, none⟩ a).setCell ⟨H + 1, 1, none⟩ b).setCell ⟨H + 1, 2, none⟩ c) := by
  obtain ⟨h0, h1, ⟨x0, x1, x2, h2⟩, h3, h4⟩ := h.2.out
  have hs : ∀ (V : World) i v, (V.setCell ⟨H + 1, i, none⟩ v).heap[H]? = V.heap[H]? := fun V i v => Below.heap_setCell V _ _ H (by show H ≠ H + 1; omega)
  refine WX.mk h0 ?_ (set3 a b c h2) ?_ h4
  · rw [hs, hs, hs]; exact h1
  · exact One.setNew (One.setNew (One.setNew h3 _ 0 (by omega) _) _ 1 (by omega) _) _ 2 (by omega) _

set_option maxRecDepth 100000 in
set_option maxHeartbeats 4000000 in
theorem row_rd (S : Rd) (br : Nat) (w : World) (h : RdH w br S) :
    Calls Try.prog 90 #[.agg #[.pointer (some ⟨br, 0, none⟩)]] w fun e w' => e = .returned S.row.1.v ∧ RdH w' br S.row.2 ∧ One br w w' := by
  have hlt := h.lt
  obtain ⟨W, hW⟩ : ∃ W, W = (w.alloc (.cells #[.pointer (some ⟨br, 0, none⟩)] 60)).alloc (.cells #[.string ⟨#[]⟩, .int .i64 0, .string ⟨#[]⟩] 111) := ⟨_, rfl⟩
  have hbW : Below w.heap.size w W := by rw [hW]; exact below2 _ _ _
  have hX : WX w w.heap.size br W := by
    refine WX.mk hlt ?_ (x0 := .string ⟨#[]⟩) (x1 := .int .i64 0) (x2 := .string ⟨#[]⟩) ?_ (One.of_below hbW) (Nat.le_refl _)
    · rw [hW]; exact ((below1 _ _).block _ (by simp)).trans (heap_alloc_new _ _)
    · rw [hW]; have := heap_alloc_new (w.alloc (.cells #[.pointer (some ⟨br, 0, none⟩)] 60)) (.cells #[.string ⟨#[]⟩, .int .i64 0, .string ⟨#[]⟩] 111); simpa using this
  have hR := h.below hbW
  go_enter Try.func90, Try.ntmps90
  go_wp2_with fail
  rw [← hW]
  clear hW hbW h
  go_region_held3 (WX w w.heap.size br) (first | with_reducible exact WX.drew (by assumption) | with_reducible exact WX.one (by assumption) (by assumption) | with_reducible assumption | exact WX.set (by assumption))
    (first
      | (go_at_call 64; refine (number_rd _ br _ (by first | with_reducible assumption | with_reducible exact RdH.drew (by assumption) | with_reducible exact RdH.drew (RdH.drew (by assumption)))).mono ?_; rintro e w1 ⟨rfl, hR1, hO1⟩; have hX1 : WX w w.heap.size br w1 := WX.one hO1 (by first | with_reducible assumption | with_reducible exact WX.drew (by assumption)))
      | (go_at_call 87; refine (text_rd _ br _ (by first | with_reducible assumption | with_reducible exact RdH.drew (by assumption) | with_reducible exact RdH.drew (RdH.drew (by assumption)))).mono ?_; rintro e w1 ⟨rfl, hR1, hO1⟩; have hX1 : WX w w.heap.size br w1 := WX.one hO1 (by first | with_reducible assumption | with_reducible exact WX.drew (by assumption)))
      | fail)
  rename_i hHeld
  obtain ⟨⟨-, c0, c1, c2, -⟩, hid⟩ := hX1
  have hOne := hHeld.2.out.2.2.2.1
  have hRF : Hid (RdH _ br _) := ((hR1.set (w.heap.size + 1) 0 (by omega) (.string S.txt.1)).set (w.heap.size + 1) 1 (by omega) (.int .i64 S.txt.2.num.1)).set (w.heap.size + 1) 2 (by omega) (.string S.txt.2.num.2.txt.1)
  clear hHeld hR1 hO1 hX hR hid
  go_wp2
  exact bodyPost_ret (v := S.row.1.v) (by simp [results, Try.results90, go_sem, c0, c1, c2, Rd.row, Rd.row1]) rfl ⟨rfl, hRF.out, hOne⟩

/-- so many rows, one behind the other -/
def Rd.rows (S : Rd) : Nat → List Rw × Rd
  | 0 => ([], S)
  | n + 1 => ((S.rows n).1 ++ [(S.rows n).2.row.1], (S.rows n).2.row.2)
theorem Rd.rows_len (S : Rd) (n : Nat) : (S.rows n).1.length = n := by
  induction n with
  | zero => rfl
  | succ n ih => simp [Rd.rows, ih]
theorem Rd.cnt_in (S : Rd) (most : Int) (h : 0 ≤ most) : 0 ≤ (S.count most).1 ∧ (S.count most).1 ≤ most := by
  unfold Rd.count
  split
  · next h => exact within_iff.1 h
  · exact ⟨Int.le_refl _, h⟩
def Rd.res0 (S : Rd) : Rd := S.num.2.num.2.txt.2
def Rd.resN (S : Rd) : Nat := (S.res0.count 100).1.toNat
def Rd.res (S : Rd) : Rs × Rd := (⟨S.num.1, S.num.2.num.1, S.num.2.num.2.txt.1, ((S.res0.count 100).2.rows S.resN).1⟩, ((S.res0.count 100).2.rows S.resN).2)

end Go.Proofs.Ytkjcfkninmmbhaa.Oq
