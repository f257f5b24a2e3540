/- Layer 8: the reader of fields: an operation is read. -/
import Derived.Test.YtbjpajplpodjbaaOpRn
namespace Go.Proofs.Ytbjpajplpodjbaa.Oq
open Go.RowKit Go.Joins Go.Proofs.Ytbjpajplpodjbaa.Gk

def Rd.op1 (S : Rd) : Rd := S.num.2.txt.2
def Rd.op2 (S : Rd) : Rd := S.op1.txt.2
def Rd.op3 (S : Rd) : Rd := S.op2.num.2
def Rd.op4 (S : Rd) : Rd := S.op3.num.2
def Rd.opn (S : Rd) : Opn × Rd := (⟨S.num.1, S.num.2.txt.1, S.op1.txt.1, S.op2.num.1, S.op3.num.1, S.op4.num.1⟩, S.op4.num.2)

set_option maxRecDepth 100000 in
set_option maxHeartbeats 1000000 in
theorem operation_rd (S : Rd) (br : Nat) (w : World) (h : RdH w br S) :
    Calls Try.prog 66 #[.pointer (some ⟨br, 0, none⟩)] w fun e w' => e = .returned S.opn.1.v ∧ RdH w' br S.opn.2 ∧ One br w w' := by
  have hlt := h.lt
  obtain ⟨W, hW⟩ : ∃ W, W = w.alloc (.cells #[.int .i64 0, .string ⟨#[]⟩, .string ⟨#[]⟩, .int .i64 0, .int .i64 0, .int .i64 0] 29) := ⟨_, rfl⟩
  have hbW : Below w.heap.size w W := by rw [hW]; exact below1 _ _
  have hh : W.heap[w.heap.size]? = some (.cells #[.int .i64 0, .string ⟨#[]⟩, .string ⟨#[]⟩, .int .i64 0, .int .i64 0, .int .i64 0] 29 (0, 0)) := by rw [hW]; exact heap_alloc_new _ _
  have hzW : w.heap.size < W.heap.size := by rw [hW]; simp
  go_enter Try.func66, Try.ntmps66
  go_wp2_with fail
  rw [← hW]
  clear hW
  refine (number_rd S br W (h.below hbW)).mono ?_
  rintro e w1 ⟨rfl, h1, hO1⟩
  go_wp2_with fail
  refine (text_rd _ br w1 h1).mono ?_
  rintro e w2 ⟨rfl, h2, hO2⟩
  go_wp2_with fail
  refine (text_rd _ br w2 h2).mono ?_
  rintro e w3 ⟨rfl, h3, hO3⟩
  go_wp2_with fail
  refine (number_rd _ br w3 h3).mono ?_
  rintro e w4 ⟨rfl, h4, hO4⟩
  go_wp2_with fail
  refine (number_rd _ br w4 h4).mono ?_
  rintro e w5 ⟨rfl, h5, hO5⟩
  go_wp2_with fail
  refine (number_rd _ br w5 h5).mono ?_
  rintro e w6 ⟨rfl, h6, hO6⟩
  have hO := hide (((((hO1.trans hO2).trans hO3).trans hO4).trans hO5).trans hO6)
  have hb6 : w6.heap[w.heap.size]? = some (.cells #[.int .i64 0, .string ⟨#[]⟩, .string ⟨#[]⟩, .int .i64 0, .int .i64 0, .int .i64 0] 29 (0, 0)) := (hO.out.block _ hzW (by omega)).trans hh
  have c0 := cell_of_block hb6 0
  have c1 := cell_of_block hb6 1
  have c2 := cell_of_block hb6 2
  have c3 := cell_of_block hb6 3
  have c4 := cell_of_block hb6 4
  have c5 := cell_of_block hb6 5
  simp only [List.getElem?_toArray, List.getElem?_cons_zero, List.getElem?_cons_succ] at c0 c1 c2 c3 c4 c5
  have f0 := unfrozen_of_block hb6 0
  have f1 := unfrozen_of_block hb6 1
  have f2 := unfrozen_of_block hb6 2
  have f3 := unfrozen_of_block hb6 3
  have f4 := unfrozen_of_block hb6 4
  have f5 := unfrozen_of_block hb6 5
  clear hO1 hO2 hO3 hO4 hO5 hO6 h1 h2 h3 h4 h5 hh hb6
  go_wp2
  refine bodyPost_ret (v := S.opn.1.v) (by simp [results, Try.results66, go_sem, c0, c1, c2, c3, c4, c5, Rd.opn, Rd.op1, Rd.op2, Rd.op3, Rd.op4]) rfl ⟨rfl, ?_, ?_⟩
  · exact (((((h6.set _ 0 hlt _).set _ 1 hlt _).set _ 2 hlt _).set _ 3 hlt _).set _ 4 hlt _).set _ 5 hlt _
  · have hA : One br w w6 := (One.of_below hbW).trans hO.out
    exact One.setNew (One.setNew (One.setNew (One.setNew (One.setNew (One.setNew hA _ 0 (Nat.le_refl _) _) _ 1 (Nat.le_refl _) _) _ 2 (Nat.le_refl _) _) _ 3 (Nat.le_refl _) _) _ 4 (Nat.le_refl _) _) _ 5 (Nat.le_refl _) _

/-- so many operations, one behind the other -/
def Rd.ops (S : Rd) : Nat → List Opn × Rd
  | 0 => ([], S)
  | n + 1 => ((S.ops n).1 ++ [(S.ops n).2.opn.1], (S.ops n).2.opn.2)
theorem Rd.ops_len (S : Rd) (n : Nat) : (S.ops n).1.length = n := by
  induction n with
  | zero => rfl
  | succ n ih => simp [Rd.ops, ih]
def Rd.req0 (S : Rd) : Rd := S.num.2.num.2
def Rd.reqN (S : Rd) : Nat := (S.req0.count 32).1.toNat
def Rd.req (S : Rd) : Req × Rd := (⟨S.num.1, S.num.2.num.1, ((S.req0.count 32).2.ops S.reqN).1⟩, ((S.req0.count 32).2.ops S.reqN).2)
theorem Rd.count_in (S : Rd) (most : Int) (h : 0 ≤ most) : 0 ≤ (S.count most).1 ∧ (S.count most).1 ≤ most := by
  unfold Rd.count
  split
  · next h => exact within_iff.1 h
  · exact ⟨Int.le_refl _, h⟩

end Go.Proofs.Ytbjpajplpodjbaa.Oq
