/- Layer 8: the reader of fields: a row is read. -/
import Derived.Test.YtbjpajplpodjbaaOpRn
import Derived.Test.YtbjpajplpodjbaaOpRpG
namespace Go.Proofs.Ytbjpajplpodjbaa.Oq
open Go.RowKit Go.Joins Go.Proofs.Ytbjpajplpodjbaa.Gk

def Rd.row1 (S : Rd) : Rd := S.txt.2.num.2
def Rd.row (S : Rd) : Rw × Rd := (⟨S.txt.1, S.txt.2.num.1, S.row1.txt.1⟩, S.row1.txt.2)
abbrev Rw.v (x : Rw) : Value := .agg #[.string x.key, .int .i64 x.stamp, .string x.val]

set_option maxRecDepth 100000 in
set_option maxHeartbeats 1000000 in
theorem row_rd (S : Rd) (br : Nat) (w : World) (h : RdH w br S) :
    Calls Try.prog 89 #[.pointer (some ⟨br, 0, none⟩)] w fun e w' => e = .returned S.row.1.v ∧ RdH w' br S.row.2 ∧ One br w w' := by
  have hlt := h.lt
  obtain ⟨W, hW⟩ : ∃ W, W = w.alloc (.cells #[.string ⟨#[]⟩, .int .i64 0, .string ⟨#[]⟩] 110) := ⟨_, rfl⟩
  have hbW : Below w.heap.size w W := by rw [hW]; exact below1 _ _
  have hh : W.heap[w.heap.size]? = some (.cells #[.string ⟨#[]⟩, .int .i64 0, .string ⟨#[]⟩] 110 (0, 0)) := by rw [hW]; exact heap_alloc_new _ _
  have hzW : w.heap.size < W.heap.size := by rw [hW]; simp
  go_enter Try.func89, Try.ntmps89
  go_wp2_with fail
  rw [← hW]
  clear hW
  refine (text_rd S br W (h.below hbW)).mono ?_
  rintro e w1 ⟨rfl, h1, hO1⟩
  go_wp2_with fail
  refine (number_rd _ br w1 h1).mono ?_
  rintro e w2 ⟨rfl, h2, hO2⟩
  go_wp2_with fail
  refine (text_rd _ br w2 h2).mono ?_
  rintro e w3 ⟨rfl, h6, hO3⟩
  have hO := hide ((hO1.trans hO2).trans hO3)
  have hb6 : w3.heap[w.heap.size]? = some (.cells #[.string ⟨#[]⟩, .int .i64 0, .string ⟨#[]⟩] 110 (0, 0)) := (hO.out.block _ hzW (by omega)).trans hh
  have c0 := cell_of_block hb6 0
  have c1 := cell_of_block hb6 1
  have c2 := cell_of_block hb6 2
  simp only [List.getElem?_toArray, List.getElem?_cons_zero, List.getElem?_cons_succ] at c0 c1 c2
  have f0 := unfrozen_of_block hb6 0
  have f1 := unfrozen_of_block hb6 1
  have f2 := unfrozen_of_block hb6 2
  clear hO1 hO2 hO3 h1 h2 hh hb6
  go_wp2
  refine bodyPost_ret (v := S.row.1.v) (by simp [results, Try.results89, go_sem, c0, c1, c2, Rd.row, Rd.row1]) rfl ⟨rfl, ?_, ?_⟩
  · exact ((h6.set _ 0 hlt _).set _ 1 hlt _).set _ 2 hlt _
  · have hA : One br w w3 := (One.of_below hbW).trans hO.out
    exact One.setNew (One.setNew (One.setNew hA _ 0 (Nat.le_refl _) _) _ 1 (Nat.le_refl _) _) _ 2 (Nat.le_refl _) _

/-- so many rows, one behind the other -/
def Rd.rows (S : Rd) : Nat → List Rw × Rd
  | 0 => ([], S)
  | n + 1 => ((S.rows n).1 ++ [(S.rows n).2.row.1], (S.rows n).2.row.2)
theorem Rd.rows_len (S : Rd) (n : Nat) : (S.rows n).1.length = n := by
  induction n with
  | zero => rfl
  | succ n ih => simp [Rd.rows, ih]
theorem Rd.cnt_in (S : Rd) (most : Int) (h : 0 ≤ most) : 0 ≤ (S.count most).1 ∧ (S.count most).1 ≤ most := by
  unfold Rd.count
  split
  · next h => exact within_iff.1 h
  · exact ⟨Int.le_refl _, h⟩
def Rd.res0 (S : Rd) : Rd := S.num.2.num.2.txt.2
def Rd.resN (S : Rd) : Nat := (S.res0.count 100).1.toNat
def Rd.res (S : Rd) : Rs × Rd := (⟨S.num.1, S.num.2.num.1, S.num.2.num.2.txt.1, ((S.res0.count 100).2.rows S.resN).1⟩, ((S.res0.count 100).2.rows S.resN).2)

end Go.Proofs.Ytbjpajplpodjbaa.Oq
