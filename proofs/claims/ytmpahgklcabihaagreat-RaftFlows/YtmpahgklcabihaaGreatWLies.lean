/- Rows of fields as lists that lie there. -/
import Derived.Test.YtmpahgklcabihaaGreatDec
import Derived.KernelRfl
namespace Go.Proofs.YtmpahgklcabihaaGreat
open Go.RowKit

theorem fcells_at (l : List Fld) (i : Nat) (h : i < l.length) : (fcells l)[i * 3]? = some (.bool l[i].text) ∧ (fcells l)[i * 3 + 1]? = some (.int .i64 l[i].n) ∧ (fcells l)[i * 3 + 2]? = some (.string l[i].s) := by
  induction l generalizing i with
  | nil => simp at h
  | cons x l ih =>
    have e : fcells (x :: l) = .bool x.text :: .int .i64 x.n :: .string x.s :: fcells l := rfl
    rw [e]
    cases i with
    | zero => simp
    | succ i =>
      have := ih i (by simpa using h)
      rw [show (i + 1) * 3 = i * 3 + 1 + 1 + 1 from by omega]
      simpa using this

/-- an owned row of fields is a slice whose fields lie there -/
theorem own_lies {w : World} {B : Nat} {v : Value} {l : List Fld} (h : w.ownsRow B 120 3 v l.length (fcells l)) : ∃ a cap, v = .slice a l.length cap ∧ Lies w a l := by
  rcases h.2 with ⟨rfl, h0⟩ | ⟨g, cap, cur, rfl, hb, hg, rest⟩
  · exact ⟨none, 0, by rw [h0], Or.inl (List.eq_nil_of_length_eq_zero h0)⟩
  · refine ⟨_, cap, rfl, Or.inr ⟨g, 0, rfl, (Array.getElem?_eq_some_iff.1 hg).1, fun i hi => ?_⟩⟩
    obtain ⟨f0, f1, f2⟩ := fcells_at l i hi
    refine ⟨?_, ?_, ?_⟩
    · rw [h.cellAt _ (by omega)]; simpa using f0
    · rw [h.cellAt _ (by omega)]; simpa using f1
    · rw [h.cellAt _ (by omega)]; simpa using f2

end Go.Proofs.YtmpahgklcabihaaGreat
