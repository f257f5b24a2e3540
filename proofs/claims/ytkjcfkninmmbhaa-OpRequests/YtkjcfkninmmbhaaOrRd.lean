/- Layer 8, the document's own answer: its reader: num, text. -/
import Derived.Test.YtkjcfkninmmbhaaOrPure
import Derived.Test.YtkjcfkninmmbhaaGQuiet
namespace Go.Proofs.Ytkjcfkninmmbhaa.Oq
open Go.RowKit Go.Joins Go.Proofs.Ytkjcfkninmmbhaa.Gk

/-- the document's reader lies there, and is S -/
structure RfL (w : World) (br : Nat) (a : Option Addr) (c : Nat) (l : List Fld) (p : Nat) (S : Rd) : Prop where
  heap : w.heap[br]? = some (.cells #[.slice a l.length c, .int .i64 p, .bool S.wrong] 68 (0, 0))
  lies : Gk.Lies w fenc a l
  rest : S.rest = l.drop p
  le : p ≤ l.length
  most : l.length ≤ 4096
  apart : ∀ b off, a = some ⟨b, off, none⟩ → l ≠ [] → b < br
def RfH (w : World) (br : Nat) (S : Rd) : Prop := ∃ a c l p, RfL w br a c l p S

theorem RfL.lt {w : World} {br : Nat} {a : Option Addr} {c : Nat} {l : List Fld} {p : Nat} {S : Rd} (h : RfL w br a c l p S) : br < w.heap.size := (Array.getElem?_eq_some_iff.1 h.heap).1
theorem RfH.lt {w : World} {br : Nat} {S : Rd} (h : RfH w br S) : br < w.heap.size := by obtain ⟨_, _, _, _, h⟩ := h; exact h.lt
theorem RfL.over {w w' : World} {br : Nat} {a : Option Addr} {c : Nat} {l : List Fld} {p : Nat} {S : Rd} (h : RfL w br a c l p S) (hz : w.heap.size ≤ w'.heap.size) (hk : ∀ k, k ≤ br → w'.heap[k]? = w.heap[k]?) : RfL w' br a c l p S := by
  refine ⟨(hk br (Nat.le_refl _)).trans h.heap, ?_, h.rest, h.le, h.most, h.apart⟩
  by_cases e : l = []
  · exact Or.inl e
  · exact h.lies.later (fun b off ea _ => hk b (Nat.le_of_lt (h.apart b off ea e))) hz
theorem RfH.over {w w' : World} {br : Nat} {S : Rd} (h : RfH w br S) (hz : w.heap.size ≤ w'.heap.size) (hk : ∀ k, k ≤ br → w'.heap[k]? = w.heap[k]?) : RfH w' br S := by
  obtain ⟨a, c, l, p, h⟩ := h; exact ⟨a, c, l, p, h.over hz hk⟩
theorem RfH.below {w w' : World} {br : Nat} {S : Rd} (h : RfH w br S) (hb : Below w.heap.size w w') : RfH w' br S := h.over hb.size (fun k hk => hb.block k (Nat.lt_of_le_of_lt hk h.lt))
theorem RfH.set {w : World} {br : Nat} {S : Rd} (h : RfH w br S) (g o : Nat) (hg : br < g) (v : Value) : RfH (w.setCell ⟨g, o, none⟩ v) br S :=
  h.over (by simp) (fun k hk => Below.heap_setCell w _ _ k (by show k ≠ g; omega))
/-- a field that may not be there is noted -/
theorem RfL.bad {w : World} {br : Nat} {a : Option Addr} {c : Nat} {l : List Fld} {p : Nat} {S : Rd} (h : RfL w br a c l p S) : RfL (w.setCell ⟨br, 2, none⟩ (.bool true)) br a c l p ⟨S.rest, true⟩ := by
  refine ⟨by rw [block_setCell h.heap]; rfl, ?_, h.rest, h.le, h.most, h.apart⟩
  by_cases e : l = []
  · exact Or.inl e
  · exact h.lies.later (fun b off ea _ => Below.heap_setCell w _ _ b (Nat.ne_of_lt (h.apart b off ea e))) (by simp)
/-- a field is read -/
theorem RfL.step {w : World} {br : Nat} {a : Option Addr} {c : Nat} {l : List Fld} {p : Nat} {S : Rd} (h : RfL w br a c l p S) {f : Fld} {r : List Fld} (hr : S.rest = f :: r) : RfL (w.setCell ⟨br, 1, none⟩ (.int .i64 (p + 1 : Nat))) br a c l (p + 1) ⟨r, S.wrong⟩ := by
  have hlt : p < l.length := by
    rcases Nat.lt_or_ge p l.length with hh | hh
    · exact hh
    · have := h.rest; rw [hr, List.drop_eq_nil_of_le hh] at this; cases this
  refine ⟨by rw [block_setCell h.heap]; rfl, ?_, ?_, hlt, h.most, h.apart⟩
  · by_cases e : l = []
    · exact Or.inl e
    · exact h.lies.later (fun b off ea _ => Below.heap_setCell w _ _ b (Nat.ne_of_lt (h.apart b off ea e))) (by simp)
  · have := h.rest
    rw [hr, List.drop_eq_getElem_cons hlt] at this
    exact (List.cons.inj this).2
theorem RfL.head {w : World} {br : Nat} {a : Option Addr} {c : Nat} {l : List Fld} {p : Nat} {S : Rd} (h : RfL w br a c l p S) {f : Fld} {r : List Fld} (hr : S.rest = f :: r) : ∃ b off, a = some ⟨b, off, none⟩ ∧ p < l.length ∧ b ≠ br ∧
    w.cell? ⟨b, off + p * 3, none⟩ = some (.bool f.text) ∧ w.cell? ⟨b, off + p * 3 + 1, none⟩ = some (.int .i64 f.n) ∧ w.cell? ⟨b, off + p * 3 + 2, none⟩ = some (.string f.s) := by
  have hlt : p < l.length := by
    rcases Nat.lt_or_ge p l.length with hh | hh
    · exact hh
    · have := h.rest; rw [hr, List.drop_eq_nil_of_le hh] at this; cases this
  have hf : l[p] = f := by
    have := h.rest
    rw [hr, List.drop_eq_getElem_cons hlt] at this
    exact (List.cons.inj this).1.symm
  obtain ⟨b, off, ea, _, hc⟩ := h.lies.at fenc_len p hlt
  rw [hf] at hc
  have c0 := hc 0 _ rfl
  rw [Nat.add_zero] at c0
  refine ⟨b, off, ea, hlt, Nat.ne_of_lt (h.apart b off ea (fun e => by rw [e] at hlt; simp at hlt)), c0, hc 1 _ rfl, hc 2 _ rfl⟩
theorem One.drewN {br : Nat} (w : World) (n : Nat) : One br w (w.drewN n) := One.of_below (below_drewN (Below.refl _ _) n)
theorem RfL.drewN {w : World} {br : Nat} {a : Option Addr} {c : Nat} {l : List Fld} {p : Nat} {S : Rd} (h : RfL w br a c l p S) (n : Nat) : RfL (w.drewN n) br a c l p S := h.over (Nat.le_refl _) (fun _ _ => rfl)

end Go.Proofs.Ytkjcfkninmmbhaa.Oq
