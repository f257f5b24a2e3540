/- RingGrows: when one chain's weight is greater, a key moves to that chain, or not at all; made lesser again, all that moved moves back, and no other one. Proved: for all weights, chains and keys, no condition. -/
import Derived.Test.YtpefdccbfocmoaaDoorRgSame
namespace Go.Proofs.YtpefdccbfocmoaaDoor.Rg
open Go.RowKit Go.Joins Gk

theorem mvd_sym (ws ws' : List Int) (i : Nat) (l : List ByteArray) : mvd ws ws' i l = mvd ws' ws i l := by
  induction l generalizing i with
  | nil => rfl
  | cons k r ih =>
    simp only [mvd, ih]
    by_cases h : ow ws (hashL k.data.toList) = ow ws' (hashL k.data.toList)
    · rw [if_pos h, if_pos h.symm]
    · rw [if_neg h, if_neg (fun e => h e.symm)]
/-- each number that is told is that of a key whose chains are unlike -/
theorem mvd_mem (ws ws' : List Int) (i : Nat) (l : List ByteArray) (x : Int) (h : x ∈ mvd ws ws' i l) : ∃ (j : Nat) (hj : j < l.length), x = ((i + j : Nat) : Int) ∧ ow ws (hashL l[j].data.toList) ≠ ow ws' (hashL l[j].data.toList) := by
  induction l generalizing i with
  | nil => cases h
  | cons k r ih =>
    rw [mvd] at h
    by_cases e : ow ws (hashL k.data.toList) = ow ws' (hashL k.data.toList)
    · rw [if_pos e] at h
      obtain ⟨j, hj, h1, h2⟩ := ih (i + 1) h
      exact ⟨j + 1, by simp; omega, by rw [h1]; omega, by simpa using h2⟩
    · rw [if_neg e] at h
      rcases List.mem_cons.1 h with h' | h'
      · exact ⟨0, by simp, by rw [h']; simp, by simpa using e⟩
      · obtain ⟨j, hj, h1, h2⟩ := ih (i + 1) h'
        exact ⟨j + 1, by simp; omega, by rw [h1]; omega, by simpa using h2⟩

/-- a greater weight's points are those there were, and others of that chain -/
theorem pts_more {ws : List Int} {c : Nat} (hc : c < ws.length) (x : Int) (p : Pt) : p ∈ pts (ws.set c (ws.getD c 0 + x)) ↔ p.1 < ws.length ∧ p.2 < (if p.1 = c then ws.getD c 0 + x else ws.getD p.1 0).toNat := by
  rw [mem_pts, List.length_set]
  by_cases e : p.1 = c
  · rw [if_pos e, e]; simp [List.getD_eq_getElem?_getD, hc]
  · rw [if_neg e]; simp [List.getD_eq_getElem?_getD, Ne.symm e]
theorem grows {ws : List Int} {c : Nat} (hc : c < ws.length) (h : Int) {a b : Nat} (ha : Owns ws h a) (hb : Owns (ws.set c (ws.getD c 0 + 5)) h b) : b = a ∨ b = c := by
  obtain ⟨p, hp, rfl⟩ := ha
  obtain ⟨q, hq, rfl⟩ := hb
  by_cases e : q.1 = c
  · exact Or.inr e
  · refine Or.inl ?_
    have hq1 := (pts_more hc 5 q).1 hq.1
    rw [if_neg e] at hq1
    have hqm : q ∈ pts ws := mem_pts.2 hq1
    have hpm : p ∈ pts (ws.set c (ws.getD c 0 + 5)) := by
      have := mem_pts.1 hp.1
      refine (pts_more hc 5 p).2 ⟨this.1, ?_⟩
      by_cases e' : p.1 = c
      · rw [if_pos e']; have h2 := this.2; rw [e'] at h2; omega
      · rw [if_neg e']; exact this.2
    have : q = p := by
      rcases hp.2 q hqm with e1 | n1
      · exact e1
      · rcases hq.2 p hpm with e2 | n2
        · exact e2.symm
        · exact (n1.asym n2).elim
    rw [this]
theorem may_more {ws : List Int} (h : May ws) {c : Nat} (hc : c < ws.length) (hv : ws.getD c 0 ≤ 120) : May (ws.set c (ws.getD c 0 + 5)) := by
  have hg : ws.getD c 0 = ws[c] := by simp [List.getD_eq_getElem?_getD, hc]
  have h1 := h.each ws[c] (List.getElem_mem hc)
  refine ⟨by simp; exact h.n1, by simp; exact h.n2, fun x hx => ?_, ⟨ws.getD c 0 + 5, ?_, by omega⟩⟩
  · rcases List.mem_or_eq_of_mem_set hx with h2 | h2
    · exact h.each x h2
    · omega
  · exact List.mem_set hc _

end Go.Proofs.YtpefdccbfocmoaaDoor.Rg
