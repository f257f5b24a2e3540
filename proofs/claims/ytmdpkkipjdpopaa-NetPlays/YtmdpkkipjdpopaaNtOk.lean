/- What holds of every net stays so. -/
import Derived.Test.YtmdpkkipjdpopaaNtLets
namespace Go.Proofs.Ytmdpkkipjdpopaa.Nk
open Go.RowKit Go.Joins Gk

theorem isPr_iff {q p : Pr} : isPr q p = true ↔ p = q := by
  simp only [isPr, Bool.and_eq_true, beq_iff_eq]
  constructor
  · rintro ⟨h1, h2⟩; exact Prod.ext (by omega) (by omega)
  · rintro rfl; exact ⟨rfl, rfl⟩
theorem memP_iff {q : Pr} {l : List Pr} : memP q l = true ↔ q ∈ l := by
  simp only [memP, decide_eq_true_eq]
  rcases idxI_cases (isPr q) l with ⟨e, h⟩ | ⟨i, hi, e, hp, _⟩
  · rw [e]
    constructor
    · intro h'; omega
    · intro hm; have := h q hm; rw [isPr_iff.2 rfl] at this; cases this
  · rw [e]
    constructor
    · intro _; rw [← isPr_iff.1 hp]; exact List.getElem_mem hi
    · intro _; omega
theorem full_iff {S : Nst} : S.full = false ↔ S.ls.length < 4096 ∧ S.sent < 1099511627776 := by simp [Nst.full]

namespace Nst
theorem Ok.new {n : Nat} (h1 : 1 ≤ n) (h2 : n ≤ 16) : Ok ⟨n, 0, [], []⟩ := ⟨h1, h2, by simp, by simp, by simp, by simp, List.Pairwise.nil⟩
theorem Ok.post {S : Nst} (h : S.Ok) (hf : S.full = false) {a b : Nat} {s : ByteArray} (ha : a < S.nodes) (hb : b < S.nodes) (hs : s.size ≤ 65536) : (S.post a b s).Ok := by
  obtain ⟨f1, f2⟩ := full_iff.1 hf
  refine ⟨h.n1, h.n2, by simp only [Nst.post, List.length_append, List.length_singleton]; omega, by simp only [Nst.post]; omega, fun x hx => ?_, h.pairs, h.once⟩
  simp only [Nst.post, List.mem_append, List.mem_singleton] at hx ⊢
  rcases hx with hx | rfl
  · have := h.each x hx; exact ⟨by omega, this.2⟩
  · exact ⟨by show S.sent < S.sent + 1; omega, ha, hb, hs⟩
theorem Ok.less {S : Nst} (h : S.Ok) {l : List Lt} (hl : ∀ x ∈ l, x ∈ S.ls) (hn : l.length ≤ S.ls.length) : Ok { S with ls := l } :=
  ⟨h.n1, h.n2, Nat.le_trans hn h.many, h.sent, fun x hx => h.each x (hl x hx), h.pairs, h.once⟩
theorem Ok.send {S : Nst} (h : S.Ok) (a b : Int) (s : ByteArray) : (S.send a b s).2.Ok := by
  unfold Nst.send
  split
  · exact h
  · rename_i h1
    split
    · exact h
    · rename_i h2
      simp only [not_or, Bool.not_eq_false, Bool.not_eq_true] at h1 h2
      obtain ⟨a0, a1⟩ := hasN_iff.1 h1.1
      obtain ⟨b0, b1⟩ := hasN_iff.1 h1.2
      exact h.post h2.2 (by omega) (by omega) (by omega)
theorem Ok.erase {S : Nst} (h : S.Ok) (i : Nat) : Ok { S with ls := S.ls.eraseIdx i } :=
  h.less (fun _ hx => List.mem_of_mem_eraseIdx hx) (List.length_eraseIdx_le _ _)
theorem Ok.lose {S : Nst} (h : S.Ok) (id : Int) : (S.lose id).2.Ok := by
  unfold Nst.lose
  split
  · exact h
  · exact h.erase _
theorem Ok.take {S : Nst} (h : S.Ok) (id : Int) : (S.take id).2.Ok := by
  unfold Nst.take
  split
  · exact h
  · split
    · split
      · exact h
      · exact h.erase _
    · exact h
theorem Ok.copy {S : Nst} (h : S.Ok) (id : Int) : (S.copy id).2.Ok := by
  unfold Nst.copy
  split
  · exact h
  · split
    · exact h
    · rename_i hf
      split
      · rename_i x hx
        have := h.each x (List.mem_of_getElem? hx)
        exact h.post (by simpa using hf) this.2.1 this.2.2.1 this.2.2.2
      · exact h
theorem Ok.part {S : Nst} (h : S.Ok) (a b : Int) : (S.part a b).2.Ok := by
  unfold Nst.part
  split
  · exact h
  · rename_i h1
    split
    · exact h
    · rename_i h2
      split
      · exact h
      · rename_i h3
        simp only [not_or, Bool.not_eq_false] at h1
        obtain ⟨a0, a1⟩ := hasN_iff.1 h1.1
        obtain ⟨b0, b1⟩ := hasN_iff.1 h1.2
        have hnm : prOf a.toNat b.toNat ∉ S.ps := fun hm => h3 (memP_iff.2 hm)
        refine ⟨h.n1, h.n2, h.many, h.sent, h.each, fun p hp => ?_, ?_⟩
        · simp only [List.mem_append, List.mem_singleton] at hp
          rcases hp with hp | rfl
          · exact h.pairs p hp
          · exact ⟨by simp only [prOf]; omega, by simp only [prOf]; omega⟩
        · show (S.ps ++ [prOf a.toNat b.toNat]).Nodup
          rw [List.nodup_append]
          refine ⟨h.once, by simp, fun x hx y hy e => ?_⟩
          rw [List.mem_singleton] at hy
          subst hy; subst e
          exact hnm hx
theorem Ok.join {S : Nst} (h : S.Ok) (a b : Int) : (S.join a b).2.Ok := by
  unfold Nst.join
  split
  · exact h
  · exact ⟨h.n1, h.n2, h.many, h.sent, h.each, fun p hp => h.pairs p (List.mem_filter.1 hp).1, List.Pairwise.filter _ h.once⟩
theorem Ok.drop {S : Nst} (h : S.Ok) (a : Int) : (S.drop a).2.Ok := by
  unfold Nst.drop
  split
  · exact h
  · exact h.less (fun x hx => (List.mem_filter.1 hx).1) (List.length_filter_le _ _)
end Nst

end Go.Proofs.Ytmdpkkipjdpopaa.Nk
