/- Where a file stands in a list by names: the plain mathematics of the document's answer. -/
import Derived.Test.YtokcknfbanpjjaaDActV
import Derived.Test.YtokcknfbanpjjaaDFuse
namespace Go.Proofs.Ytokcknfbanpjjaa.Dk
open Go.Maps

section
variable {α : Type}
/-- how many stand ahead of a name -/
def posL (k : Bs) (l : List (Bs × α)) : Nat := (l.takeWhile fun p => bytesBefore p.1 k).length
theorem posL_take (k : Bs) : ∀ (l : List (Bs × α)), l.take (posL k l) = l.takeWhile fun p => bytesBefore p.1 k
  | [] => rfl
  | p :: r => by
    unfold posL
    by_cases h : bytesBefore p.1 k = true
    · rw [List.takeWhile_cons_of_pos (by exact h), List.length_cons, List.take_succ_cons]
      exact congrArg _ (posL_take k r)
    · rw [List.takeWhile_cons_of_neg (by simpa using h)]; rfl
theorem posL_le (k : Bs) (l : List (Bs × α)) : posL k l ≤ l.length := by
  unfold posL
  exact (List.takeWhile_prefix _).length_le
theorem posL_ahead {k : Bs} {l : List (Bs × α)} : ∀ p ∈ l.take (posL k l), bytesBefore p.1 k = true := by
  intro p hp
  rw [posL_take] at hp
  exact List.all_eq_true.1 List.all_takeWhile p hp
theorem posL_at {k : Bs} : ∀ {l : List (Bs × α)} (h : posL k l < l.length), bytesBefore (l[posL k l]).1 k = false
  | [], h => absurd h (by simp)
  | p :: r, h => by
    by_cases hp : bytesBefore p.1 k = true
    · have e : posL k (p :: r) = posL k r + 1 := by unfold posL; rw [List.takeWhile_cons_of_pos (by exact hp), List.length_cons]
      have h' : posL k r < r.length := by rw [e] at h; simpa using h
      have := posL_at h'
      simp only [e, List.getElem_cons_succ]
      exact this
    · have e : posL k (p :: r) = 0 := by unfold posL; rw [List.takeWhile_cons_of_neg (by simpa using hp)]; rfl
      simp only [e, List.getElem_cons_zero]
      simpa using hp
/-- what is found at the place -/
theorem posL_get {k : Bs} {l : List (Bs × α)} (hr : Rising l) : (∃ h : posL k l < l.length, (l[posL k l]).1 = k ∧ getL k l = some (l[posL k l]).2) ∨ (getL k l = none ∧ ∀ h : posL k l < l.length, bytesBefore k (l[posL k l]).1 = true) := by
  cases hg : getL k l with
  | some a =>
    left
    have hm := getL_some hg
    have hlt : posL k l < l.length := by
      apply Nat.lt_of_le_of_ne (posL_le k l)
      intro e
      have := posL_ahead (k := k) (l := l) (k, a) (by rw [e, List.take_length]; exact hm)
      rw [WideAt.bytes_irrefl] at this; cases this
    refine ⟨hlt, ?_⟩
    obtain ⟨i, hi, he⟩ := List.getElem_of_mem hm
    have hat := posL_at hlt
    have hip : i = posL k l := by
      rcases Nat.lt_trichotomy i (posL k l) with h | h | h
      · have := posL_ahead (k := k) (l := l) l[i] (List.mem_take_iff_getElem.2 ⟨i, by omega, rfl⟩)
        rw [he, WideAt.bytes_irrefl] at this; cases this
      · exact h
      · have := List.pairwise_iff_getElem.1 hr _ _ hlt hi h
        rw [he, hat] at this; cases this
    subst hip
    rw [he]; exact ⟨rfl, rfl⟩
  | none =>
    right
    refine ⟨rfl, fun h => ?_⟩
    have hne := getL_none hg _ (List.getElem_mem h)
    rcases WideAt.bytes_total _ _ hne with h1 | h1
    · rw [posL_at h] at h1; cases h1
    · exact h1
theorem putL_pos_some {k : Bs} {l : List (Bs × α)} (hr : Rising l) {a b : α} (hg : getL k l = some a) : putL k b l = l.take (posL k l) ++ (k, b) :: l.drop (posL k l + 1) := by
  rcases posL_get (k := k) hr with ⟨h, h1, h2⟩ | ⟨h1, _⟩
  · have e : l = l.take (posL k l) ++ (k, a) :: l.drop (posL k l + 1) := by
      have e1 : l[posL k l] = (k, a) := by rw [hg] at h2; cases h2; exact Prod.ext h1 rfl
      rw [← e1, ← List.drop_eq_getElem_cons h, List.take_append_drop]
    generalize posL k l = i at *
    rw [e] at hr
    have := putL_mid (b := b) hr
    rw [← e] at this
    exact this
  · rw [hg] at h1; cases h1
theorem putL_pos_none {k : Bs} {l : List (Bs × α)} (hr : Rising l) {b : α} (hg : getL k l = none) : putL k b l = l.take (posL k l) ++ (k, b) :: l.drop (posL k l) := by
  have hne := getL_none hg
  have hsplit := List.take_append_drop (posL k l) l
  have hris : Rising (l.take (posL k l) ++ (k, b) :: l.drop (posL k l)) := by
    rw [Rising, List.pairwise_append, List.pairwise_cons]
    have hr' := hr
    rw [← hsplit, Rising, List.pairwise_append] at hr'
    have hafter : ∀ p ∈ l.drop (posL k l), bytesBefore k p.1 = true := by
      intro p hp
      obtain ⟨j, hj, rfl⟩ := List.getElem_of_mem hp
      have hlt : posL k l < l.length := by simp only [List.length_drop] at hj; omega
      have hf : bytesBefore k (l[posL k l]).1 = true := by
        rcases posL_get (k := k) hr with ⟨_, _, h2⟩ | ⟨_, h2⟩
        · rw [hg] at h2; cases h2
        · exact h2 hlt
      rw [List.getElem_drop]
      by_cases h0 : j = 0
      · subst h0; exact hf
      · have := List.pairwise_iff_getElem.1 hr (posL k l) (posL k l + j) hlt (by simp only [List.length_drop] at hj; omega) (by omega)
        exact WideShapes.bytes_trans _ _ _ hf this
    refine ⟨hr'.1, ⟨hafter, hr'.2.1⟩, fun p hp q hq => ?_⟩
    rcases List.mem_cons.1 hq with rfl | hq
    · exact posL_ahead p hp
    · exact hr'.2.2 p hp q hq
  refine hr.put.ext hris fun p => ?_
  rw [mem_putL]
  constructor
  · rintro (rfl | ⟨h1, _⟩)
    · simp
    · rw [← hsplit] at h1
      rcases List.mem_append.1 h1 with h1 | h1
      · simp [h1]
      · simp [h1]
  · intro hp
    rcases List.mem_append.1 hp with h1 | h1
    · have := List.mem_of_mem_take h1; exact Or.inr ⟨this, hne p this⟩
    · rcases List.mem_cons.1 h1 with rfl | h1
      · exact Or.inl rfl
      · have := List.mem_of_mem_drop h1; exact Or.inr ⟨this, hne p this⟩
theorem delL_pos {k : Bs} {l : List (Bs × α)} (hr : Rising l) {a : α} (hg : getL k l = some a) : delL k l = l.take (posL k l) ++ l.drop (posL k l + 1) := by
  rcases posL_get (k := k) hr with ⟨h, h1, h2⟩ | ⟨h1, _⟩
  · have e : l = l.take (posL k l) ++ (k, a) :: l.drop (posL k l + 1) := by
      have e1 : l[posL k l] = (k, a) := by rw [hg] at h2; cases h2; exact Prod.ext h1 rfl
      rw [← e1, ← List.drop_eq_getElem_cons h, List.take_append_drop]
    generalize posL k l = i at *
    have hr' := hr
    rw [e] at hr'
    obtain ⟨hA, hB⟩ := mid_ne hr'
    conv => lhs; rw [e]
    unfold delL
    rw [List.filter_append, List.filter_cons_of_neg (by simp), List.filter_eq_self.2 (fun p hp => by simpa using hA p hp), List.filter_eq_self.2 (fun p hp => by simpa using hB p hp)]
  · rw [hg] at h1; cases h1
end

end Go.Proofs.Ytokcknfbanpjjaa.Dk
