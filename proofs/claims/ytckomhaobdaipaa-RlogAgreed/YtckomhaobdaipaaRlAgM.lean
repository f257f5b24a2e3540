/- The mathematics of what is agreed: how many are as far, and that it rises. -/
import Derived.Test.YtckomhaobdaipaaRlAgr
import Derived.Test.YtckomhaobdaipaaRlCom
namespace Go.Proofs.Ytckomhaobdaipaa.Rl
open Go.RowKit Go.Joins Gk

abbrev srt (l : List Int) : List Int := l.mergeSort fun x y => decide (x ≤ y)
theorem srt_perm (l : List Int) : (srt l).Perm l := List.mergeSort_perm l _
theorem srt_len (l : List Int) : (srt l).length = l.length := (srt_perm l).length_eq
theorem srt_rise (l : List Int) : (srt l).Pairwise (· ≤ ·) := by
  have h := List.pairwise_mergeSort (le := fun x y : Int => decide (x ≤ y)) (fun a b c h1 h2 => by simp only [decide_eq_true_eq] at *; omega) (fun a b => by simp only [Bool.or_eq_true, decide_eq_true_eq]; omega) l
  exact h.imp (fun h => by simpa using h)
/-- how many are as far -/
abbrev far (x : Int) (l : List Int) : Nat := l.countP fun y => decide (x ≤ y)
theorem far_srt (x : Int) (l : List Int) : far x (srt l) = far x l := (srt_perm l).countP_eq _
theorem med_at (l : List Int) (h : l ≠ []) : ∃ hj : (l.length - 1) / 2 < (srt l).length, med l = (srt l)[(l.length - 1) / 2] := by
  have : 0 < l.length := List.length_pos_iff.2 h
  have hj : (l.length - 1) / 2 < (srt l).length := by rw [srt_len]; omega
  exact ⟨hj, by rw [med, List.getElem?_eq_getElem hj]; rfl⟩
theorem far_drop {s : List Int} (hs : s.Pairwise (· ≤ ·)) (j : Nat) (hj : j < s.length) : s.length - j ≤ far s[j] s := by
  have h1 : far s[j] (s.drop j) = (s.drop j).length := by
    rw [List.countP_eq_length]
    intro y hy
    obtain ⟨i, hi, rfl⟩ := List.getElem_of_mem hy
    rw [List.length_drop] at hi
    rw [List.getElem_drop]
    rcases Nat.eq_zero_or_pos i with rfl | h0
    · simp
    · have := List.pairwise_iff_getElem.1 hs j (j + i) hj (by omega) (by omega)
      simpa using this
  have h2 : far s[j] s = far s[j] (s.take j) + far s[j] (s.drop j) := by rw [← List.countP_append, List.take_append_drop]
  rw [List.length_drop] at h1
  omega
theorem far_under {s : List Int} (hs : s.Pairwise (· ≤ ·)) (j : Nat) (hj : j < s.length) (x : Int) (hx : s[j] < x) : far x s ≤ s.length - (j + 1) := by
  have h1 : far x (s.take (j + 1)) = 0 := by
    rw [List.countP_eq_zero]
    intro y hy
    obtain ⟨i, hi, rfl⟩ := List.getElem_of_mem hy
    rw [List.length_take] at hi
    rw [List.getElem_take]
    have : s[i] ≤ s[j] := by
      rcases Nat.lt_or_ge i j with h | h
      · exact List.pairwise_iff_getElem.1 hs i j (by omega) hj h
      · have : i = j := by omega
        subst this; exact Int.le_refl _
    simp; omega
  have h2 : far x s = far x (s.take (j + 1)) + far x (s.drop (j + 1)) := by rw [← List.countP_append, List.take_append_drop]
  have h3 : far x (s.drop (j + 1)) ≤ (s.drop (j + 1)).length := List.countP_le_length
  rw [List.length_drop] at h3
  omega
/-- more than half are as far as the one in the middle -/
theorem med_many (l : List Int) (h : l ≠ []) : l.length < 2 * far (med l) l := by
  obtain ⟨hj, he⟩ := med_at l h
  have h1 := far_drop (srt_rise l) _ hj
  rw [← he, far_srt, srt_len] at h1
  have : 0 < l.length := List.length_pos_iff.2 h
  omega
theorem far_less {x y : Int} (h : x ≤ y) (l : List Int) : far y l ≤ far x l := List.countP_mono_left (fun z _ hz => by simp only [decide_eq_true_eq] at *; omega)
theorem far_more : ∀ {l m : List Int}, l.length = m.length → (∀ i (h1 : i < l.length) (h2 : i < m.length), l[i] ≤ m[i]) → ∀ x, far x l ≤ far x m
  | [], [], _, _, _ => Nat.le_refl _
  | a :: l, b :: m, h, hle, x => by
    have h0 := hle 0 (by simp) (by simp)
    have := far_more (l := l) (m := m) (by simpa using h) (fun i h1 h2 => hle (i + 1) (by simp; omega) (by simp; omega)) x
    simp only [List.getElem_cons_zero] at h0
    simp only [far] at this
    simp only [far, List.countP_cons, decide_eq_true_eq]
    split <;> split <;> omega
  | [], _ :: _, h, _, _ => by simp at h
  | _ :: _, [], h, _, _ => by simp at h
/-- it rises with what it is reckoned from -/
theorem med_rise {l m : List Int} (hne : l ≠ []) (h : l.length = m.length) (hle : ∀ i (h1 : i < l.length) (h2 : i < m.length), l[i] ≤ m[i]) : med l ≤ med m := by
  have hm : m ≠ [] := by intro e; rw [e] at h; exact hne (List.eq_nil_of_length_eq_zero h)
  obtain ⟨hj, he⟩ := med_at l hne
  obtain ⟨hk, hf⟩ := med_at m hm
  apply Classical.byContradiction
  intro hn
  have h1 := far_drop (srt_rise l) _ hj
  rw [← he, far_srt, srt_len] at h1
  have h2 := far_under (srt_rise m) _ hk (med l) (by rw [← hf]; omega)
  rw [far_srt, srt_len] at h2
  have h3 := far_more h hle (med l)
  have : 0 < l.length := List.length_pos_iff.2 hne
  omega

/-- the term of a number, and of a later one -/
theorem tm_nth {S : Lo} (h : Grown S) (k : Nat) (h0 : 0 < k) (hk : k ≤ S.es.length) : S.tm k = (S.es[k - 1]'(by omega)).t := by
  have hb := h.b
  rw [Lo.tm, if_neg (by omega), hb, show k - 0 - 1 = k - 1 by omega, List.getElem?_eq_getElem (by omega)]; rfl
theorem tm_rise {S : Lo} (h : Grown S) {j k : Nat} (h0 : 0 < j) (hjk : j ≤ k) (hk : k ≤ S.es.length) : S.tm j ≤ S.tm k := by
  rw [tm_nth h j h0 (by omega), tm_nth h k (by omega) hk]
  rcases Nat.lt_or_ge j k with hl | hl
  · have := List.pairwise_iff_getElem.1 h.rise (j - 1) (k - 1) (by simp; omega) (by simp; omega) (by omega)
    simpa using this
  · have : j = k := by omega
    subst this; exact Int.le_refl _
/-- what is agreed at the last term -/
theorem agr_top {S : Lo} (h : Grown S) (ms : List Int) (commit : Int) (hc : 0 ≤ commit) :
    agr S ms (S.tm S.last) commit = if commit < min (med ms) (S.es.length : Int) ∧ S.tm (min (med ms) (S.es.length : Int)).toNat = S.tm S.es.length then min (med ms) (S.es.length : Int) else commit := by
  have hb := h.b
  rw [agr, h.last, hb, show max commit ((0 : Nat) : Int) = commit by omega]
  obtain ⟨t, ht⟩ : ∃ t, min (med ms) (S.es.length : Int) = t := ⟨_, rfl⟩
  have htl : t ≤ (S.es.length : Int) := by omega
  rw [ht]
  by_cases hlt : commit < t
  · obtain ⟨k, hk⟩ : ∃ k, (t - commit).toNat = k + 1 := ⟨(t - commit).toNat - 1, by omega⟩
    have h0 : 0 < t.toNat := by omega
    have h1 := tm_rise h h0 (show t.toNat ≤ S.es.length by omega) (Nat.le_refl _)
    have h2 : ((S.es[t.toNat - S.b - 1]?).getD ⟨0, ⟨#[]⟩⟩).t = S.tm t.toNat := by
      rw [tm_nth h _ h0 (by omega), hb, show t.toNat - 0 - 1 = t.toNat - 1 by omega, List.getElem?_eq_getElem (by omega)]; rfl
    rw [dwL, if_pos hlt, hk, dwn, fo, h2]
    by_cases he : S.tm t.toNat = S.tm S.es.length
    · rw [if_pos he, if_pos ⟨hlt, he⟩]; show ((t.toNat : Nat) : Int) = t; omega
    · rw [if_neg he, if_pos (by omega), if_neg (fun hh => he hh.2)]
  · rw [dwL, if_neg hlt, fo, if_neg (fun hh => hlt hh.1)]

/-- what the law asks of one answer -/
def Agd (S : Lo) (l : List Int) (n : Int) : Prop := n = 0 ∨ (0 < n ∧ n ≤ (S.es.length : Int) ∧ S.tm n.toNat = S.tm S.es.length ∧ l.length < 2 * far n l)
theorem agd_top {S : Lo} (l : List Int) (hne : l ≠ []) (h0 : 0 < min (med l) (S.es.length : Int)) (ht : S.tm (min (med l) (S.es.length : Int)).toNat = S.tm S.es.length) : Agd S l (min (med l) (S.es.length : Int)) := by
  refine Or.inr ⟨h0, by omega, ht, ?_⟩
  have h1 := med_many l hne
  have h2 := far_less (show min (med l) (S.es.length : Int) ≤ med l by omega) l
  omega
theorem agreed_is {S : Lo} (h : Grown S) (a b : List Int) (hne : a ≠ []) (hl : a.length = b.length) (hle : ∀ i (h1 : i < a.length) (h2 : i < b.length), a[i] ≤ b[i]) :
    let n := agr S a (S.tm S.last) 0
    let m := agr S b (S.tm S.last) n
    0 ≤ n ∧ n ≤ m ∧ m ≤ (S.es.length : Int) ∧ Agd S a n ∧ Agd S b m := by
  intro n m
  have hb : b ≠ [] := by intro e; rw [e] at hl; exact hne (List.eq_nil_of_length_eq_zero hl)
  have hn : 0 ≤ n ∧ n ≤ (S.es.length : Int) ∧ Agd S a n := by
    show 0 ≤ agr S a (S.tm S.last) 0 ∧ agr S a (S.tm S.last) 0 ≤ _ ∧ Agd S a (agr S a (S.tm S.last) 0)
    rw [agr_top h a 0 (Int.le_refl _)]
    split
    · rename_i hh; exact ⟨by omega, by omega, agd_top a hne hh.1 hh.2⟩
    · exact ⟨Int.le_refl _, by omega, Or.inl rfl⟩
  have hm : n ≤ m ∧ m ≤ (S.es.length : Int) ∧ Agd S b m := by
    show n ≤ agr S b (S.tm S.last) n ∧ agr S b (S.tm S.last) n ≤ _ ∧ Agd S b (agr S b (S.tm S.last) n)
    rw [agr_top h b n hn.1]
    split
    · rename_i hh; exact ⟨by omega, by omega, agd_top b hb (by omega) hh.2⟩
    · refine ⟨Int.le_refl _, hn.2.1, ?_⟩
      rcases hn.2.2 with h0 | ⟨h0, h1, h2, h3⟩
      · exact Or.inl h0
      · refine Or.inr ⟨h0, h1, h2, ?_⟩
        have := far_more hl hle n
        omega
  exact ⟨hn.1, hm.1, hm.2.1, hn.2.2, hm.2.2⟩

end Go.Proofs.Ytckomhaobdaipaa.Rl
