/- The document's answer for rings: all points, in order. -/
import Derived.Test.YtcmdglmcmifflaaDoorRfHash
import Derived.Test.YtcmdglmcmifflaaDoorGRow
namespace Go.Proofs.YtcmdglmcmifflaaDoor.Rf
open Go.RowKit Go.Joins Gk Rg

abbrev PoT : TypeId := 100
theorem po_info : (Tryd.prog.info? PoT).map (fun i => (i.zero, i.size, i.bytes)) = some (some (.agg #[.int .u64 0, .int .i64 0]), 2, 16) := by kernel_rfl
def penc2 (p : Pt) : List Value := [.int .u64 (hp p), .int .i64 (p.1 : Int)]
theorem penc2_len (x : Pt) : (penc2 x).length = 2 := rfl
theorem penc2_one (x : Pt) : ∀ u ∈ penc2 x, u.oneCell' = true := by intro u hu; simp only [penc2, List.mem_cons, List.not_mem_nil, or_false] at hu; rcases hu with rfl | rfl <;> rfl

/-- how many of a list stand ahead of a new point -/
def inAt (p : Pt) : List Pt → Nat
  | [] => 0
  | q :: r => if hp q ≤ hp p then inAt p r + 1 else 0
theorem inAt_le (p : Pt) (l : List Pt) : inAt p l ≤ l.length := by
  induction l with
  | nil => simp [inAt]
  | cons q r ih => simp only [inAt]; split <;> simp; omega
theorem inAt_lo (p : Pt) (l : List Pt) (j : Nat) (hj : j < l.length) (hlt : j < inAt p l) : hp l[j] ≤ hp p := by
  induction l generalizing j with
  | nil => simp at hj
  | cons q r ih =>
    simp only [inAt] at hlt
    split at hlt
    · cases j with
      | zero => assumption
      | succ j => simp only [List.getElem_cons_succ]; exact ih j (by simpa using hj) (by omega)
    · omega
theorem inAt_hi (p : Pt) (l : List Pt) (hk : inAt p l < l.length) : hp p < hp l[inAt p l] := by
  induction l with
  | nil => simp at hk
  | cons q r ih =>
    by_cases e : hp q ≤ hp p
    · have e1 : inAt p (q :: r) = inAt p r + 1 := by simp [inAt, e]
      have := ih (by rw [e1] at hk; simpa using hk)
      simpa [e1] using this
    · have e1 : inAt p (q :: r) = 0 := by simp [inAt, e]
      simp only [e1, List.getElem_cons_zero]; omega
/-- a point put in -/
def ins (p : Pt) (l : List Pt) : List Pt := l.take (inAt p l) ++ [p] ++ l.drop (inAt p l)
theorem ins_perm (p : Pt) (l : List Pt) : (ins p l).Perm (l ++ [p]) := by
  rw [ins]
  have h1 : (l.take (inAt p l) ++ [p] ++ l.drop (inAt p l)).Perm (l.take (inAt p l) ++ (l.drop (inAt p l) ++ [p])) := by
    rw [List.append_assoc]
    exact (List.perm_append_comm).append_left _
  rw [← List.append_assoc, List.take_append_drop] at h1
  exact h1
theorem ins_sorted (p : Pt) (l : List Pt) (hs : l.Pairwise plt) (hx : ∀ q ∈ l, lex q p) : (ins p l).Pairwise plt := by
  rw [ins, List.append_assoc, List.pairwise_append]
  refine ⟨hs.sublist (List.take_sublist _ _), ?_, ?_⟩
  · rw [List.singleton_append, List.pairwise_cons]
    refine ⟨fun q hq => ?_, hs.sublist (List.drop_sublist _ _)⟩
    obtain ⟨j, hj, rfl⟩ := List.getElem_of_mem hq
    rw [List.length_drop] at hj
    rw [List.getElem_drop]
    have h1 := inAt_hi p l (by omega)
    have h2 := plt_le hs (i := inAt p l) (j := inAt p l + j) (by omega) (by omega)
    exact Or.inl (by omega)
  · intro q hq r hr
    obtain ⟨j, hj, rfl⟩ := List.getElem_of_mem hq
    rw [List.length_take] at hj
    rw [List.getElem_take]
    have h1 := inAt_lo p l j (by omega) (by omega)
    rcases List.mem_cons.1 (by simpa using hr) with rfl | h
    · by_cases e : hp l[j] < hp r
      · exact Or.inl e
      · exact Or.inr ⟨by omega, hx _ (List.getElem_mem (by omega))⟩
    · obtain ⟨i, hi, rfl⟩ := List.getElem_of_mem h
      rw [List.length_drop] at hi
      rw [List.getElem_drop]
      exact List.pairwise_iff_getElem.1 hs j _ (by omega) (by omega) (by omega)
/-- points put in one by one -/
def insAll (l : List Pt) : List Pt := l.foldl (fun o p => ins p o) []
theorem insAll_snoc (l : List Pt) (p : Pt) : insAll (l ++ [p]) = ins p (insAll l) := by simp [insAll]
theorem insAll_ok (l : List Pt) (hx : l.Pairwise lex) : (insAll l).Perm l ∧ (insAll l).Pairwise plt := by
  have key : ∀ k, k ≤ l.length → (insAll (l.take k)).Perm (l.take k) ∧ (insAll (l.take k)).Pairwise plt := by
    intro k
    induction k with
    | zero => intro _; simp [insAll]
    | succ k ih =>
      intro hk
      obtain ⟨h1, h2⟩ := ih (by omega)
      have hlt : k < l.length := by omega
      rw [List.take_succ_eq_append_getElem hlt, insAll_snoc]
      refine ⟨(ins_perm _ _).trans (h1.append_right _), ins_sorted _ _ h2 fun q hq => ?_⟩
      obtain ⟨j, hj, rfl⟩ := List.getElem_of_mem (h1.mem_iff.1 hq)
      rw [List.length_take] at hj
      rw [List.getElem_take]
      exact List.pairwise_iff_getElem.1 hx j k (by omega) hlt (by omega)
  have := key l.length (Nat.le_refl _)
  rwa [List.take_length] at this
theorem insAll_srt (ws : List Int) : Srt ws (insAll (pts ws)) := ⟨(insAll_ok _ (lex_pts ws)).1, (insAll_ok _ (lex_pts ws)).2⟩

theorem own_room {w : World} {B e k g n c m : Nat} {l : List Value} (h : w.ownsRow B e k (.slice (some ⟨g, 0, none⟩) n c) m l) : n ≤ c := by
  rcases h.2 with ⟨e1, _⟩ | ⟨_, _, _, e1, _, _, h1, _⟩
  · cases e1
  · cases e1; exact h1
theorem ptsC_pre (c : Nat) {i n : Nat} (h : i ≤ n) : ptsC c i <+: ptsC c n := by
  induction n with
  | zero => have : i = 0 := by omega
            subst this; exact List.prefix_refl _
  | succ n ih =>
    by_cases e : i = n + 1
    · subst e; exact List.prefix_refl _
    · rw [ptsC_succ]; exact (ih (by omega)).trans (List.prefix_append _ _)
theorem insAll_len (l : List Pt) : (insAll l).length = l.length := by
  have key : ∀ (l acc : List Pt), (l.foldl (fun o p => ins p o) acc).length = acc.length + l.length := by
    intro l
    induction l with
    | nil => intro acc; rfl
    | cons p r ih => intro acc; rw [List.foldl_cons, ih, (ins_perm _ _).length_eq]; simp; omega
  rw [insAll, key]; simp


end Go.Proofs.YtcmdglmcmifflaaDoor.Rf
