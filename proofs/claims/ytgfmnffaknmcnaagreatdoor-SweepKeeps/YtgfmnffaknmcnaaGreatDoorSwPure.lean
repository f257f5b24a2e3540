/- Layer 12, plain: places in order, each once; what is compacted. -/
import Derived.Lib.Hide
namespace Go.Proofs.YtgfmnffaknmcnaaGreatDoor.Sw

/-- a place: its file, where it begins, how long it is -/
abbrev Pc : Type := Int × Int × Int
def B4 (a b : Pc) : Prop := a.1 < b.1 ∨ a.1 = b.1 ∧ (a.2.1 < b.2.1 ∨ a.2.1 = b.2.1 ∧ a.2.2 < b.2.2)
theorem B4.irr (a : Pc) : ¬ B4 a a := by unfold B4; omega
theorem B4.tr {a b c : Pc} (h : B4 a b) (k : B4 b c) : B4 a c := by unfold B4 at *; omega
theorem B4.tot {a b : Pc} (h : ¬ B4 a b) (k : ¬ B4 b a) : a = b := by
  obtain ⟨a1, a2, a3⟩ := a
  obtain ⟨b1, b2, b3⟩ := b
  unfold B4 at *
  simp only at h k
  rw [Prod.mk.injEq, Prod.mk.injEq]
  omega
theorem B4.file {a b : Pc} (h : B4 a b) : a.1 ≤ b.1 := by unfold B4 at h; omega
/-- in order, each once -/
abbrev Ord (L : List Pc) : Prop := L.Pairwise B4
theorem Ord.unique : ∀ {L M : List Pc}, Ord L → Ord M → (∀ p, p ∈ L ↔ p ∈ M) → L = M
  | [], [], _, _, _ => rfl
  | [], y :: _, _, _, h => absurd ((h y).2 (by simp)) (by simp)
  | x :: _, [], _, _, h => absurd ((h x).1 (by simp)) (by simp)
  | x :: L, y :: M, h, k, e => by
    obtain ⟨h1, h2⟩ := List.pairwise_cons.1 h
    obtain ⟨k1, k2⟩ := List.pairwise_cons.1 k
    have exy : x = y := by
      refine B4.tot (fun hb => ?_) fun hb => ?_
      · rcases List.mem_cons.1 ((e x).1 (by simp)) with e1 | hm
        · subst e1; exact B4.irr _ hb
        · exact B4.irr _ (hb.tr (k1 x hm))
      · rcases List.mem_cons.1 ((e y).2 (by simp)) with e1 | hm
        · subst e1; exact B4.irr _ hb
        · exact B4.irr _ (hb.tr (h1 y hm))
    subst exy
    congr 1
    refine Ord.unique h2 k2 fun p => ⟨fun hp => ?_, fun hp => ?_⟩
    · rcases List.mem_cons.1 ((e p).1 (List.mem_cons_of_mem _ hp)) with e1 | hm
      · subst e1; exact absurd (h1 p hp) (B4.irr _)
      · exact hm
    · rcases List.mem_cons.1 ((e p).2 (List.mem_cons_of_mem _ hp)) with e1 | hm
      · subst e1; exact absurd (k1 p hp) (B4.irr _)
      · exact hm

theorem snocRec {α : Type} {P : List α → Prop} (h0 : P []) (h1 : ∀ l x, P l → P (l ++ [x])) (l : List α) : P l := by
  have : ∀ r : List α, P r.reverse := fun r => by
    induction r with
    | nil => exact h0
    | cons x r ih => rw [List.reverse_cons]; exact h1 _ _ ih
  have h := this l.reverse
  rwa [List.reverse_reverse] at h
/-- neighbours that are alike, once -/
def cstep (acc : List Pc) (x : Pc) : List Pc := if acc.getLast? = some x then acc else acc ++ [x]
def cpt (l : List Pc) : List Pc := l.foldl cstep []
theorem cpt_snoc (l : List Pc) (x : Pc) : cpt (l ++ [x]) = cstep (cpt l) x := by simp [cpt, List.foldl_append]
theorem cpt_nil : cpt [] = [] := rfl
theorem cpt_last (l : List Pc) : (cpt l).getLast? = l.getLast? := by
  induction l using snocRec with
  | h0 => rfl
  | h1 l x ih =>
    rw [cpt_snoc, cstep]
    split
    · rename_i h; rw [h]; simp
    · simp
theorem cpt_mem (l : List Pc) (p : Pc) : p ∈ cpt l ↔ p ∈ l := by
  induction l using snocRec with
  | h0 => simp [cpt_nil]
  | h1 l x ih =>
    rw [cpt_snoc, cstep]
    split
    · rename_i h
      rw [ih, List.mem_append, List.mem_singleton]
      refine ⟨Or.inl, ?_⟩
      rintro (h1 | rfl)
      · exact h1
      · exact ih.1 (List.mem_of_getLast? h)
    · simp [ih]
theorem cpt_len (l : List Pc) : (cpt l).length ≤ l.length := by
  induction l using snocRec with
  | h0 => simp [cpt_nil]
  | h1 l x ih =>
    rw [cpt_snoc, cstep]
    split <;> simp <;> omega
theorem cpt_ord {l : List Pc} (h : l.Pairwise fun a b => ¬ B4 b a) : Ord (cpt l) := by
  induction l using snocRec with
  | h0 => exact List.Pairwise.nil
  | h1 l x ih =>
    obtain ⟨h1, -, h3⟩ := List.pairwise_append.1 h
    have ih := ih h1
    rw [cpt_snoc, cstep]
    split
    · exact ih
    · rename_i hne
      refine List.pairwise_append.2 ⟨ih, by simp, fun a ha b hb => ?_⟩
      rw [List.mem_singleton.1 hb]
      by_cases hab : B4 a x
      · exact hab
      · exfalso
        have e : a = x := B4.tot hab (h3 a ((cpt_mem l a).1 ha) x (by simp))
        subst e
        obtain ⟨ys, y, e⟩ := List.eq_nil_or_concat (cpt l) |>.resolve_left (List.ne_nil_of_mem ha)
        rw [List.concat_eq_append] at e
        rw [e] at ih ha hne
        rcases List.mem_append.1 ha with hm | hm
        · have h4 := (List.pairwise_append.1 ih).2.2 a hm y (by simp)
          have hy : y ∈ l := (cpt_mem l y).1 (by rw [e]; simp)
          exact h3 y hy a (by simp) h4
        · rw [List.mem_singleton.1 hm] at hne
          simp at hne
theorem cpt_eq {l : List Pc} (k : Nat) (hk : k < l.length) (hk0 : 0 < k) : cpt (l.take (k + 1)) = if l[k] = l[k - 1] then cpt (l.take k) else cpt (l.take k) ++ [l[k]] := by
  rw [List.take_succ_eq_append_getElem hk, cpt_snoc, cstep, cpt_last]
  have : (l.take k).getLast? = some l[k - 1] := by
    rw [List.getLast?_eq_getElem?, List.length_take, Nat.min_eq_left (by omega), List.getElem?_take, if_pos (by omega), List.getElem?_eq_getElem]
  rw [this]
  by_cases h : l[k] = l[k - 1]
  · rw [if_pos h, if_pos (by rw [h])]
  · rw [if_neg h, if_neg fun e => h (Option.some.inj e).symm]
/-- the places of a list, in order, each once -/
structure Onc (l L : List Pc) : Prop where
  ord : Ord L
  mem : ∀ p, p ∈ L ↔ p ∈ l
  len : L.length ≤ l.length

end Go.Proofs.YtgfmnffaknmcnaaGreatDoor.Sw
