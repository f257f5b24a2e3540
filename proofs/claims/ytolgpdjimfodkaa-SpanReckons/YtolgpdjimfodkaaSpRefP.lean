/- The document's way to a normal list, as plain mathematics: from one end to the next. -/
import Derived.Test.YtolgpdjimfodkaaSpPure
namespace Go.Proofs.Ytolgpdjimfodkaa.Sp
open Go.RowKit Go.Joins Gk

/-- what has been written so far; r: the ends that are left -/
structure IR (KK : ByteArray → Bool) (r : List ByteArray) (w : Wr) : Prop where
  cov : ∀ t, (∀ y, r.head? = some y → B4 t y = true) → (hasL w.out t || (w.kp && !B4 t w.fr)) = KK t
  each : ∀ s ∈ w.out, B4 s.fr s.to = true
  pair : w.out.Pairwise fun s s' => B4 s.to s'.fr = true
  low : ∀ y, r.head? = some y → (∀ s ∈ w.out, B4 s.to y = true) ∧ (w.kp = true → B4 w.fr y = true)
  chain : w.kp = true → ∀ s ∈ w.out, B4 s.to w.fr = true

theorem IR.step {KK : ByteArray → Bool} {p : ByteArray} {r : List ByteArray} {w : Wr} (hnext : ∀ y, r.head? = some y → B4 p y = true) (hK : ∀ t, B4 t p = false → (∀ y, r.head? = some y → B4 t y = true) → KK t = KK p) (h : IR KK (p :: r) w) : IR KK r (w.turn (KK p) p) := by
  obtain ⟨hlo, hkl⟩ := h.low p rfl
  generalize KK p = k at hK
  have hold : ∀ t, B4 t p = true → (hasL w.out t || (w.kp && !B4 t w.fr)) = KK t := fun t ht => h.cov t fun z hz => by simp at hz; subst hz; exact ht
  have hno : ∀ t, B4 t p = false → hasL w.out t = false := fun t ht => hasL_false fun s hs' => by
    have h1 := hlo s hs'
    exact Sp.has_above (B4.asym (B4.lt_le h1 ht)) (B4.some (h.each s hs'))
  have hlow' : ∀ y, r.head? = some y → ∀ s ∈ w.out, B4 s.to y = true := fun y hy s hs' => B4.tr (hlo s hs') (hnext y hy)
  unfold Wr.turn
  by_cases e : k = w.kp
  · rw [if_pos e]
    refine ⟨fun t ht => ?_, h.each, h.pair, fun y hy => ⟨hlow' y hy, fun hk' => B4.tr (hkl hk') (hnext y hy)⟩, h.chain⟩
    by_cases hb : B4 t p = true
    · exact hold t hb
    · have hb' : B4 t p = false := by simpa using hb
      rw [hK t hb' ht, hno t hb', e]
      cases hw : w.kp with
      | false => rfl
      | true => rw [B4.asym (B4.lt_le (hkl hw) hb')]; rfl
  · rw [if_neg e]
    cases k with
    | true =>
      have hw : w.kp = false := by cases hw : w.kp <;> simp_all
      refine ⟨fun t ht => ?_, h.each, h.pair, fun y hy => ⟨hlow' y hy, fun _ => hnext y hy⟩, fun _ => hlo⟩
      by_cases hb : B4 t p = true
      · have := hold t hb
        rw [hw] at this
        simpa [hb] using this
      · have hb' : B4 t p = false := by simpa using hb
        rw [hK t hb' ht]
        simp [hb']
    | false =>
      have hw : w.kp = true := by cases hw : w.kp <;> simp_all
      have hfx := hkl hw
      refine ⟨fun t ht => ?_, fun s hs' => ?_, ?_, fun y hy => ⟨fun s hs' => ?_, fun h' => by simp at h'⟩, fun h' => by simp at h'⟩
      · by_cases hb : B4 t p = true
        · rw [← hold t hb, hw]
          simp [hasL, Sp.has, hb]
        · have hb' : B4 t p = false := by simpa using hb
          rw [hK t hb' ht]
          have := hno t hb'
          simp only [Bool.false_eq_true, if_false, Bool.false_and, Bool.or_false, hasL_append, this, Bool.false_or]
          simp [hasL, Sp.has, hb', B4.some hfx]
      · rcases List.mem_append.1 hs' with h1 | h1
        · exact h.each s h1
        · rw [List.mem_singleton.1 h1]; exact hfx
      · show List.Pairwise _ (w.out ++ [_])
        rw [List.pairwise_append]
        refine ⟨h.pair, by simp, fun s hs' s' hs'' => ?_⟩
        rw [List.mem_singleton.1 hs'']
        exact h.chain hw s hs'
      · rcases List.mem_append.1 hs' with h1 | h1
        · exact hlow' y hy s h1
        · rw [List.mem_singleton.1 h1]; exact hnext y hy
theorem IR.norm {KK : ByteArray → Bool} {w : Wr} (h : IR KK [] w) : Norm w.fin ∧ ∀ t, hasL w.fin t = KK t := by
  have hc := fun t => h.cov t (by simp)
  unfold Wr.fin
  cases hw : w.kp with
  | false =>
    rw [hw] at hc
    refine ⟨⟨fun s hs => Or.inr (h.each s (by simpa using hs)), ?_⟩, fun t => by simpa using hc t⟩
    simp only [Bool.false_eq_true, if_false]
    exact h.pair.imp_of_mem fun {a b} ha _ hab => ⟨B4.some (h.each a ha), hab⟩
  | true =>
    rw [hw] at hc
    simp only [if_true]
    refine ⟨⟨fun s hs => ?_, ?_⟩, fun t => ?_⟩
    · rcases List.mem_append.1 hs with h1 | h1
      · exact Or.inr (h.each s h1)
      · rw [List.mem_singleton.1 h1]; exact Or.inl rfl
    · rw [List.pairwise_append]
      refine ⟨h.pair.imp_of_mem fun {a b} ha _ hab => ⟨B4.some (h.each a ha), hab⟩, by simp, fun s hs s' hs' => ?_⟩
      rw [List.mem_singleton.1 hs']
      exact ⟨B4.some (h.each s hs), h.chain hw s hs⟩
    · rw [← hc t, hasL_append]
      simp [hasL, Sp.has]

/-- rising, each once -/
abbrev Ris (l : List ByteArray) : Prop := l.Pairwise fun x y => B4 x y = true
/-- all ends of a list are there -/
def Has (E : List ByteArray) (l : List Sp) : Prop := ∀ s ∈ l, s.fr ∈ E ∧ (s.to ≠ nix → s.to ∈ E)
theorem side {P r : List ByteArray} {p t e : ByteArray} (hs : Ris (P ++ p :: r)) (h1 : B4 t p = false) (h2 : ∀ y, r.head? = some y → B4 t y = true) (he : e ∈ P ++ p :: r) : B4 t e = B4 p e := by
  obtain ⟨_, hsx, hsp⟩ := List.pairwise_append.1 hs
  obtain ⟨hxr, hsr⟩ := List.pairwise_cons.1 hsx
  rcases List.mem_append.1 he with h | h
  · have h3 : B4 e p = true := hsp e h p List.mem_cons_self
    rw [B4.asym h3, B4.asym (B4.lt_le h3 h1)]
  · rcases List.mem_cons.1 h with rfl | h
    · rw [h1, B4.irr]
    · have h3 : B4 p e = true := hxr e h
      rw [h3]
      cases r with
      | nil => simp at h
      | cons z q =>
        have hz := h2 z rfl
        rcases List.mem_cons.1 h with rfl | h
        · exact hz
        · exact B4.tr hz ((List.pairwise_cons.1 hsr).1 e h)
theorem has_side {P r : List ByteArray} {p t : ByteArray} {l : List Sp} (hs : Ris (P ++ p :: r)) (h1 : B4 t p = false) (h2 : ∀ y, r.head? = some y → B4 t y = true) (hl : Has (P ++ p :: r) l) : hasL l t = hasL l p := by
  induction l with
  | nil => rfl
  | cons s q ih =>
    rw [hasL_cons, hasL_cons, ih fun x hx => hl x (List.mem_cons_of_mem _ hx)]
    obtain ⟨hf, ht⟩ := hl s List.mem_cons_self
    congr 1
    unfold Sp.has
    rw [side hs h1 h2 hf]
    by_cases hn : s.to = nix
    · simp [hn]
    · rw [side hs h1 h2 (ht hn)]
theorem has_before {E : List ByteArray} {t : ByteArray} {l : List Sp} (hs : Ris E) (h2 : ∀ y, E.head? = some y → B4 t y = true) (hl : Has E l) : hasL l t = false := by
  refine hasL_false fun s hx => Sp.has_below ?_
  have h := (hl s hx).1
  cases E with
  | nil => simp at h
  | cons z q =>
    have hz := h2 z rfl
    rcases List.mem_cons.1 h with h | h
    · rw [h]; exact hz
    · exact B4.tr hz ((List.pairwise_cons.1 hs).1 _ h)

/-- what the document's way comes to, end by end -/
def mk (KK : ByteArray → Bool) (l : List ByteArray) : Wr := l.foldl (fun w p => w.turn (KK p) p) ⟨[], false, nix⟩
theorem mk_snoc (KK : ByteArray → Bool) (l : List ByteArray) (p : ByteArray) : mk KK (l ++ [p]) = (mk KK l).turn (KK p) p := by simp [mk]
theorem mk_inv {K : Bool → Bool → Bool} (h0 : K false false = false) {a b : List Sp} {E : List ByteArray} (hs : Ris E) (ha : Has E a) (hb : Has E b) (k : Nat) (hk : k ≤ E.length) : IR (fun t => K (hasL a t) (hasL b t)) (E.drop k) (mk (fun t => K (hasL a t) (hasL b t)) (E.take k)) := by
  induction k with
  | zero =>
    refine ⟨fun t ht => ?_, by simp [mk], by simp [mk], fun y _ => by simp [mk], by simp [mk]⟩
    rw [List.drop_zero] at ht
    rw [has_before hs ht ha, has_before hs ht hb, h0]
    simp [mk, hasL]
  | succ k ih =>
    have hlt : k < E.length := by omega
    have h := ih (by omega)
    rw [List.take_succ_eq_append_getElem hlt, mk_snoc]
    rw [List.drop_eq_getElem_cons hlt] at h
    have e : E = E.take k ++ E[k] :: E.drop (k + 1) := by rw [← List.drop_eq_getElem_cons hlt, List.take_append_drop]
    have hs' : Ris (E.take k ++ E[k] :: E.drop (k + 1)) := e ▸ hs
    have ha' : Has (E.take k ++ E[k] :: E.drop (k + 1)) a := e ▸ ha
    have hb' : Has (E.take k ++ E[k] :: E.drop (k + 1)) b := e ▸ hb
    refine IR.step (fun y hy => ?_) (fun t h1 h2 => ?_) h
    · obtain ⟨_, hsx, _⟩ := List.pairwise_append.1 hs'
      exact (List.pairwise_cons.1 hsx).1 y (List.mem_of_mem_head? hy)
    · rw [has_side hs' h1 h2 ha', has_side hs' h1 h2 hb']
theorem mk_nrm {K : Bool → Bool → Bool} (h0 : K false false = false) {a b : List Sp} (hma : MayL a) (hmb : MayL b) {E : List ByteArray} (hs : Ris E) (ha : Has E a) (hb : Has E b) : (mk (fun t => K (hasL a t) (hasL b t)) E).fin = nrm K a b := by
  have h := mk_inv h0 hs ha hb E.length (Nat.le_refl _)
  rw [List.drop_length, List.take_length] at h
  obtain ⟨h1, h2⟩ := h.norm
  obtain ⟨h3, h4, _⟩ := nrm_made h0 hma hmb
  exact h1.unique h3 fun t => by rw [h2, h4]

end Go.Proofs.Ytolgpdjimfodkaa.Sp
