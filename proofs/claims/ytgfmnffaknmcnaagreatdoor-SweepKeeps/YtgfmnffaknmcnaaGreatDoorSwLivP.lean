/- Layer 12, plain: live bytes, file by file. -/
import Derived.Test.YtgfmnffaknmcnaaGreatDoorSwPure
namespace Go.Proofs.YtgfmnffaknmcnaaGreatDoor.Sw

/-- a place whose length counts -/
def cnt (p : Pc) : Bool := decide (0 ≤ p.2.2) && decide (p.2.2 ≤ 65536)
theorem cnt_iff {p : Pc} : cnt p = true ↔ 0 ≤ p.2.2 ∧ p.2.2 ≤ 65536 := by simp [cnt]
/-- what a place adds to its file -/
def add (p : Pc) : Int := if cnt p then p.2.2 + 8 else 0
/-- the live bytes of a file -/
def of (L : List Pc) (f : Int) : Int := (L.map fun p => if p.1 = f then add p else 0).sum
theorem of_nil (f : Int) : of [] f = 0 := rfl
theorem of_snoc (L : List Pc) (p : Pc) (f : Int) : of (L ++ [p]) f = of L f + (if p.1 = f then add p else 0) := by simp [of]
theorem add_nonneg (p : Pc) : 0 ≤ add p ∧ add p ≤ 65544 := by
  unfold add
  split
  · rename_i h; have := cnt_iff.1 h; omega
  · omega
theorem of_bound (L : List Pc) (f : Int) : 0 ≤ of L f ∧ of L f ≤ L.length * 65544 := by
  induction L using snocRec with
  | h0 => simp [of_nil]
  | h1 L p ih =>
    rw [of_snoc, List.length_append]
    have := add_nonneg p
    simp only [List.length_cons, List.length_nil]
    split <;> omega
theorem of_zero {L : List Pc} {f : Int} (h : ∀ p ∈ L, cnt p = true → p.1 ≠ f) : of L f = 0 := by
  induction L using snocRec with
  | h0 => rfl
  | h1 L p ih =>
    rw [of_snoc, ih fun q hq => h q (by simp [hq])]
    split
    · rename_i e
      unfold add
      split
      · rename_i hc; exact absurd e (h p (by simp) hc)
      · rfl
    · rfl
/-- a file and its bytes -/
abbrev Sz : Type := Int × Int
def lstep (acc : List Sz) (p : Pc) : List Sz :=
  if cnt p then (match acc.getLast? with
    | some q => if q.1 = p.1 then acc.dropLast ++ [(q.1, q.2 + (p.2.2 + 8))] else acc ++ [(p.1, p.2.2 + 8)]
    | none => acc ++ [(p.1, p.2.2 + 8)]) else acc
def lbs (L : List Pc) : List Sz := L.foldl lstep []
theorem lbs_snoc (L : List Pc) (p : Pc) : lbs (L ++ [p]) = lstep (lbs L) p := by simp [lbs, List.foldl_append]
theorem lstep_no {acc : List Sz} {p : Pc} (h : cnt p = false) : lstep acc p = acc := by simp [lstep, h]
theorem lstep_nil {p : Pc} (h : cnt p = true) : lstep [] p = [(p.1, p.2.2 + 8)] := by simp [lstep, h]
theorem lstep_new {A : List Sz} {q : Sz} {p : Pc} (h : cnt p = true) (hq : q.1 ≠ p.1) : lstep (A ++ [q]) p = A ++ [q] ++ [(p.1, p.2.2 + 8)] := by simp [lstep, h, hq]
theorem lstep_old {A : List Sz} {q : Sz} {p : Pc} (h : cnt p = true) (hq : q.1 = p.1) : lstep (A ++ [q]) p = A ++ [(q.1, q.2 + (p.2.2 + 8))] := by simp [lstep, h, hq]
theorem lbs_len (L : List Pc) : (lbs L).length ≤ L.length := by
  induction L using snocRec with
  | h0 => simp [lbs]
  | h1 L p ih =>
    rw [lbs_snoc]
    cases h : cnt p with
    | false => rw [lstep_no h]; simp; omega
    | true =>
      rcases List.eq_nil_or_concat (lbs L) with e | ⟨A, q, e⟩
      · rw [e, lstep_nil h]; simp
      · rw [List.concat_eq_append] at e
        rw [e] at ih ⊢
        by_cases hq : q.1 = p.1
        · rw [lstep_old h hq]; simp at ih ⊢; omega
        · rw [lstep_new h hq]; simp at ih ⊢; omega
theorem lbs_bound (L : List Pc) : ∀ q ∈ lbs L, 0 ≤ q.2 ∧ q.2 ≤ L.length * 65544 := by
  induction L using snocRec with
  | h0 => simp [lbs]
  | h1 L p ih =>
    rw [lbs_snoc, List.length_append, List.length_singleton]
    cases h : cnt p with
    | false => rw [lstep_no h]; intro q hq; have := ih q hq; omega
    | true =>
      have hp := cnt_iff.1 h
      rcases List.eq_nil_or_concat (lbs L) with e | ⟨A, q0, e⟩
      · rw [e, lstep_nil h]
        intro q hq
        rw [List.mem_singleton.1 hq]
        simp only
        omega
      · rw [List.concat_eq_append] at e
        rw [e] at ih ⊢
        by_cases hq0 : q0.1 = p.1
        · rw [lstep_old h hq0]
          intro q hq
          rcases List.mem_append.1 hq with hm | hm
          · have := ih q (by simp [hm]); omega
          · have := ih q0 (by simp)
            rw [List.mem_singleton.1 hm]
            simp only
            omega
        · rw [lstep_new h hq0]
          intro q hq
          rcases List.mem_append.1 hq with hm | hm
          · have := ih q hm; omega
          · rw [List.mem_singleton.1 hm]
            simp only
            omega
/-- what is known of the sizes of places in order -/
structure Lbs (L : List Pc) (A : List Sz) : Prop where
  rise : A.Pairwise fun a b => a.1 < b.1
  each : ∀ q ∈ A, q.2 = of L q.1
  all : ∀ p ∈ L, cnt p = true → ∃ q ∈ A, q.1 = p.1
  from_ : ∀ q ∈ A, ∃ p ∈ L, p.1 = q.1
theorem lbs_lbs {L : List Pc} (h : Ord L) : Lbs L (lbs L) := by
  induction L using snocRec with
  | h0 => exact ⟨List.Pairwise.nil, by simp [lbs], by simp, by simp [lbs]⟩
  | h1 L p ih =>
    obtain ⟨h1, -, h3⟩ := List.pairwise_append.1 h
    have ih := ih h1
    have hle : ∀ q ∈ lbs L, q.1 ≤ p.1 := fun q hq => by
      obtain ⟨r, hr, e⟩ := ih.from_ q hq
      have := (h3 r hr p (by simp)).file
      omega
    rw [lbs_snoc]
    cases hc : cnt p with
    | false =>
      rw [lstep_no hc]
      have ha : add p = 0 := by simp [add, hc]
      refine ⟨ih.rise, fun q hq => ?_, fun r hr hcr => ?_, fun q hq => ?_⟩
      · rw [of_snoc, ha, ih.each q hq]; split <;> omega
      · rcases List.mem_append.1 hr with hm | hm
        · exact ih.all r hm hcr
        · rw [List.mem_singleton.1 hm, hc] at hcr; cases hcr
      · obtain ⟨r, hr, e⟩ := ih.from_ q hq
        exact ⟨r, by simp [hr], e⟩
    | true =>
      have ha : add p = p.2.2 + 8 := by simp [add, hc]
      have hnone : (∀ q ∈ lbs L, q.1 ≠ p.1) → of L p.1 = 0 := fun hne => of_zero fun r hr hcr e => by
        obtain ⟨q, hq, e2⟩ := ih.all r hr hcr
        exact hne q hq (e2.trans e)
      have new : (∀ q ∈ lbs L, q.1 ≠ p.1) → Lbs (L ++ [p]) (lbs L ++ [(p.1, p.2.2 + 8)]) := fun hne => by
        refine ⟨List.pairwise_append.2 ⟨ih.rise, by simp, fun a hA b hb => ?_⟩, fun q hq => ?_, fun r hr hcr => ?_, fun q hq => ?_⟩
        · rw [List.mem_singleton.1 hb]
          have h5 := hle a hA
          have h6 := hne a hA
          show a.1 < p.1
          omega
        · rcases List.mem_append.1 hq with hm | hm
          · rw [of_snoc, ih.each q hm, if_neg (fun e => hne q hm e.symm)]; omega
          · rw [List.mem_singleton.1 hm]
            simp only
            rw [of_snoc, hnone hne, if_pos rfl, ha]; omega
        · rcases List.mem_append.1 hr with hm | hm
          · obtain ⟨q, hq, e⟩ := ih.all r hm hcr
            exact ⟨q, by simp [hq], e⟩
          · exact ⟨(p.1, p.2.2 + 8), List.mem_append_right _ (by simp), by rw [List.mem_singleton.1 hm]⟩
        · rcases List.mem_append.1 hq with hm | hm
          · obtain ⟨r, hr, e⟩ := ih.from_ q hm
            exact ⟨r, by simp [hr], e⟩
          · exact ⟨p, by simp, by rw [List.mem_singleton.1 hm]⟩
      rcases List.eq_nil_or_concat (lbs L) with e | ⟨A, q0, e⟩
      · have := new (by rw [e]; simp)
        rw [e] at this ⊢
        rw [lstep_nil hc]
        exact this
      · rw [List.concat_eq_append] at e
        by_cases hq0 : q0.1 = p.1
        · rw [e] at ih hle ⊢
          rw [lstep_old hc hq0]
          obtain ⟨r1, -, r3⟩ := List.pairwise_append.1 ih.rise
          have hlt : ∀ a ∈ A, a.1 < q0.1 := fun a ha => r3 a ha q0 (by simp)
          refine ⟨List.pairwise_append.2 ⟨r1, by simp, fun a hA b hb => ?_⟩, fun q hq => ?_, fun r hr hcr => ?_, fun q hq => ?_⟩
          · rw [List.mem_singleton.1 hb]; exact hlt a hA
          · rcases List.mem_append.1 hq with hm | hm
            · have h5 := hlt q hm
              rw [of_snoc, ih.each q (by simp [hm]), if_neg (by omega)]; omega
            · rw [List.mem_singleton.1 hm]
              simp only
              rw [of_snoc, ih.each q0 (by simp), if_pos hq0.symm, ha]
          · rcases List.mem_append.1 hr with hm | hm
            · obtain ⟨q, hq, e2⟩ := ih.all r hm hcr
              rcases List.mem_append.1 hq with hm2 | hm2
              · exact ⟨q, by simp [hm2], e2⟩
              · rw [List.mem_singleton.1 hm2] at e2
                exact ⟨(q0.1, q0.2 + (p.2.2 + 8)), List.mem_append_right _ (by simp), e2⟩
            · exact ⟨(q0.1, q0.2 + (p.2.2 + 8)), List.mem_append_right _ (by simp), by rw [List.mem_singleton.1 hm]; exact hq0⟩
          · rcases List.mem_append.1 hq with hm | hm
            · obtain ⟨r, hr, e2⟩ := ih.from_ q (by simp [hm])
              exact ⟨r, by simp [hr], e2⟩
            · exact ⟨p, by simp, by rw [List.mem_singleton.1 hm]; exact hq0.symm⟩
        · have hne : ∀ q ∈ lbs L, q.1 ≠ p.1 := by
            rw [e]
            intro q hq
            rcases List.mem_append.1 hq with hm | hm
            · have h5 := (List.pairwise_append.1 (e ▸ ih.rise)).2.2 q hm q0 (by simp)
              have h6 := hle q0 (by rw [e]; simp)
              omega
            · rw [List.mem_singleton.1 hm]; exact hq0
          have := new hne
          rw [e] at this ⊢
          rw [lstep_new hc hq0]
          exact this
theorem Lbs.look {L : List Pc} {A : List Sz} (h : Lbs L A) {f : Int} (hf : ∀ q ∈ A, q.1 ≠ f) : of L f = 0 := of_zero fun p hp hc e => by
  obtain ⟨q, hq, e2⟩ := h.all p hp hc
  exact hf q hq (e2.trans e)

end Go.Proofs.YtgfmnffaknmcnaaGreatDoor.Sw
