/- The plain mathematics of layer 2: lists by keys, rising; files; with few words of the model (a map's datum). -/
import Derived.Test.YtokcknfbanpjjaaDBase
namespace Go.Proofs.Ytokcknfbanpjjaa.Dk
open Go.Maps

abbrev Bs := List UInt8
section
variable {α β : Type}
/-- a pair into its place -/
def insL (x : Bs × α) : List (Bs × α) → List (Bs × α)
  | [] => [x]
  | y :: r => if bytesBefore x.1 y.1 then x :: y :: r else y :: insL x r
def delL (k : Bs) (l : List (Bs × α)) : List (Bs × α) := l.filter fun p => !(p.1 == k)
def putL (k : Bs) (a : α) (l : List (Bs × α)) : List (Bs × α) := insL (k, a) (delL k l)
def getL (k : Bs) (l : List (Bs × α)) : Option α := (l.find? fun p => p.1 == k).map (·.2)
def Rising (l : List (Bs × α)) : Prop := l.Pairwise fun p q => bytesBefore p.1 q.1 = true

theorem insL_map (f : α → β) (x : Bs × α) : ∀ l : List (Bs × α), (insL x l).map (fun p => (p.1, f p.2)) = insL (x.1, f x.2) (l.map fun p => (p.1, f p.2))
  | [] => rfl
  | y :: r => by
    simp only [insL, List.map_cons]
    split
    · rfl
    · rw [List.map_cons, insL_map f x r]
theorem delL_map (f : α → β) (k : Bs) (l : List (Bs × α)) : (delL k l).map (fun p => (p.1, f p.2)) = delL k (l.map fun p => (p.1, f p.2)) := by
  simp only [delL, List.filter_map]; rfl
theorem putL_map (f : α → β) (k : Bs) (a : α) (l : List (Bs × α)) : (putL k a l).map (fun p => (p.1, f p.2)) = putL k (f a) (l.map fun p => (p.1, f p.2)) := by
  rw [putL, insL_map, delL_map]; rfl
theorem getL_map (f : α → β) (k : Bs) (l : List (Bs × α)) : getL k (l.map fun p => (p.1, f p.2)) = (getL k l).map f := by
  simp only [getL, List.find?_map, Option.map_map]
  rfl

theorem insL_perm (x : Bs × α) : ∀ l : List (Bs × α), (insL x l).Perm (x :: l)
  | [] => List.Perm.refl _
  | y :: r => by
    simp only [insL]
    split
    · exact List.Perm.refl _
    · exact ((insL_perm x r).cons y).trans (List.Perm.swap x y r)
theorem putL_perm (k : Bs) (a : α) (l : List (Bs × α)) : (putL k a l).Perm ((k, a) :: delL k l) := insL_perm _ _
theorem mem_delL {k : Bs} {l : List (Bs × α)} {p : Bs × α} : p ∈ delL k l ↔ p ∈ l ∧ p.1 ≠ k := by simp [delL]
theorem mem_putL {k : Bs} {a : α} {l : List (Bs × α)} {p : Bs × α} : p ∈ putL k a l ↔ p = (k, a) ∨ (p ∈ l ∧ p.1 ≠ k) := by
  rw [(putL_perm k a l).mem_iff, List.mem_cons, mem_delL]

theorem Rising.del {k : Bs} {l : List (Bs × α)} (h : Rising l) : Rising (delL k l) := List.Pairwise.filter _ h
theorem insL_rising {x : Bs × α} : ∀ {l : List (Bs × α)}, Rising l → (∀ p ∈ l, p.1 ≠ x.1) → Rising (insL x l)
  | [], _, _ => by simp [insL, Rising]
  | y :: r, h, hne => by
    rw [Rising, List.pairwise_cons] at h
    simp only [insL]
    by_cases hb : bytesBefore x.1 y.1 = true
    · rw [if_pos hb, Rising, List.pairwise_cons, List.pairwise_cons]
      refine ⟨fun p hp => ?_, h⟩
      rcases List.mem_cons.1 hp with rfl | hp
      · exact hb
      · exact WideShapes.bytes_trans _ _ _ hb (h.1 p hp)
    · rw [if_neg hb, Rising, List.pairwise_cons]
      refine ⟨fun p hp => ?_, insL_rising h.2 fun p hp => hne p (List.mem_cons_of_mem _ hp)⟩
      rcases List.mem_cons.1 ((insL_perm x r).mem_iff.1 hp) with rfl | hp
      · rcases WideAt.bytes_total y.1 p.1 (hne y (List.mem_cons_self ..)) with h1 | h1
        · exact h1
        · exact absurd h1 hb
      · exact h.1 p hp
theorem Rising.put {k : Bs} {a : α} {l : List (Bs × α)} (h : Rising l) : Rising (putL k a l) := insL_rising h.del fun _ hp => (mem_delL.1 hp).2
theorem Rising.inj {l : List (Bs × α)} (h : Rising l) : ∀ {p q}, p ∈ l → q ∈ l → p.1 = q.1 → p = q := by
  induction l with
  | nil => intro p q hp; simp at hp
  | cons y r ih =>
    rw [Rising, List.pairwise_cons] at h
    intro p q hp hq e
    rcases List.mem_cons.1 hp with rfl | hp' <;> rcases List.mem_cons.1 hq with rfl | hq'
    · rfl
    · have := h.1 q hq'; rw [e, WideAt.bytes_irrefl] at this; cases this
    · have := h.1 p hp'; rw [e, WideAt.bytes_irrefl] at this; cases this
    · exact ih h.2 hp' hq' e
/-- two rising lists of the same members are one -/
theorem Rising.ext {l₁ l₂ : List (Bs × α)} (h1 : Rising l₁) (h2 : Rising l₂) (h : ∀ p, p ∈ l₁ ↔ p ∈ l₂) : l₁ = l₂ := by
  have nd : ∀ {l : List (Bs × α)}, Rising l → l.Nodup := fun hl => List.Pairwise.imp (fun {a b} hab e => by subst e; rw [WideAt.bytes_irrefl] at hab; cases hab) hl
  refine List.Perm.eq_of_pairwise (le := fun (a b : Bs × α) => bytesBefore a.1 b.1 = true) (fun a b ha hb hab hba => ?_) h1 h2 ((List.perm_ext_iff_of_nodup (nd h1) (nd h2)).2 h)
  have := WideShapes.bytes_trans _ _ _ hab hba
  rw [WideAt.bytes_irrefl] at this; cases this

theorem getL_some {l : List (Bs × α)} {k : Bs} {a : α} (h : getL k l = some a) : (k, a) ∈ l := by
  simp only [getL, Option.map_eq_some_iff] at h
  obtain ⟨p, hp, rfl⟩ := h
  have h1 := List.mem_of_find?_eq_some hp
  have h2 := List.find?_some hp
  simp only [beq_iff_eq] at h2
  subst h2
  exact h1
theorem getL_of_mem {l : List (Bs × α)} (hr : Rising l) {k : Bs} {a : α} (h : (k, a) ∈ l) : getL k l = some a := by
  cases hg : getL k l with
  | none =>
    simp only [getL, Option.map_eq_none_iff, List.find?_eq_none] at hg
    exact absurd (by simp) (hg _ h)
  | some b => have := hr.inj (getL_some hg) h rfl; simp only [Prod.mk.injEq, true_and] at this; rw [this]
theorem getL_none {l : List (Bs × α)} {k : Bs} (h : getL k l = none) : ∀ p ∈ l, p.1 ≠ k := by
  simp only [getL, Option.map_eq_none_iff, List.find?_eq_none, beq_iff_eq] at h
  exact h
theorem delL_none {l : List (Bs × α)} {k : Bs} (h : getL k l = none) : delL k l = l := by
  rw [delL, List.filter_eq_self]
  intro p hp
  simpa using getL_none h p hp
theorem putL_same {l : List (Bs × α)} (hr : Rising l) {k : Bs} {a : α} (h : getL k l = some a) : putL k a l = l := by
  refine hr.put.ext hr fun p => ?_
  rw [mem_putL]
  constructor
  · rintro (rfl | ⟨h1, _⟩)
    · exact getL_some h
    · exact h1
  · intro hp
    by_cases e : p.1 = k
    · left; have := hr.inj hp (getL_some h) e; rw [this]
    · exact Or.inr ⟨hp, e⟩
theorem putL_put {l : List (Bs × α)} (hr : Rising l) {k : Bs} {a b : α} : putL k b (putL k a l) = putL k b l := by
  refine hr.put.put.ext hr.put fun p => ?_
  simp only [mem_putL]
  constructor
  · rintro (rfl | ⟨rfl | ⟨h1, h2⟩, h3⟩)
    · exact Or.inl rfl
    · exact absurd rfl h3
    · exact Or.inr ⟨h1, h2⟩
  · rintro (rfl | ⟨h1, h2⟩)
    · exact Or.inl rfl
    · exact Or.inr ⟨Or.inr ⟨h1, h2⟩, h2⟩
theorem getL_put {l : List (Bs × α)} (hr : Rising l) (k : Bs) (a : α) : getL k (putL k a l) = some a := getL_of_mem hr.put (mem_putL.2 (Or.inl rfl))
theorem delL_length {l : List (Bs × α)} (hr : Rising l) {k : Bs} {a : α} (h : getL k l = some a) : (delL k l).length + 1 = l.length := by
  have := (putL_perm k a l).length_eq
  rw [putL_same hr h] at this
  simpa using this.symm

/-- the sum over a list -/
def sumL (g : α → Nat) (l : List (Bs × α)) : Nat := (l.map fun p => g p.2).sum
theorem sumL_perm (g : α → Nat) {l l' : List (Bs × α)} (h : l.Perm l') : sumL g l = sumL g l' := (h.map _).sum_nat
theorem sumL_put (g : α → Nat) (k : Bs) (a : α) (l : List (Bs × α)) : sumL g (putL k a l) = g a + sumL g (delL k l) := by
  rw [sumL_perm g (putL_perm k a l)]; rfl
theorem sumL_del (g : α → Nat) {l : List (Bs × α)} (hr : Rising l) {k : Bs} {a : α} (h : getL k l = some a) : g a + sumL g (delL k l) = sumL g l := by
  rw [← sumL_put, putL_same hr h]
end

/-- a file -/
structure Fil where
  data : Bs
  safe : Nat
abbrev Fls := List (Bs × Fil)
def used (l : Fls) : Nat := sumL (fun f => f.data.length) l

/-- a map's elements as they are -/
abbrev RV : Value → Option (DataW Value × List MemPlace) := fun v => some (.held v, [])
/-- a file as the map has it: its slice, its safe bytes -/
abbrev FV (v : Value) (safe : Nat) : Value := .agg #[v, .int .i64 safe]
abbrev Ent := Value × Fil
def encE (p : Bs × Ent) : Lit × DataW Value := (.string p.1, .held (FV p.2.1 p.2.2.safe))
def DD (l : List (Bs × Ent)) : DataW Value := .map (l.map encE)

theorem DD_has (l : List (Bs × Ent)) (k : Bs) : has (DD l) (.string k) = (getL k l).isSome := by
  simp only [DD, has_eq, getL, Option.isSome_map]
  induction l with
  | nil => rfl
  | cons p r ih =>
    simp only [List.map_cons, List.any_cons, ih, List.find?_cons]
    have : (encE p).1.sameKey (.string k) = (p.1 == k) := rfl
    rw [this]
    cases p.1 == k <;> simp
theorem DD_at (l : List (Bs × Ent)) (k : Bs) (z : DataW Value) : (DD l).atKey (.string k) z = match getL k l with | some x => .held (FV x.1 x.2.safe) | none => z := by
  simp only [DD, DataW.atKey, getL]
  induction l with
  | nil => rfl
  | cons p r ih =>
    simp only [List.map_cons, List.find?_cons]
    have : (encE p).1.sameKey (.string k) = (p.1 == k) := rfl
    rw [this]
    cases p.1 == k
    · exact ih
    · rfl
theorem DD_size (l : List (Bs × Ent)) : Maps.size (DD l) = l.length := by simp [DD, Maps.size]
theorem DD_ins (k : Bs) (x : Ent) : ∀ l : List (Bs × Ent), DataW.insert (encE (k, x)) (l.map encE) = (insL (k, x) l).map encE
  | [] => rfl
  | y :: r => by
    simp only [List.map_cons, DataW.insert, insL]
    have : (encE (k, x)).1.before (encE y).1 = bytesBefore k y.1 := rfl
    rw [this]
    split
    · rfl
    · rw [List.map_cons, DD_ins k x r]
theorem DD_filter (k : Bs) (l : List (Bs × Ent)) : (l.map encE).filter (fun p => !p.1.sameKey (.string k)) = (delL k l).map encE := by
  rw [List.filter_map]; rfl
theorem DD_put (l : List (Bs × Ent)) (k : Bs) (v : Value) (f : Fil) : (DD l).put (.string k) (.held (FV v f.safe)) = DD (putL k (v, f) l) := by
  simp only [DD, DataW.put, DD_filter]
  exact congrArg DataW.map (DD_ins k (v, f) _)
theorem DD_del (l : List (Bs × Ent)) (k : Bs) : (DD l).del (.string k) = DD (delL k l) := by
  simp only [DD, DataW.del, DD_filter]
theorem DD_keys (l : List (Bs × Ent)) : strKeys (DD l) = l.map (·.1) := by
  simp only [strKeys, DD, List.map_map]; rfl
theorem DD_rising {l : List (Bs × Ent)} (h : Canon (DD l)) : Rising l := by
  obtain ⟨es, he, hp, _⟩ := h
  simp only [DD, DataW.map.injEq] at he
  subst he
  exact List.pairwise_map.1 hp

theorem before_le : ∀ (a b : Bs), bytesBefore a b = true → a ≤ b
  | [], _, _ => by simp
  | _ :: _, [], h => by simp [bytesBefore] at h
  | x :: r, y :: s, h => by
    simp only [bytesBefore, Bool.or_eq_true, decide_eq_true_eq, Bool.and_eq_true, beq_iff_eq] at h
    rw [List.cons_le_cons_iff]
    rcases h with h | ⟨rfl, h⟩
    · exact Or.inl h
    · exact Or.inr ⟨rfl, before_le r s h⟩
theorem keys_sorted {α : Type} {l : List (Bs × α)} (h : Rising l) : (l.map (·.1)).mergeSort leB = l.map (·.1) := by
  refine List.mergeSort_of_pairwise (List.pairwise_map.2 (List.Pairwise.imp (fun {a b} hab => ?_) h))
  simp only [leB, decide_eq_true_eq]
  exact before_le _ _ hab

end Go.Proofs.Ytokcknfbanpjjaa.Dk
