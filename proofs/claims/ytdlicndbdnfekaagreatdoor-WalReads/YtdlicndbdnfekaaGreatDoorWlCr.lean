/- A crash, and what Open leaves, in plain mathematics. -/
import Derived.Test.YtdlicndbdnfekaaGreatDoorWlSt
namespace Go.Proofs.YtdlicndbdnfekaaGreatDoor.Wl
open Go.Proofs.YtdlicndbdnfekaaGreatDoor.Dk (Bs named Fil Fls St St.Ok getL putL delL Rising getL_of_mem getL_some getL_none mem_putL mem_delL getL_put syncL crashL tornF keptOf keptOf_le fileOr used)

theorem nil_or_snoc {α : Type} (l : List α) : l = [] ∨ ∃ a s, l = a ++ [s] := by
  rcases List.eq_nil_or_concat l with h | ⟨a, s, h⟩
  · exact Or.inl h
  · exact Or.inr ⟨a, s, by rw [h, List.concat_eq_append]⟩
def Clean (l : List Sg) : Prop := ∀ s ∈ l, s.tl = []
def allRecs (l : List Sg) : List Rec := l.flatMap (·.recs)
theorem allRecs_append (a b : List Sg) : allRecs (a ++ b) = allRecs a ++ allRecs b := by simp [allRecs]
theorem allRecs_one (s : Sg) : allRecs [s] = s.recs := by simp [allRecs]

/-- a whole segment stays through a crash -/
theorem crash_whole {S : St} {l : List Sg} {s : Sg} (h : On S l) (hs : s ∈ l) (hf : s.safe = s.data.length) (ds : List Int) : getL (nm s.first) (crashL S.files ds) = some s.fil := by
  obtain ⟨m, h1, h2, h3⟩ := getL_crash (nm s.first) S.files ds s.fil (h.has s hs) (Nat.le_of_eq hf)
  have hm : m = s.data.length := by simp only [Sg.fil] at h1 h2; omega
  rw [h3, hm]
  simp only [Sg.fil, List.take_length]
  congr 1
  rw [hf]
/-- behind a crash there are as many whole records as were safe, or more -/
theorem crash_log {S : St} {a : List Sg} {s : Sg} {n m : Nat} (h : On S (a ++ [s])) (hl : Lg (a ++ [s]) n m) (ht : s.tl = []) (ds : List Int) (hd : ds.length ≤ 4096) :
    ∃ j t, j ≤ s.recs.length ∧ (S.crash ds).1 = 0 ∧ Up (S.crash ds).2 ∧
      On (S.crash ds).2 (a ++ [⟨s.first, s.recs.take j, t, (frs s.first (s.recs.take j)).length + t.length⟩]) ∧
      Lg (a ++ [⟨s.first, s.recs.take j, t, (frs s.first (s.recs.take j)).length + t.length⟩]) n (s.first + j) ∧
      (∀ i, i ≤ s.recs.length → (frs s.first (s.recs.take i)).length ≤ s.safe → i ≤ j) := by
  have e : S.crash ds = (0, { S with files := crashL S.files ds, fuse := -1, down := false }) := by unfold St.crash; rw [if_neg (by omega)]
  obtain ⟨h1, h2, h3, h4, h5, h6, h7⟩ := Lg.snoc.1 hl
  have hda : s.data = frs s.first s.recs := by rw [Sg.data, ht, List.append_nil]
  obtain ⟨q, q1, q2, q3⟩ := getL_crash (nm s.first) S.files ds s.fil (h.has s (by simp)) h7
  simp only [Sg.fil, hda] at q1 q2 q3
  obtain ⟨j, t, hj, hto, hc1, hc2, hc3⟩ := frs_cut s.recs s.first q h5 q2
  refine ⟨j, t, hj, by rw [e], by rw [e]; exact ⟨rfl, rfl⟩, ?_, ?_, fun i hi hi2 => hc3 i hi (by omega)⟩
  · rw [e]
    constructor
    · intro x hx
      rcases List.mem_append.1 hx with hx | hx
      · exact crash_whole h (List.mem_append_left _ hx) (h3 x hx).2.2 ds
      · rw [List.mem_singleton.1 hx]
        show getL (nm s.first) (crashL S.files ds) = _
        rw [q3]
        simp only [Sg.fil, Sg.data, hc1]
        rw [← hc2]
    · intro p hp
      obtain ⟨p', hp', ep⟩ := crash_keys _ _ _ hp
      obtain ⟨x, hx, ex⟩ := h.all p' hp'
      rcases List.mem_append.1 hx with hx | hx
      · exact ⟨x, List.mem_append_left _ hx, ep.trans ex⟩
      · rw [List.mem_singleton.1 hx] at ex
        exact ⟨_, List.mem_append_right _ (List.mem_singleton.2 rfl), ep.trans ex⟩
  · refine Lg.snoc.2 ⟨h1, ?_, h3, h4, fun r hr => h5 r (List.mem_of_mem_take hr), hto, ?_⟩
    · simp only [Sg.last, List.length_take]; omega
    · simp only [Sg.data, List.length_append]; omega
theorem crash_none {S : St} (h : On S []) (ds : List Int) (hd : ds.length ≤ 4096) : (S.crash ds).1 = 0 ∧ Up (S.crash ds).2 ∧ On (S.crash ds).2 [] := by
  have e : S.crash ds = (0, { S with files := crashL S.files ds, fuse := -1, down := false }) := by unfold St.crash; rw [if_neg (by omega)]
  rw [e]
  refine ⟨rfl, ⟨rfl, rfl⟩, by simp, fun p hp => ?_⟩
  obtain ⟨p', hp', _⟩ := crash_keys _ _ _ hp
  obtain ⟨x, hx, _⟩ := h.all p' hp'
  simp at hx

/-- the segments that Open leaves -/
def opened : List Sg → List Sg
  | [] => []
  | l@(_ :: _) => if l.getLast?.any (fun s => s.recs.isEmpty) = true ∧ 1 < l.length then l.dropLast else l.dropLast ++ (l.getLast?.map fun s => { s with tl := [], safe := min s.safe s.bytes }).toList
theorem opened_snoc (a : List Sg) (s : Sg) : opened (a ++ [s]) = if s.recs = [] ∧ a ≠ [] then a else a ++ [{ s with tl := [], safe := min s.safe s.bytes }] := by
  have hn : a ++ [s] ≠ [] := by simp
  obtain ⟨x, l, e⟩ := List.exists_cons_of_ne_nil hn
  have : opened (a ++ [s]) = if (a ++ [s]).getLast?.any (fun s => s.recs.isEmpty) = true ∧ 1 < (a ++ [s]).length then (a ++ [s]).dropLast else (a ++ [s]).dropLast ++ ((a ++ [s]).getLast?.map fun s => { s with tl := [], safe := min s.safe s.bytes }).toList := by
    rw [e]; rfl
  rw [this, List.dropLast_concat, List.getLast?_concat]
  have h1 : (1 < (a ++ [s]).length) = (a ≠ []) := by
    simp [← List.length_pos_iff]
  simp only [Option.any_some, List.isEmpty_iff, h1, Option.map_some, Option.toList_some]
theorem opened_clean {l : List Sg} {n m : Nat} (h : Lg l n m) : Clean (opened l) := by
  rcases nil_or_snoc l with rfl | ⟨a, s, rfl⟩
  · simp [opened, Clean]
  · obtain ⟨_, _, h3, _⟩ := Lg.snoc.1 h
    rw [opened_snoc]
    split
    · intro t ht; exact (h3 t ht).2.1
    · intro t ht
      rcases List.mem_append.1 ht with ht | ht
      · exact (h3 t ht).2.1
      · rw [List.mem_singleton.1 ht]
theorem opened_lg {l : List Sg} {n m : Nat} (h : Lg l n m) : Lg (opened l) n m := by
  rcases nil_or_snoc l with rfl | ⟨a, s, rfl⟩
  · exact h
  · obtain ⟨h1, h2, h3, h4, h5, h6, h7⟩ := Lg.snoc.1 h
    rw [opened_snoc]
    split
    · rename_i hc
      have hm : s.first = m := by rw [← h2, Sg.last, hc.1]; rfl
      refine ⟨hm ▸ h1, fun t ht => h3 t (List.dropLast_subset _ ht), h4, fun t ht => by rw [(h3 t ht).2.1]; exact Torn.nil, fun t ht => Nat.le_of_eq (h3 t ht).2.2⟩
    · exact Lg.snoc.2 ⟨h1, h2, h3, h4, h5, Torn.nil, by simp only [Sg.data, List.append_nil]; exact Nat.min_le_right _ _⟩
theorem opened_recs (l : List Sg) : allRecs (opened l) = allRecs l := by
  rcases nil_or_snoc l with rfl | ⟨a, s, rfl⟩
  · rfl
  · rw [opened_snoc]
    split
    · rename_i hc; rw [allRecs_append, allRecs_one, hc.1, List.append_nil]
    · rw [allRecs_append, allRecs_append, allRecs_one, allRecs_one]
/-- all is safe that Open leaves, if all was -/
def AllSafe (l : List Sg) : Prop := ∀ s ∈ l, s.safe = s.data.length
theorem opened_safe {l : List Sg} {n m : Nat} (h : Lg l n m) (hs : AllSafe l) : AllSafe (opened l) := by
  rcases nil_or_snoc l with rfl | ⟨a, s, rfl⟩
  · exact hs
  · rw [opened_snoc]
    split
    · intro t ht; exact hs t (List.mem_append_left _ ht)
    · intro t ht
      rcases List.mem_append.1 ht with ht | ht
      · exact hs t (List.mem_append_left _ ht)
      · rw [List.mem_singleton.1 ht]
        have := hs s (by simp)
        simp only [Sg.data, List.append_nil, List.length_append, Sg.bytes] at this ⊢
        omega
/-- opened again it is the same -/
theorem opened_again {l : List Sg} {n m : Nat} (h : Lg l n m) (hc : Clean l) (hs : AllSafe l) (hr : ∀ a s, l = a ++ [s] → s.recs = [] → a = []) : opened l = l := by
  rcases nil_or_snoc l with rfl | ⟨a, s, rfl⟩
  · rfl
  · rw [opened_snoc, if_neg (fun hh => hh.2 (hr a s rfl hh.1))]
    have h1 := hc s (by simp)
    have h2 := hs s (by simp)
    simp only [Sg.data, h1, List.append_nil] at h2
    congr 2
    cases s with
    | mk f r t sa =>
      simp only at h1 h2
      subst h1
      simp only [Sg.bytes, h2, Nat.min_self]
/-- a last segment without a record is the only one -/
theorem opened_last {l : List Sg} {n m : Nat} (h : Lg l n m) : ∀ a s, opened l = a ++ [s] → s.recs = [] → a = [] := by
  rcases nil_or_snoc l with rfl | ⟨b, t, rfl⟩
  · intro a s e; simp [opened] at e
  · obtain ⟨h1, h2, h3, h4, h5, h6, h7⟩ := Lg.snoc.1 h
    intro a s e hs
    rw [opened_snoc] at e
    split at e
    · exact absurd hs (h3 s (by rw [e]; simp)).1
    · rename_i hc
      obtain ⟨rfl, e2⟩ := List.append_inj' e rfl
      have e3 : t.recs = s.recs := by rw [List.cons.injEq] at e2; rw [← e2.1]
      by_cases hb : b = []
      · exact hb
      · exact absurd ⟨e3.trans hs, hb⟩ hc

end Go.Proofs.YtdlicndbdnfekaaGreatDoor.Wl
