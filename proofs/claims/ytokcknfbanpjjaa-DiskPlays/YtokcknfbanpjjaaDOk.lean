/- What a disk is stays in its bounds, whatever is called. -/
import Derived.Test.YtokcknfbanpjjaaDState
namespace Go.Proofs.Ytokcknfbanpjjaa.Dk
open Go.Maps

theorem used_put {l : Fls} (hr : Rising l) (k : Bs) (f : Fil) : used (putL k f l) + (fileOr k l).data.length = used l + f.data.length := by
  unfold used fileOr
  rw [sumL_put]
  cases hg : getL k l with
  | none => rw [delL_none hg]; simp; omega
  | some x => have := sumL_del (fun f : Fil => f.data.length) hr hg; simp only [Option.getD_some]; omega
theorem length_put {α : Type} {l : List (Bs × α)} (hr : Rising l) (k : Bs) (f : α) : (putL k f l).length = if (getL k l).isSome then l.length else l.length + 1 := by
  rw [(putL_perm k f l).length_eq, List.length_cons]
  cases hg : getL k l with
  | none => rw [delL_none hg]; rfl
  | some x => rw [delL_length hr hg]; rfl
theorem used_del {l : Fls} (hr : Rising l) {k : Bs} {f : Fil} (hg : getL k l = some f) : used (delL k l) + f.data.length = used l := by
  have := sumL_del (fun f : Fil => f.data.length) hr hg
  unfold used; omega
theorem used_del_le {l : Fls} (hr : Rising l) (k : Bs) : used (delL k l) ≤ used l := by
  cases hg : getL k l with
  | none => rw [delL_none hg]; exact Nat.le_refl _
  | some f => have := used_del hr hg; omega

theorem St.Ok.take {S : St} (h : S.Ok) : S.take.2.Ok := ⟨h.sum, h.room, h.many, h.rising, h.each, taken_f0 h.f0, taken_f1 h.f1 h.f0⟩
theorem St.Ok.do {S : St} (h : S.Ok) {g : Fls → Fls} (h1 : used (g S.files) ≤ S.room) (h2 : (g S.files).length ≤ 64) (h3 : Rising (g S.files)) (h4 : ∀ p ∈ g S.files, named p.1 = true ∧ p.2.safe ≤ p.2.data.length) : (S.do g).2.Ok := by
  unfold St.do
  split
  · exact ⟨h1, h.room, h2, h3, h4, h.take.f0, h.take.f1⟩
  · exact h.take
theorem St.Ok.append {S : St} (h : S.Ok) (k d : Bs) : (S.append k d).2.Ok := by
  unfold St.append
  split
  · exact h
  · split
    · exact h
    · rename_i hn hsp
      have hu := used_put h.rising k ⟨(fileOr k S.files).data ++ d, (fileOr k S.files).safe⟩
      simp only [List.length_append] at hu
      refine h.do (by omega) ?_ h.rising.put fun p hp => ?_
      · rw [length_put h.rising]
        have := h.many
        cases hg : getL k S.files with
        | none =>
          have : ¬ 64 ≤ S.files.length := fun e => hsp (Or.inr ⟨hg, e⟩)
          simp; omega
        | some x => simp; omega
      · rcases mem_putL.1 hp with rfl | ⟨hp, _⟩
        · refine ⟨by simpa using hn, ?_⟩
          simp only [List.length_append]
          cases hg : getL k S.files with
          | none => simp [fileOr, hg]
          | some x => have := (h.each _ (getL_some hg)).2; simp only [fileOr, hg, Option.getD_some] at *; omega
        · exact h.each p hp
theorem St.Ok.cut {S : St} (h : S.Ok) (k : Bs) (n : Int) : (S.cut k n).2.Ok := by
  unfold St.cut
  split
  · exact h
  · rename_i hn
    split
    · exact h
    · rename_i f hg
      split
      · exact h
      · have hu := used_put h.rising k ⟨f.data.take n.toNat, min f.safe n.toNat⟩
        simp only [fileOr, hg, Option.getD_some, List.length_take] at hu
        have hs := h.sum
        have he := h.each _ (getL_some hg)
        simp only at he
        refine h.do (by omega) (by rw [length_put h.rising, hg]; exact h.many) h.rising.put fun p hp => ?_
        rcases mem_putL.1 hp with rfl | ⟨hp, _⟩
        · exact ⟨he.1, by simp only [List.length_take]; omega⟩
        · exact h.each p hp
theorem St.Ok.remove {S : St} (h : S.Ok) (k : Bs) : (S.remove k).2.Ok := by
  unfold St.remove
  split
  · exact h
  · split
    · exact h
    · exact h.do (Nat.le_trans (used_del_le h.rising k) h.sum) (Nat.le_trans (List.length_filter_le _ _) h.many) h.rising.del fun p hp => h.each p (mem_delL.1 hp).1
theorem getL_delL {α : Type} (a b : Bs) (l : List (Bs × α)) : getL b (delL a l) = if b = a then none else getL b l := by
  induction l with
  | nil => simp [delL, getL]
  | cons p r ih =>
    unfold delL getL at *
    by_cases h1 : p.1 = a
    · rw [List.filter_cons_of_neg (by simp [h1]), ih]
      split
      · rfl
      · rename_i hne; rw [List.find?_cons_of_neg (by simp; intro e; exact hne (by rw [← e, h1]))]
    · rw [List.filter_cons_of_pos (by simp [h1])]
      by_cases h2 : p.1 = b
      · rw [List.find?_cons_of_pos (by simp [h2])]
        have : ¬ b = a := fun e => h1 (by rw [h2, e])
        rw [if_neg this, List.find?_cons_of_pos (by simp [h2])]
      · rw [List.find?_cons_of_neg (by simp [h2]), ih, List.find?_cons_of_neg (by simp [h2])]
theorem St.Ok.rename {S : St} (h : S.Ok) (a b : Bs) : (S.rename a b).2.Ok := by
  unfold St.rename
  split
  · exact h
  · rename_i hn
    split
    · exact h
    · rename_i f hg
      have hr := h.rising.del (k := a)
      have hu := used_put hr b f
      have hd := used_del h.rising hg
      have hs := h.sum
      refine h.do (by omega) ?_ hr.put fun p hp => ?_
      · rw [length_put hr]
        have := delL_length h.rising hg
        have := h.many
        split <;> omega
      · rcases mem_putL.1 hp with rfl | ⟨hp, _⟩
        · exact ⟨by simp only [not_or, Bool.not_eq_false] at hn; exact hn.2, (h.each _ (getL_some hg)).2⟩
        · exact h.each p (mem_delL.1 hp).1
theorem rising_map {α β : Type} {l : List (Bs × α)} (h : Rising l) (f : Bs × α → β) : Rising (l.map fun p => (p.1, f p)) := List.pairwise_map.2 h
theorem used_syncL (l : Fls) : used (syncL l) = used l := by simp [used, sumL, syncL, Function.comp_def]
theorem St.Ok.sync {S : St} (h : S.Ok) : S.sync.2.Ok := by
  refine h.do (by rw [used_syncL]; exact h.sum) (by simpa [syncL] using h.many) (rising_map h.rising _) fun p hp => ?_
  simp only [syncL, List.mem_map] at hp
  obtain ⟨q, hq, rfl⟩ := hp
  exact ⟨(h.each q hq).1, Nat.le_refl _⟩
theorem St.Ok.light {S : St} (h : S.Ok) (n : Int) (hn : n ≤ 9223372036854775807) : (S.light n).2.Ok := by
  unfold St.light
  split
  · exact h
  · exact ⟨h.sum, h.room, h.many, h.rising, h.each, by show -1 ≤ n; omega, hn⟩
theorem crashL_keys : ∀ (l : Fls) (ds : List Int), (crashL l ds).map (·.1) = l.map (·.1)
  | [], _ => rfl
  | p :: r, ds => by
    unfold crashL; split
    · rw [List.map_cons, List.map_cons, crashL_keys r ds]
    · rw [List.map_cons, List.map_cons, crashL_keys r ds.tail]
theorem crashL_used : ∀ (l : Fls) (ds : List Int), used (crashL l ds) ≤ used l
  | [], _ => Nat.le_refl _
  | p :: r, ds => by
    unfold crashL; split
    · have := crashL_used r ds
      simp only [used, sumL, List.map_cons, List.sum_cons] at *; omega
    · have := crashL_used r ds.tail
      simp only [used, sumL, List.map_cons, List.sum_cons, tornF, List.length_take] at *; omega
theorem crashL_each : ∀ (l : Fls) (ds : List Int), (∀ p ∈ l, named p.1 = true ∧ p.2.safe ≤ p.2.data.length) → ∀ p ∈ crashL l ds, named p.1 = true ∧ p.2.safe ≤ p.2.data.length
  | [], _, _ => by simp [crashL]
  | q :: r, ds, h => by
    intro p hp
    have h1 := h q (List.mem_cons_self ..)
    unfold crashL at hp; split at hp
    · rcases List.mem_cons.1 hp with rfl | hp
      · exact h1
      · exact crashL_each r ds (fun x hx => h x (List.mem_cons_of_mem _ hx)) p hp
    · rcases List.mem_cons.1 hp with rfl | hp
      · have := keptOf_le (ds.headD 0) (q.2.data.length - q.2.safe)
        exact ⟨h1.1, by simp only [tornF, List.length_take]; omega⟩
      · exact crashL_each r ds.tail (fun x hx => h x (List.mem_cons_of_mem _ hx)) p hp
theorem rising_keys {α β : Type} {l : List (Bs × α)} {l' : List (Bs × β)} (h : Rising l) (hk : l'.map (·.1) = l.map (·.1)) : Rising l' := by
  have h1 : (l.map (·.1)).Pairwise fun a b => bytesBefore a b = true := List.pairwise_map.2 h
  rw [← hk] at h1
  exact List.pairwise_map.1 h1
theorem St.Ok.crash {S : St} (h : S.Ok) (ds : List Int) : (S.crash ds).2.Ok := by
  unfold St.crash
  split
  · exact h
  · refine ⟨Nat.le_trans (crashL_used _ _) h.sum, h.room, ?_, rising_keys h.rising (crashL_keys _ _), crashL_each _ _ h.each, by show (-1 : Int) ≤ -1; omega, by show (-1 : Int) ≤ _; omega⟩
    have := congrArg List.length (crashL_keys S.files ds)
    simp only [List.length_map] at this
    show (crashL S.files ds).length ≤ 64
    rw [this]; exact h.many

end Go.Proofs.Ytokcknfbanpjjaa.Dk
