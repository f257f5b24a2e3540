/- ValsBack in plain mathematics: how many values there are. -/
import Derived.Test.YtlojajgehaiefaaGreatDoorVlSafeP
namespace Go.Proofs.YtlojajgehaiefaaGreatDoor.Vl
open Go.RowKit Go.Joins
open Go.Proofs.YtlojajgehaiefaaGreatDoor.Dk (Bs Fil Fls St St.Ok Held Only Rising named getL getL_some getL_none)

/-- how many values a file has -/
def many (S : St) (n : Nat) : Nat := (plcsOf n ⟨(dat S n).toArray⟩).length
theorem many_eq (S : St) (n : Nat) : many S n = (frames ⟨(dat S n).toArray⟩).1.length := plcs_length _ _ _
def cnt (S : St) : Nat := ((nums S).map (many S)).sum
theorem many_put {S : St} {n m : Nat} {s : ByteArray} (hc : Cln S) (hr : Rising S.files) (hs : s.size ≤ 65536) (hm : m ≤ 1048577) : many (putS S n s) m = if m = n then many S n + 1 else many S m := by
  rw [many_eq, many_eq, many_eq, putS_dat hr hm]
  by_cases e : m = n
  · subst e
    rw [if_pos rfl, if_pos rfl]
    obtain ⟨vs, h1, h2⟩ := hc m hm
    have h3 : mayV (vs ++ [s]) := fun t ht => by
      rcases List.mem_append.1 ht with ht | ht
      · exact h1 t ht
      · rw [List.mem_singleton.1 ht]; exact hs
    rw [h2, ← vfr_snoc, frames_clean _ h3, frames_clean _ h1]
    simp
  · rw [if_neg e, if_neg e]
theorem sum_upd {f g : Nat → Nat} {n : Nat} (hn : g n = f n + 1) : ∀ l : List Nat, l.Pairwise (· < ·) → n ∈ l → (∀ m ∈ l, m ≠ n → g m = f m) → (l.map g).sum = (l.map f).sum + 1
  | [], _, h, _ => by simp at h
  | x :: l, hl, h, he => by
    have hp := List.pairwise_cons.1 hl
    simp only [List.map_cons, List.sum_cons]
    by_cases e : x = n
    · subst e
      have : l.map g = l.map f := List.map_congr_left fun m hm => he m (List.mem_cons_of_mem _ hm) (by have := hp.1 m hm; omega)
      rw [this, hn]; omega
    · have hm : n ∈ l := by
        rcases List.mem_cons.1 h with h | h
        · exact absurd h.symm e
        · exact h
      rw [sum_upd hn l hp.2 hm fun m hm hne => he m (List.mem_cons_of_mem _ hm) hne, he x (List.mem_cons_self ..) e]; omega
theorem cnt_put {S : St} {n top : Nat} {s : ByteArray} (hc : Cln S) (hr : Rising S.files) (hs : s.size ≤ 65536) (h1 : 1 ≤ n) (h2 : n ≤ 1048576) (ht : ∀ m ∈ nums S, m ≤ top) (hn : n ∈ nums S ∨ n = top + 1) : cnt (putS S n s) = cnt S + 1 := by
  have hr' : Rising (putS S n s).files := hr.put
  have hself : many (putS S n s) n = many S n + 1 := by rw [many_put hc hr hs (by omega), if_pos rfl]
  have hoth : ∀ m ∈ nums S, m ≠ n → many (putS S n s) m = many S m := fun m hm e => by rw [many_put hc hr hs (by have := nums_bound hm; omega), if_neg e]
  unfold cnt
  by_cases hin : n ∈ nums S
  · have e : nums (putS S n s) = nums S := rise_ext (nums_rise hr') (nums_rise hr) fun m => by
      rw [putS_nums hr h1 h2]
      exact ⟨fun h => h.elim id fun e => e ▸ hin, Or.inl⟩
    rw [e]
    exact sum_upd hself _ (nums_rise hr) hin hoth
  · have hnt : n = top + 1 := hn.resolve_left hin
    have e : nums (putS S n s) = nums S ++ [n] := rise_ext (nums_rise hr') (List.pairwise_append.2 ⟨nums_rise hr, by simp, fun a ha b hb => by have := ht a ha; rw [List.mem_singleton.1 hb]; omega⟩) fun m => by
      rw [putS_nums hr h1 h2]; simp
    have hd : dat S n = [] := dat_none (by omega) (nums_none h1 h2 hin)
    have h0 : many S n = 0 := by
      rw [many_eq, hd]
      have := frames_clean [] (by simp [mayV])
      simp only [show vfr [] = [] from rfl] at this
      rw [this]; rfl
    rw [e, List.map_append, List.sum_append, List.map_congr_left fun m hm => hoth m hm (fun e => hin (e ▸ hm))]
    simp only [List.map_cons, List.map_nil, List.sum_cons, List.sum_nil]
    omega
/-- a value's place is among its file's -/
theorem In.among {S : St} {p : Nat × Nat × Nat} {t : ByteArray} (h : In S p t) : p ∈ plcsOf p.1 ⟨(dat S p.1).toArray⟩ := by
  obtain ⟨h1, h2, xs, b, f, hf, hd, hm, e1, e2⟩ := h
  obtain ⟨zs, hz, -⟩ := frames_has (xs ++ [t]) b hm
  have : (frames ⟨(dat S p.1).toArray⟩).1 = xs ++ [t] ++ zs := by rw [dat_get (by omega) hf, hd]; exact hz
  unfold plcsOf
  rw [this]
  have key : ∀ (l : List ByteArray) (q : Nat), p ∈ plcs p.1 q (xs ++ [t]) → p ∈ plcs p.1 q (xs ++ [t] ++ l) := by
    intro l q
    generalize xs ++ [t] = ys
    induction ys generalizing q with
    | nil => intro h; simp [plcs] at h
    | cons y ys ih =>
      intro h
      simp only [List.cons_append, plcs] at h ⊢
      rcases List.mem_cons.1 h with h | h
      · exact List.mem_cons.2 (Or.inl h)
      · exact List.mem_cons_of_mem _ (ih _ h)
  refine key zs 0 ?_
  rw [plcs_snoc, Nat.zero_add]
  exact List.mem_append_right _ (List.mem_singleton.2 (by rw [← e1, ← e2]))
/-- a new place is another one -/
theorem In.other {S : St} {p : Nat × Nat × Nat} {t : ByteArray} (h : In S p t) {n : Nat} (e : p.1 = n) : p.2.1 ≠ (dat S n).length := by
  have := h.le
  rw [e] at this
  omega

end Go.Proofs.YtlojajgehaiefaaGreatDoor.Vl
