/- What a law knows of values: how much was put, what stands where. -/
import Derived.Test.YtgfmnffaknmcnaaGreatDoorVlTwo
namespace Go.Proofs.YtgfmnffaknmcnaaGreatDoor.Vl
open Go.RowKit Go.Joins
open Go.Proofs.YtgfmnffaknmcnaaGreatDoor.Dk (Bs Fil Fls St St.Ok Held Only Rising named getL getL_some getL_none getL_of_mem getL_put putL fileOr used used_put length_put)

theorem append_fits {S : St} {k d : Bs} (hu : Up S) (hn : named k = true) (h1 : used S.files + d.length ≤ S.room) (h2 : S.files.length < 64) : S.append k d = (0, { S with files := putL k ⟨(fileOr k S.files).data ++ d, (fileOr k S.files).safe⟩ S.files }) := by
  unfold St.append
  rw [if_neg (by simp [hn]), if_neg (by omega), hu.do]
/-- how much has been put: k values, each of at most c bytes with its frame -/
structure Vs (S : St) (top c k : Nat) : Prop where
  up : Up S
  room : c * 60 ≤ S.room
  tops : ∀ n ∈ nums S, n ≤ top
  topk : top ≤ k
  used : Dk.used S.files ≤ c * k
  many : S.files.length ≤ k
/-- one value more, in file n -/
def putS (S : St) (n : Nat) (s : ByteArray) : St := { S with files := putL (nm n) ⟨dat S n ++ frm s.data.toList, (fileOr (nm n) S.files).safe⟩ S.files }
theorem dat_fileOr {S : St} {n : Nat} (hn : n ≤ 1048577) : (fileOr (nm n) S.files).data = dat S n := by
  unfold fileOr
  cases hg : getL (nm n) S.files with
  | none => rw [dat_none hn hg]; rfl
  | some f => rw [dat_get hn hg]; rfl
theorem nums_none {S : St} {n : Nat} (h1 : 1 ≤ n) (h2 : n ≤ 1048576) (h : n ∉ nums S) : getL (nm n) S.files = none := by
  cases hg : getL (nm n) S.files with
  | none => rfl
  | some f => exact absurd (nums_of_get h1 h2 hg) h
/-- where the next value comes -/
theorem Vs.next {S : St} {top c k most : Nat} (h : Vs S top c k) (hk : k ≤ 59) (hr : Rising S.files) : ∃ n, endR S most top = some (n, (dat S n).length) ∧ 1 ≤ n ∧ n ≤ top + 1 ∧ (n ∈ nums S ∨ n = top + 1) := by
  have hnew : endR S most top = newR top → ∃ n, endR S most top = some (n, (dat S n).length) ∧ 1 ≤ n ∧ n ≤ top + 1 ∧ (n ∈ nums S ∨ n = top + 1) := fun e => by
    refine ⟨top + 1, ?_, by omega, Nat.le_refl _, Or.inr rfl⟩
    have ht := h.topk
    have hd : dat S (top + 1) = [] := dat_none (by omega) (nums_none (by omega) (by omega) fun hn => by have := h.tops _ hn; omega)
    rw [e, newR, if_neg (by omega), hd]; rfl
  cases hl : (nums S).getLast? with
  | none => exact hnew (by rw [endR, hl])
  | some n =>
    obtain ⟨hm, -⟩ := nums_last (nums_rise hr) hl
    have ht := h.tops n hm
    by_cases hs : (dat S n).length < most
    · exact ⟨n, by rw [endR, hl]; simp only; rw [if_pos hs], (nums_bound hm).1, by omega, Or.inl hm⟩
    · refine hnew ?_
      rw [endR, hl]; simp only; rw [if_neg hs, Nat.max_eq_left ht]
theorem putS_append {S : St} {top c k n : Nat} {s : ByteArray} (h : Vs S top c k) (hk : k ≤ 59) (hn : n ≤ 1048577) (hs : s.size + 8 ≤ c) : S.append (nm n) (frm s.data.toList) = (0, putS S n s) := by
  have h1 := h.used
  have h2 := h.room
  have h3 := h.many
  have h4 : c * k + c ≤ c * 60 := by rw [← Nat.mul_succ]; exact Nat.mul_le_mul_left _ (by omega)
  have := append_fits (k := nm n) (d := frm s.data.toList) h.up (nm_named hn) (by rw [frm_size]; omega) (by omega)
  rw [this, dat_fileOr hn]
  rfl
theorem putS_get {S : St} {n : Nat} {s : ByteArray} (hr : Rising S.files) (k : Bs) : getL k (putS S n s).files = if k = nm n then some ⟨dat S n ++ frm s.data.toList, (fileOr (nm n) S.files).safe⟩ else getL k S.files := by
  by_cases hk : k = nm n
  · subst hk; rw [if_pos rfl]; exact getL_put hr _ _
  · rw [if_neg hk]; exact getL_put_ne hr hk
theorem putS_dat {S : St} {n m : Nat} {s : ByteArray} (hr : Rising S.files) (hm : m ≤ 1048577) : dat (putS S n s) m = if m = n then dat S n ++ frm s.data.toList else dat S m := by
  by_cases h : m = n
  · subst h
    rw [if_pos rfl, dat_get hm (f := ⟨dat S m ++ frm s.data.toList, (fileOr (nm m) S.files).safe⟩) (by rw [putS_get hr, if_pos rfl])]
  · have hne : nm m ≠ nm n := fun e => h (nm_inj e)
    have e := putS_get (s := s) (n := n) hr (nm m)
    rw [if_neg hne] at e
    rw [if_neg h]
    unfold dat St.read
    rw [e]
theorem putS_nums {S : St} {n : Nat} {s : ByteArray} (hr : Rising S.files) (h1 : 1 ≤ n) (h2 : n ≤ 1048576) (m : Nat) : m ∈ nums (putS S n s) ↔ m ∈ nums S ∨ m = n := by
  have hr' : Rising (putS S n s).files := hr.put
  constructor
  · intro hm
    by_cases e : m = n
    · exact Or.inr e
    · obtain ⟨f, hf⟩ := nums_get hr' hm
      rw [putS_get hr, if_neg (fun e' => e (nm_inj e'))] at hf
      exact Or.inl (nums_of_get (nums_bound hm).1 (nums_bound hm).2 hf)
  · rintro (hm | rfl)
    · by_cases e : m = n
      · subst e
        exact nums_of_get h1 h2 (by rw [putS_get hr, if_pos rfl])
      · obtain ⟨f, hf⟩ := nums_get hr hm
        exact nums_of_get (nums_bound hm).1 (nums_bound hm).2 (by rw [putS_get hr, if_neg (fun e' => e (nm_inj e'))]; exact hf)
    · exact nums_of_get h1 h2 (by rw [putS_get hr, if_pos rfl])
theorem Vs.put {S : St} {top c k n : Nat} {s : ByteArray} (h : Vs S top c k) (hk : k ≤ 59) (hr : Rising S.files) (h1 : 1 ≤ n) (h2 : n ≤ top + 1) (hs : s.size + 8 ≤ c) : Vs (putS S n s) (max top n) c (k + 1) := by
  have ht := h.topk
  refine ⟨⟨h.up.fuse, h.up.down⟩, h.room, fun m hm => ?_, by omega, ?_, ?_⟩
  · rcases (putS_nums hr h1 (by omega) m).1 hm with hm | rfl
    · have := h.tops m hm; omega
    · omega
  · have := used_put hr (nm n) (⟨dat S n ++ frm s.data.toList, (fileOr (nm n) S.files).safe⟩ : Fil)
    rw [dat_fileOr (by omega)] at this
    simp only [List.length_append, frm_size] at this
    have h3 := h.used
    show Dk.used (putL _ _ _) ≤ _
    rw [Nat.mul_succ]; omega
  · have := length_put hr (nm n) (⟨dat S n ++ frm s.data.toList, (fileOr (nm n) S.files).safe⟩ : Fil)
    have h3 := h.many
    show (putL _ _ _).length ≤ _
    rw [this]
    split <;> omega
section
variable {w0 w : World} {own : Nat → Prop} {bd bv most top c k : Nat} {S : St}
/-- a value is put -/
theorem VH.put (h : VH w0 w own bd bv most top S) (hs : Vs S top c k) (hk : k ≤ 59) (hc : c ≤ 65544) (s : ByteArray) (hsz : s.size + 8 ≤ c) :
    Calls Tryz.prog 10 #[.pointer (some ⟨bv, 0, none⟩), .string s] w fun e w' => ∃ (n : Nat) (own' : Nat → Prop), e = .returned (.tuple #[.agg #[.int .i64 n, .int .i64 (dat S n).length, .int .i64 s.size], .int .i64 0]) ∧ 1 ≤ n ∧ n ≤ top + 1 ∧ (n ∈ nums S ∨ n = top + 1) ∧ VH w0 w' own' bd bv most (max top n) (putS S n s) ∧ Vs (putS S n s) (max top n) c (k + 1) ∧ Stp (wi own bv) (wi own' bv) w w' ∧ endR S most top = some (n, (dat S n).length) := by
  obtain ⟨n, he, h1, h2, h3⟩ := hs.next (most := most) hk h.ok.rising
  have ht := hs.topk
  have ha := putS_append hs hk (n := n) (by omega) hsz
  have := Put_ok h (by omega) s (by omega) he (by omega) (by rw [ha])
  rw [ha] at this
  refine this.mono ?_
  rintro e w' ⟨rfl, own', hV, hst⟩
  exact ⟨n, own', rfl, h1, h2, h3, hV, hs.put hk h.ok.rising h1 h2 hsz, hst, he⟩
end

/-! what stands where -/
/-- a value stands at a place -/
def In (S : St) (p : Nat × Nat × Nat) (t : ByteArray) : Prop := 1 ≤ p.1 ∧ p.1 ≤ 1048576 ∧ ∃ xs b f, getL (nm p.1) S.files = some f ∧ f.data = vfr (xs ++ [t]) ++ b ∧ mayV (xs ++ [t]) ∧ p.2.1 = lens xs ∧ p.2.2 = t.size
/-- all files are whole frames -/
def Cln (S : St) : Prop := ∀ n, n ≤ 1048577 → ∃ vs, mayV vs ∧ dat S n = vfr vs
theorem In.file {S : St} {p : Nat × Nat × Nat} {t : ByteArray} (h : In S p t) : p.1 ∈ nums S := by
  obtain ⟨h1, h2, xs, b, f, hf, _⟩ := h
  exact nums_of_get h1 h2 hf
theorem In.le {S : St} {p : Nat × Nat × Nat} {t : ByteArray} (h : In S p t) : p.2.1 + p.2.2 + 8 ≤ (dat S p.1).length := by
  obtain ⟨h1, h2, xs, b, f, hf, hd, _, e1, e2⟩ := h
  rw [dat_get (by omega) hf, hd, List.length_append, vfr_length, lens_snoc]; omega
theorem In.put {S : St} {p : Nat × Nat × Nat} {t s : ByteArray} {n : Nat} (h : In S p t) (hr : Rising S.files) : In (putS S n s) p t := by
  obtain ⟨h1, h2, xs, b, f, hf, hd, hm, e1, e2⟩ := h
  by_cases e : p.1 = n
  · refine ⟨h1, h2, xs, b ++ frm s.data.toList, ⟨dat S n ++ frm s.data.toList, (fileOr (nm n) S.files).safe⟩, by rw [putS_get hr, e, if_pos rfl], ?_, hm, e1, e2⟩
    simp only
    rw [← e, dat_get (by omega) hf, hd, List.append_assoc]
  · exact ⟨h1, h2, xs, b, f, by rw [putS_get hr, if_neg (fun e' => e (nm_inj e'))]; exact hf, hd, hm, e1, e2⟩
theorem In.new {S : St} {s : ByteArray} {n : Nat} (hc : Cln S) (hr : Rising S.files) (h1 : 1 ≤ n) (h2 : n ≤ 1048576) (hs : s.size ≤ 65536) : In (putS S n s) (n, (dat S n).length, s.size) s := by
  obtain ⟨vs, hm, hd⟩ := hc n (by omega)
  refine ⟨h1, h2, vs, [], ⟨dat S n ++ frm s.data.toList, (fileOr (nm n) S.files).safe⟩, by rw [putS_get hr, if_pos rfl], ?_, fun t ht => ?_, ?_, rfl⟩
  · simp only
    rw [hd, vfr_snoc, List.append_nil]
  · rcases List.mem_append.1 ht with ht | ht
    · exact hm t ht
    · rw [List.mem_singleton.1 ht]; exact hs
  · simp only
    rw [hd, vfr_length]
theorem Cln.put {S : St} {s : ByteArray} {n : Nat} (hc : Cln S) (hr : Rising S.files) (hs : s.size ≤ 65536) : Cln (putS S n s) := fun m hm => by
  rw [putS_dat hr hm]
  by_cases e : m = n
  · subst e
    rw [if_pos rfl]
    obtain ⟨vs, h1, h2⟩ := hc m hm
    refine ⟨vs ++ [s], fun t ht => ?_, by rw [h2, vfr_snoc]⟩
    rcases List.mem_append.1 ht with ht | ht
    · exact h1 t ht
    · rw [List.mem_singleton.1 ht]; exact hs
  · rw [if_neg e]; exact hc m hm
/-- what Get answers there, in a file of the first q bytes -/
theorem getR_in {xs : List ByteArray} {t : ByteArray} {b : Bs} (hm : mayV (xs ++ [t])) (q : Nat) (hq : q ≤ (vfr (xs ++ [t]) ++ b).length) :
    getR ⟨((vfr (xs ++ [t]) ++ b).take q).toArray⟩ (lens xs : Nat) (t.size : Nat) = if lens xs + t.size + 8 ≤ q then (t, 0) else (⟨#[]⟩, 110) := by
  have hsz : (ByteArray.mk ((vfr (xs ++ [t]) ++ b).take q).toArray).size = q := by show Array.size _ = _; rw [List.size_toArray, List.length_take]; omega
  have ht : t.data.toList.length ≤ 65536 := by rw [← Lib.size_eq]; exact hm t (by simp)
  have hd : ((vfr (xs ++ [t]) ++ b).take q).drop (lens xs) = (frm t.data.toList ++ b).take (q - lens xs) := by
    rw [List.drop_take, vfr_snoc, List.append_assoc]
    congr 1
    exact List.drop_left' (vfr_length xs)
  have htl : (ByteArray.mk ((vfr (xs ++ [t]) ++ b).take q).toArray).data.toList = (vfr (xs ++ [t]) ++ b).take q := by simp
  by_cases hq2 : lens xs + t.size + 8 ≤ q
  · have he : (frm t.data.toList ++ b).take (q - lens xs) = frm t.data.toList ++ b.take (q - lens xs - (t.size + 8)) := by
      rw [List.take_append, List.take_of_length_le (by rw [frm_size]; omega), frm_size]
    have hU : unframe ⟨((vfr (xs ++ [t]) ++ b).take q).toArray⟩ (lens xs : Nat) = (⟨t.data.toList.toArray⟩, ((lens xs : Nat) : Int) + (t.data.toList.length + 8 : Nat), 0, 0) := unframe_good (by rw [hsz]; omega) (by rw [htl, hd, he]; exact unf_frame _ _ ht)
    have ht2 : ByteArray.mk t.data.toList.toArray = t := by apply ByteArray.ext; simp
    rw [ht2] at hU
    rw [getR, hU, if_pos hq2, if_pos ⟨rfl, rfl⟩]
  · rw [if_neg hq2]
    by_cases hq3 : q < lens xs
    · have hU : unframe ⟨((vfr (xs ++ [t]) ++ b).take q).toArray⟩ (lens xs : Nat) = (⟨#[]⟩, 0, 0, 1) := by rw [unframe, hsz, if_pos (Or.inr (by omega))]
      rw [getR, hU, if_neg (by simp)]
    · have hl := frm_size t
      have he : (frm t.data.toList ++ b).take (q - lens xs) = (frm t.data.toList).take (q - lens xs) := List.take_append_of_le_length (by omega)
      have hU : unframe ⟨((vfr (xs ++ [t]) ++ b).take q).toArray⟩ (lens xs : Nat) = (⟨#[]⟩, 0, ((lens xs : Nat) : Int), ((11 : Nat) : Int)) := unframe_bad (by rw [hsz]; omega) (by rw [htl, hd, he]; exact unf_torn _ ht _ (by omega)) (by decide)
      rw [getR, hU, if_neg (by simp)]
theorem In.get {S : St} {p : Nat × Nat × Nat} {t : ByteArray} (h : In S p t) : getR ⟨(dat S p.1).toArray⟩ (p.2.1 : Nat) (p.2.2 : Nat) = (t, 0) := by
  have hle := h.le
  obtain ⟨h1, h2, xs, b, f, hf, hd, hm, e1, e2⟩ := h
  have hdd := dat_get (by omega) hf
  have := getR_in (b := b) hm (vfr (xs ++ [t]) ++ b).length (Nat.le_refl _)
  rw [List.take_length, ← hd, ← hdd] at this
  rw [e1, e2, this, if_pos (by omega)]

end Go.Proofs.YtgfmnffaknmcnaaGreatDoor.Vl
