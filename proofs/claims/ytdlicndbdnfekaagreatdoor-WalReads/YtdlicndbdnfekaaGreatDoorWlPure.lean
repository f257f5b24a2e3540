/- The plain mathematics of layer 10: a segment's name, a record's frame, frames one behind the other, frames that are torn. -/
import Derived.Test.YtdlicndbdnfekaaGreatDoorRound
import Derived.Test.YtdlicndbdnfekaaGreatDoorUnframe
import Derived.Test.YtdlicndbdnfekaaGreatDoorDOne
import Derived.Lib.ItoaNum
import Derived.Lib.Atoi
namespace Go.Proofs.YtdlicndbdnfekaaGreatDoor.Wl
open Go.Proofs.YtdlicndbdnfekaaGreatDoor.Dk (Bs named byOk)

/-! names -/
abbrev dec (n : Nat) : Bs := Lib.decDigits n
theorem dec_one {n : Nat} (h : n < 10) : dec n = [UInt8.ofNat (48 + n)] := Lib.decDigits_one h
theorem dec_more {n : Nat} (h : ¬ n < 10) : dec n = dec (n / 10) ++ [UInt8.ofNat (48 + n % 10)] := by
  show Lib.decDigits n = _
  rw [Lib.decDigits, dif_neg h]
theorem digit_nat {d : Nat} (h : d < 10) : (UInt8.ofNat (48 + d)).toNat = 48 + d := by rw [UInt8.toNat_ofNat']; omega
theorem digit_val {d : Nat} (h : d < 10) : Lib.digitVal (UInt8.ofNat (48 + d)) = some d := by
  unfold Lib.digitVal
  rw [digit_nat h, if_pos (by omega)]
  congr 1; omega
theorem decFrom_snoc (c : UInt8) : ∀ (l : List UInt8) (acc m d : Nat), Lib.decFrom acc l = some m → Lib.digitVal c = some d → Lib.decFrom acc (l ++ [c]) = some (m * 10 + d)
  | [], acc, m, d, h, hd => by
    simp only [Lib.decFrom, Option.some.injEq] at h
    subst h
    simp [Lib.decFrom, hd]
  | b :: r, acc, m, d, h, hd => by
    simp only [Lib.decFrom, List.cons_append] at h ⊢
    cases hb : Lib.digitVal b with
    | none => simp [hb] at h
    | some e =>
      simp only [hb] at h ⊢
      exact decFrom_snoc c r _ m d h hd
theorem dec_digits (n : Nat) : ∀ c ∈ dec n, 48 ≤ c.toNat ∧ c.toNat ≤ 57 := by
  induction n using Nat.strongRecOn with
  | _ n ih =>
    intro c hc
    by_cases h : n < 10
    · rw [dec_one h] at hc
      rw [List.mem_singleton.1 hc, digit_nat h]; omega
    · rw [dec_more h] at hc
      rcases List.mem_append.1 hc with hc | hc
      · exact ih (n / 10) (by omega) c hc
      · rw [List.mem_singleton.1 hc, digit_nat (by omega)]; omega
theorem dec_from (n : Nat) : Lib.decFrom 0 (dec n) = some n := by
  induction n using Nat.strongRecOn with
  | _ n ih =>
    by_cases h : n < 10
    · rw [dec_one h, Lib.decFrom, digit_val h]
      simp only [Lib.decFrom, Nat.zero_mul, Nat.zero_add]
    · rw [dec_more h, decFrom_snoc _ _ _ _ _ (ih (n / 10) (by omega)) (digit_val (show n % 10 < 10 by omega))]
      congr 1; omega
theorem dec_ne (n : Nat) : dec n ≠ [] := by
  by_cases h : n < 10
  · rw [dec_one h]; simp
  · rw [dec_more h]; simp
theorem dec_length (k : Nat) : ∀ n, n < 10 ^ (k + 1) → (dec n).length ≤ k + 1 := by
  induction k with
  | zero => intro n h; rw [dec_one (by simpa using h)]; simp
  | succ k ih =>
    intro n h
    by_cases h1 : n < 10
    · rw [dec_one h1]; simp
    · rw [dec_more h1, List.length_append]
      have := ih (n / 10) (by rw [Nat.pow_succ] at h; omega)
      simp only [List.length_singleton]; omega
theorem dec_small {n : Nat} (h : n ≤ 1048577) : (dec n).length ≤ 7 := dec_length 6 n (by omega)
theorem atoi_dec (n : Nat) : Lib.atoi (dec n) = some (n : Int) := by
  have h1 := dec_from n
  have h2 := dec_digits n
  have h3 := dec_ne n
  generalize dec n = l at *
  cases l with
  | nil => exact absurd rfl h3
  | cons b r =>
    have hb := h2 b (List.mem_cons_self ..)
    have n45 : (b == 45) = false := by
      rw [beq_eq_false_iff_ne]; intro e; rw [e] at hb; revert hb; decide
    have n43 : (b == 43) = false := by
      rw [beq_eq_false_iff_ne]; intro e; rw [e] at hb; revert hb; decide
    simp only [Lib.atoi, n45, n43, Lib.decNat, List.isEmpty_cons, h1, Option.map_some, Bool.false_eq_true, if_false]
theorem dec_inj {m n : Nat} (h : dec m = dec n) : m = n := by
  have h1 := dec_from m
  rw [h, dec_from n] at h1
  exact (Option.some.inj h1).symm

/-- a segment's name -/
def nm (n : Nat) : Bs := [108, 111, 103, 46] ++ dec n
theorem nm_inj {m n : Nat} (h : nm m = nm n) : m = n := dec_inj (List.append_cancel_left h)
theorem nm_length (n : Nat) : (nm n).length = 4 + (dec n).length := by simp [nm]; omega
theorem nm_named {n : Nat} (h : n ≤ 1048577) : named (nm n) = true := by
  have hl := dec_small h
  have hd := dec_digits n
  simp only [named, Bool.and_eq_true, decide_eq_true_eq, List.all_eq_true]
  refine ⟨⟨by rw [nm_length]; omega, by rw [nm_length]; omega⟩, fun c hc => ?_⟩
  simp only [nm, List.cons_append, List.nil_append, List.mem_cons] at hc
  rcases hc with rfl | rfl | rfl | rfl | hc
  · decide
  · decide
  · decide
  · decide
  · have := hd c hc
    simp only [byOk, Bool.or_eq_true, Bool.and_eq_true, decide_eq_true_eq]
    exact Or.inl (Or.inr this)
/-- as a text -/
def nt (n : Nat) : ByteArray := ⟨(nm n).toArray⟩
theorem nt_list (n : Nat) : (nt n).data.toList = nm n := by simp [nt]
theorem nt_size (n : Nat) : (nt n).size = 4 + (dec n).length := by
  show (nm n).toArray.size = _
  rw [List.size_toArray, nm_length]
theorem nt_inj {m n : Nat} (h : nt m = nt n) : m = n := by
  have := congrArg (fun b : ByteArray => b.data.toList) h
  simp only [nt_list] at this
  exact nm_inj this

/-! records -/
structure Rec where
  brick : Nat
  body : ByteArray
/-- one that may be in a log -/
def Rec.may (r : Rec) : Prop := r.brick < 16 ∧ r.body.size ≤ 60000
def flds (n : Nat) (r : Rec) : List Fld := [⟨false, n, ⟨#[]⟩⟩, ⟨false, r.brick, ⟨#[]⟩⟩, ⟨true, 0, r.body⟩]
/-- a record's frame -/
def fr (n : Nat) (r : Rec) : Bs := frm (encs (flds n r))
/-- records' frames, one behind the other -/
def frs : Nat → List Rec → Bs
  | _, [] => []
  | n, r :: l => fr n r ++ frs (n + 1) l

theorem encs_flds (n : Nat) (r : Rec) : (encs (flds n r)).length ≤ 30 + r.body.size := by
  have h1 := Pl.wd_le (u64 (n : Int))
  have h2 := Pl.wd_le (u64 (r.brick : Int))
  have h3 := Pl.wd_le r.body.size
  have : (encs (flds n r)).length = (enc ⟨false, n, ⟨#[]⟩⟩).length + ((enc ⟨false, r.brick, ⟨#[]⟩⟩).length + (enc ⟨true, 0, r.body⟩).length) := by
    simp [flds, encs]
  rw [this, enc_num_length, enc_num_length, enc_text_length]
  omega
theorem fr_length (n : Nat) (r : Rec) : (fr n r).length = (encs (flds n r)).length + 8 := frm_length _
theorem fr_pos (n : Nat) (r : Rec) : 8 ≤ (fr n r).length := by rw [fr_length]; omega
theorem fr_le (n : Nat) (r : Rec) : (fr n r).length ≤ 38 + r.body.size := by rw [fr_length]; have := encs_flds n r; omega
theorem good_flds {n : Nat} {r : Rec} (h : r.may) : Good (flds n r) := by
  refine ⟨by simp [flds], ?_, by have := encs_flds n r; have := h.2; omega⟩
  simp [flds, Fld.may, ByteArray.size]
theorem fits_flds {n : Nat} {r : Rec} (hn : n ≤ 9223372036854775807) (h : r.may) : ∀ x ∈ flds n r, x.fits := by
  have := h.1
  have := h.2
  intro x hx
  simp only [flds, List.mem_cons, List.not_mem_nil, or_false] at hx
  rcases hx with rfl | rfl | rfl
  · exact ⟨by show (-9223372036854775808 : Int) ≤ (n : Int); omega, by show (n : Int) ≤ _; omega, by show (ByteArray.mk #[]).size ≤ _; decide⟩
  · exact ⟨by show (-9223372036854775808 : Int) ≤ (r.brick : Int); omega, by show (r.brick : Int) ≤ _; omega, by show (ByteArray.mk #[]).size ≤ _; decide⟩
  · exact ⟨by show (-9223372036854775808 : Int) ≤ 0; decide, by show (0 : Int) ≤ _; decide, by show r.body.size ≤ _; omega⟩
theorem decode_flds {n : Nat} {r : Rec} (hn : n ≤ 9223372036854775807) (h : r.may) : decode ⟨(encs (flds n r)).toArray⟩ = (flds n r, 0, 0) := decode_encs (good_flds h) (fits_flds hn h)

theorem frs_append : ∀ (a b : List Rec) (n : Nat), frs n (a ++ b) = frs n a ++ frs (n + a.length) b
  | [], b, n => by simp [frs]
  | r :: a, b, n => by
    simp only [List.cons_append, frs, frs_append a b (n + 1), List.append_assoc, List.length_cons]
    rw [show n + 1 + a.length = n + (a.length + 1) by omega]
theorem frs_one (n : Nat) (r : Rec) : frs n [r] = fr n r := by simp [frs]
theorem frs_snoc (n : Nat) (l : List Rec) (r : Rec) : frs n (l ++ [r]) = frs n l ++ fr (n + l.length) r := by rw [frs_append, frs_one]
theorem frs_at (n : Nat) (l : List Rec) (i : Nat) (h : i < l.length) : frs n l = frs n (l.take i) ++ (fr (n + i) l[i] ++ frs (n + i + 1) (l.drop (i + 1))) := by
  conv => lhs; rw [← List.take_append_drop i l, List.drop_eq_getElem_cons h, frs_append, List.length_take, Nat.min_eq_left (by omega)]
  rfl
theorem frs_take_lt (n : Nat) (l : List Rec) (i : Nat) (h : i < l.length) : (frs n (l.take i)).length + 8 ≤ (frs n l).length := by
  rw [frs_at n l i h]
  have := fr_pos (n + i) l[i]
  simp only [List.length_append]; omega
theorem frs_take_next (n : Nat) (l : List Rec) (i : Nat) (h : i < l.length) : frs n (l.take (i + 1)) = frs n (l.take i) ++ fr (n + i) l[i] := by
  rw [List.take_succ_eq_append_getElem h, frs_snoc, List.length_take, Nat.min_eq_left (by omega)]
theorem frs_take_le (n : Nat) (l : List Rec) (i j : Nat) (h : i ≤ j) : (frs n (l.take i)).length ≤ (frs n (l.take j)).length := by
  have e : l.take i = (l.take j).take i := by rw [List.take_take, Nat.min_eq_left h]
  have : frs n (l.take j) = frs n ((l.take j).take i) ++ frs (n + ((l.take j).take i).length) ((l.take j).drop i) := by
    conv => lhs; rw [← List.take_append_drop i (l.take j), frs_append]
  rw [e, this, List.length_append]; omega
theorem frs_nil {n : Nat} {l : List Rec} (h : frs n l = []) : l = [] := by
  cases l with
  | nil => rfl
  | cons r l =>
    have := fr_pos n r
    have h2 := congrArg List.length h
    simp only [frs, List.length_append, List.length_nil] at h2
    omega
theorem frs_len0 {n : Nat} {l : List Rec} (h : (frs n l).length = 0) : l = [] := frs_nil (List.eq_nil_of_length_eq_zero h)

/-! frames -/
theorem val4 (n : Nat) (h : n < 4294967296) : Pl.val (Pl.low 4 n) = n := by
  simp only [Pl.low, Pl.val, UInt8.toNat_ofNat']; omega
theorem unf_frame (l q : List UInt8) (h : l.length ≤ 65536) : unf (frm l ++ q) = (l, l.length + 8, 0) := by
  have hl := frm_length l
  have hh := head_length l
  have hal := adler_lt (head l)
  have e0 : frm l ++ q = Pl.low 4 l.length ++ (l ++ (Pl.low 4 (Pl.adler (head l)) ++ q)) := by simp [frm, head]
  have e4 : (frm l ++ q).take 4 = Pl.low 4 l.length := by
    rw [e0, List.take_append_of_le_length (by rw [Pl.low_length]; exact Nat.le_refl _), List.take_of_length_le (by rw [Pl.low_length]; exact Nat.le_refl _)]
  have et : (frm l ++ q).take (4 + l.length) = head l := by rw [frm, List.append_assoc, ← hh, List.take_left]
  have ed : ((frm l ++ q).drop (4 + l.length)).take 4 = Pl.low 4 (Pl.adler (head l)) := by
    rw [frm, List.append_assoc, ← hh, List.drop_left, List.take_append_of_le_length (by rw [Pl.low_length]; exact Nat.le_refl _), List.take_of_length_le (by rw [Pl.low_length]; exact Nat.le_refl _)]
  have eb : ((frm l ++ q).drop 4).take l.length = l := by
    have h4 : (Pl.low 4 l.length).length = 4 := Pl.low_length 4 l.length
    have : (frm l ++ q).drop 4 = l ++ (Pl.low 4 (Pl.adler (head l)) ++ q) := by
      rw [e0]; exact List.drop_left' h4
    rw [this, List.take_left]
  rw [unf, List.length_append, if_neg (by omega), e4, val4 _ (by omega), if_neg (by omega), if_neg (by omega), et, ed, val4 _ hal, if_neg (by simp), eb]
theorem frm_first4 (l : List UInt8) : (frm l).take 4 = Pl.low 4 l.length := by
  rw [frm, head, List.append_assoc, List.take_append_of_le_length (by rw [Pl.low_length]; exact Nat.le_refl _), List.take_of_length_le (by rw [Pl.low_length]; exact Nat.le_refl _)]
theorem unf_torn (l : List UInt8) (h : l.length ≤ 65536) (c : Nat) (hc : c < (frm l).length) : unf ((frm l).take c) = ([], 0, 11) := by
  have hl := frm_length l
  have hlen : ((frm l).take c).length = c := by rw [List.length_take]; omega
  rw [unf, hlen]
  by_cases h4 : c < 4
  · rw [if_pos h4]
  · have e : ((frm l).take c).take 4 = Pl.low 4 l.length := by rw [List.take_take, Nat.min_eq_left (by omega), frm_first4]
    rw [if_neg h4, e, val4 _ (by omega), if_neg (by omega), if_pos (by omega)]

/-- a part of a frame, as a crash leaves it (or nothing) -/
def Torn (t : Bs) : Prop := t = [] ∨ ∃ n r c, r.may ∧ c < (fr n r).length ∧ t = (fr n r).take c
theorem Torn.nil : Torn [] := Or.inl rfl
theorem Torn.unf {t : Bs} (h : Torn t) (hne : t ≠ []) : unf t = ([], 0, 11) := by
  rcases h with rfl | ⟨n, r, c, hm, hc, rfl⟩
  · exact absurd rfl hne
  · exact unf_torn _ (by have := encs_flds n r; have := hm.2; omega) c hc
/-- frames that are cut anywhere: whole ones, and a part of the next one -/
theorem frs_cut : ∀ (l : List Rec) (n m : Nat), (∀ r ∈ l, r.may) → m ≤ (frs n l).length → ∃ j t, j ≤ l.length ∧ Torn t ∧ (frs n l).take m = frs n (l.take j) ++ t ∧ m = (frs n (l.take j)).length + t.length ∧ ∀ i, i ≤ l.length → (frs n (l.take i)).length ≤ m → i ≤ j
  | [], n, m, _, hm => ⟨0, [], by simp, Torn.nil, by simp [frs], by simpa [frs] using hm, fun i hi _ => by simpa using hi⟩
  | r :: l, n, m, hl, hm => by
    by_cases hc : m < (fr n r).length
    · refine ⟨0, (fr n r).take m, by simp, Or.inr ⟨n, r, m, hl r (List.mem_cons_self ..), hc, rfl⟩, ?_, ?_, ?_⟩
      · rw [List.take_zero]; simp only [frs, List.nil_append]; exact List.take_append_of_le_length (by omega)
      · simp only [List.take_zero, frs, List.length_nil, List.length_take]; omega
      · intro i _ hi2
        cases i with
        | zero => omega
        | succ i =>
          simp only [List.take_succ_cons, frs, List.length_append] at hi2
          omega
    · obtain ⟨j, t, hj, ht, h1, h2, h3⟩ := frs_cut l (n + 1) (m - (fr n r).length) (fun x hx => hl x (List.mem_cons_of_mem _ hx)) (by simp only [frs, List.length_append] at hm; omega)
      refine ⟨j + 1, t, by simp only [List.length_cons]; omega, ht, ?_, ?_, ?_⟩
      · simp only [List.take_succ_cons, frs, List.append_assoc]
        rw [← h1, List.take_append, List.take_of_length_le (by omega)]
      · simp only [List.take_succ_cons, frs, List.length_append]; omega
      · intro i hi hi2
        cases i with
        | zero => omega
        | succ i =>
          simp only [List.take_succ_cons, frs, List.length_append, List.length_cons] at hi2 hi
          have := h3 i (by omega) (by omega)
          omega

end Go.Proofs.YtdlicndbdnfekaaGreatDoor.Wl
