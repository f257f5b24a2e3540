/- There and back, in plain mathematics: what is encoded is decoded, what is decoded is encoded. -/
import Derived.Test.YtmpahgklcabihaaGreatArgs
namespace Go.Proofs.YtmpahgklcabihaaGreat
open Go.RowKit

namespace Pl
theorem val_append (a b : List UInt8) : val (a ++ b) = val a + 256 ^ a.length * val b := by
  induction a with
  | nil => simp [val]
  | cons x a ih => simp only [List.cons_append, val, ih, List.length_cons, Nat.pow_succ, Nat.mul_add, Nat.add_assoc]; congr 2; rw [← Nat.mul_assoc, Nat.mul_comm 256]
theorem val_low (c n : Nat) : val (low c n) = n % 256 ^ c := by
  induction c generalizing n with
  | zero => simp [low, val, Nat.mod_one]
  | succ c ih =>
    simp only [low, val, ih]
    rw [UInt8.toNat_ofNat', Nat.mod_mod, Nat.pow_succ, Nat.mul_comm (256 ^ c) 256, Nat.mod_mul]
theorem low_val (l : List UInt8) : low l.length (val l) = l := by
  induction l with
  | nil => rfl
  | cons b r ih =>
    have hb := b.toNat_lt
    simp only [List.length_cons, low, val]
    have e1 : (b.toNat + 256 * val r) % 256 = b.toNat := by omega
    have e2 : (b.toNat + 256 * val r) / 256 = val r := by omega
    rw [e1, e2, ih, UInt8.ofNat_toNat]
theorem up_lt {n X : Nat} (h : n / 256 < X) : n < X * 256 := by omega
theorem up_le {n X : Nat} (h : X ≤ n / 256) : X * 256 ≤ n := by omega
theorem wdF_top (f n : Nat) (h : n < 256 ^ f) : n < 256 ^ wdF f n ∧ (0 < wdF f n → 256 ^ (wdF f n - 1) ≤ n) := by
  induction f generalizing n with
  | zero => exact ⟨h, fun hp => by simp [wdF] at hp⟩
  | succ f ih =>
    rw [wdF]
    by_cases h0 : n = 0
    · simp [h0]
    · rw [if_neg h0]
      rw [Nat.pow_succ] at h
      obtain ⟨i1, i2⟩ := ih (n / 256) (by omega)
      refine ⟨?_, fun _ => ?_⟩
      · rw [Nat.pow_succ]; exact up_lt i1
      · rw [Nat.add_sub_cancel]
        by_cases hp : 0 < wdF f (n / 256)
        · have := i2 hp
          obtain ⟨k, hk⟩ : ∃ k, wdF f (n / 256) = k + 1 := ⟨wdF f (n / 256) - 1, by omega⟩
          rw [hk] at this ⊢
          rw [Nat.add_sub_cancel] at this
          rw [Nat.pow_succ]; exact up_le this
        · have : wdF f (n / 256) = 0 := by omega
          rw [this, Nat.pow_zero]; omega
theorem val_low_wd (n : Nat) (h : n < 18446744073709551616) : val (low (wd n) n) = n := by
  have h1 : n < 256 ^ wd n := (wdF_top 8 n (by simpa using h)).1
  rw [val_low, Nat.mod_eq_of_lt h1]
theorem low_last (n k : Nat) (h : n < 18446744073709551616) (hk : wd n = k + 1) : ((low (wd n) n).getD k 0).toNat ≠ 0 := by
  obtain ⟨h1, h2⟩ := wdF_top 8 n (by simpa using h)
  change n < 256 ^ wd n at h1
  change 0 < wd n → 256 ^ (wd n - 1) ≤ n at h2
  have h3 := h2 (by omega)
  rw [hk] at h1 h3 ⊢
  rw [Nat.add_sub_cancel] at h3
  rw [low_succ, List.getD_eq_getElem?_getD, List.getElem?_append_right (by rw [low_length]; exact Nat.le_refl _), low_length, Nat.sub_self, List.getElem?_cons_zero, Option.getD_some]
  rw [UInt8.toNat_ofNat', Nat.mod_mod]
  rw [Nat.pow_succ] at h1
  have h4 : n / 256 ^ k < 256 := by rw [Nat.div_lt_iff_lt_mul (Nat.pow_pos (by omega))]; omega
  have h5 : 1 ≤ n / 256 ^ k := by rw [Nat.le_div_iff_mul_le (Nat.pow_pos (by omega))]; omega
  omega
theorem wdF_val (f : Nat) (l : List UInt8) (hf : l.length ≤ f) (hl : ∀ k, l.length = k + 1 → (l.getD k 0).toNat ≠ 0) : wdF f (val l) = l.length := by
  induction f generalizing l with
  | zero => simp at hf; simp [wdF, hf]
  | succ f ih =>
    cases l with
    | nil => simp [val, wdF]
    | cons b r =>
      have hb := b.toNat_lt
      have e2 : (b.toNat + 256 * val r) / 256 = val r := by omega
      have hr := ih r (by simpa using hf) (fun k hk => by have := hl (k + 1) (by simp [hk]); simpa using this)
      rw [val, wdF, e2, hr]
      have hne : b.toNat + 256 * val r ≠ 0 := by
        intro h0
        have hv : val r = 0 := by omega
        cases r with
        | nil => have := hl 0 rfl; simp at this; omega
        | cons c r =>
          rw [hv] at hr
          cases f with
          | zero => simp at hf
          | succ f => simp [wdF] at hr
      rw [if_neg hne]; rfl
theorem wd_val (l : List UInt8) (hf : l.length ≤ 8) (hl : ∀ k, l.length = k + 1 → (l.getD k 0).toNat ≠ 0) : wd (val l) = l.length := wdF_val 8 l hf hl
end Pl

theorem byAt_drop (s : ByteArray) (p k : Nat) : byAt s (p + k) = ((s.data.toList.drop p).getD k 0).toNat := by
  unfold byAt
  by_cases h : p + k < s.size
  · rw [dif_pos h, List.getD_eq_getElem?_getD, List.getElem?_drop, List.getElem?_eq_getElem (by rw [← Lib.size_eq]; exact h)]; rfl
  · rw [dif_neg h, List.getD_eq_getElem?_getD, List.getElem?_drop, List.getElem?_eq_none (by rw [← Lib.size_eq]; omega)]; rfl
theorem drop_length (s : ByteArray) (p : Nat) : (s.data.toList.drop p).length = s.size - p := by rw [List.length_drop, ← Lib.size_eq]

/-- a number's bytes, read -/
theorem rdNum_enc {s : ByteArray} {p n : Nat} {q : List UInt8} (hp : p ≤ s.size) (hn : n < 18446744073709551616) (h : s.data.toList.drop p = UInt8.ofNat (Pl.wd n) :: (Pl.low (Pl.wd n) n ++ q)) : rdNum s p = (i64 n, p + 1 + Pl.wd n, 0) := by
  have hw := Pl.wd_le n
  have hl := drop_length s p
  rw [h, List.length_cons, List.length_append, Pl.low_length] at hl
  have hb0 := byAt_drop s p 0
  rw [h, List.getD_cons_zero, Nat.add_zero] at hb0
  have hbw : byAt s p = Pl.wd n := by rw [hb0, UInt8.toNat_ofNat', Nat.mod_eq_of_lt (by omega)]
  have hd1 : s.data.toList.drop (p + 1) = Pl.low (Pl.wd n) n ++ q := by rw [← List.drop_drop, h]; rfl
  rw [rdNum, if_neg (by omega), hbw, if_neg (by omega), if_neg (by omega), if_neg, hd1, List.take_append_of_le_length (by rw [Pl.low_length]; exact Nat.le_refl _), List.take_of_length_le (by rw [Pl.low_length]; exact Nat.le_refl _), Pl.val_low_wd n hn]
  rintro ⟨h1, h2⟩
  obtain ⟨k, hk⟩ : ∃ k, Pl.wd n = k + 1 := ⟨Pl.wd n - 1, by omega⟩
  have := byAt_drop s p (k + 1)
  rw [h, List.getD_cons_succ, List.getD_eq_getElem?_getD, List.getElem?_append_left (by rw [Pl.low_length]; omega), ← List.getD_eq_getElem?_getD] at this
  rw [hk] at h2
  rw [this] at h2
  rw [hk] at h2
  have hlast := Pl.low_last n k hn hk
  rw [hk] at hlast
  exact hlast h2

theorem i64_u64 (n : Int) (h1 : -9223372036854775808 ≤ n) (h2 : n ≤ 9223372036854775807) : i64 (u64 n) = n := by rw [i64_eq]; unfold u64; omega
theorem u64_i64 (n : Nat) (h : n < 18446744073709551616) : u64 (i64 n) = n := by rw [i64_eq]; unfold u64; omega
theorem i64_small (n : Nat) (h : n ≤ 262144) : i64 n = n := by rw [i64_eq]; omega

/-- a field's bytes, read -/
theorem rdFld_enc {s : ByteArray} {p : Nat} {x : Fld} {q : List UInt8} (hm : x.may = true) (hf : x.fits) (hs : x.s.size ≤ 262144) (h : s.data.toList.drop p = enc x ++ q) : rdFld s p = (x, p + (enc x).length, 0) := by
  obtain ⟨t, n, sx⟩ := x
  have hl := drop_length s p
  have hb := byAt_drop s p 0
  rw [Nat.add_zero] at hb
  cases t
  · rw [enc_num] at h
    have h1 : s.data.toList.drop (p + 1) = UInt8.ofNat (Pl.wd (u64 n)) :: (Pl.low (Pl.wd (u64 n)) (u64 n) ++ q) := by
      rw [← List.drop_drop, h]; simp [fld]
    have hb' : byAt s p = 78 := by rw [hb, h]; rfl
    rw [h, List.length_append, fld_length] at hl
    have hr := rdNum_enc (by omega) (u64_lt n) h1
    have hx : sx = ⟨#[]⟩ := by simp [Fld.may] at hm; exact hm.trans rfl
    rw [rdFld, if_neg (by omega), hr, if_neg (by simp), if_pos hb', i64_u64 n hf.1 hf.2.1, enc_num_length, hx]
    simp only [Prod.mk.injEq, true_and, and_true]; omega
  · rw [enc_text] at h
    have h1 : s.data.toList.drop (p + 1) = UInt8.ofNat (Pl.wd sx.size) :: (Pl.low (Pl.wd sx.size) sx.size ++ (sx.data.toList ++ q)) := by
      rw [← List.drop_drop, h]; simp [fld]
    have hb' : byAt s p = 84 := by rw [hb, h]; rfl
    rw [h, List.length_append, fld_length, ← Lib.size_eq] at hl
    have hs' : sx.size ≤ 262144 := hs
    have hr := rdNum_enc (by omega) (by omega) h1
    have hn : n = 0 := by simpa [Fld.may] using hm
    have hdt : s.data.toList.drop (p + 1 + 1 + Pl.wd sx.size) = sx.data.toList ++ q := by
      rw [show p + 1 + 1 + Pl.wd sx.size = (p + 1) + (1 + Pl.wd sx.size) from by omega, ← List.drop_drop, h1, Nat.add_comm 1, List.drop_succ_cons]
      rw [List.drop_append, Pl.low_length, Nat.sub_self, List.drop_zero, List.drop_of_length_le (by rw [Pl.low_length]; exact Nat.le_refl _), List.nil_append]
    have ht : rdTxt s (p + 1 + 1 + Pl.wd sx.size) (i64 sx.size) = (sx, p + 1 + 1 + Pl.wd sx.size + sx.size, 0) := by
      rw [i64_small _ hs', rdTxt, if_neg (by omega), if_neg (by omega), Int.toNat_natCast, Lib.extract_eq, hdt, Nat.add_sub_cancel_left, List.take_append_of_le_length (by rw [← Lib.size_eq]; exact Nat.le_refl _), List.take_of_length_le (by rw [← Lib.size_eq]; exact Nat.le_refl _)]
    rw [rdFld, if_neg (by omega), hr, if_neg (by simp), if_neg (by omega), ht, if_neg (by simp), enc_text_length, hn]
    simp only [Prod.mk.injEq, true_and, and_true]; omega

theorem encs_cons (x : Fld) (l : List Fld) : encs (x :: l) = enc x ++ encs l := by simp [encs]
theorem enc_size_le (x : Fld) (ht : x.text = true) : x.s.size ≤ (enc x).length := by
  obtain ⟨t, n, s⟩ := x
  simp at ht; subst ht
  rw [enc_text_length]; show s.size ≤ _; omega
theorem enc_pos (x : Fld) : 2 ≤ (enc x).length := by
  obtain ⟨t, n, s⟩ := x
  cases t
  · rw [enc_num_length]; omega
  · rw [enc_text_length]; omega

theorem decF_encs (s : ByteArray) (l : List Fld) : ∀ (f p : Nat) (acc : List Fld), s.size < p + f → acc.length + l.length ≤ 4096 → (∀ x ∈ l, x.may = true ∧ x.fits ∧ x.s.size ≤ 262144) → s.data.toList.drop p = encs l → p ≤ s.size → decF s f p acc = (acc ++ l, 0, 0) := by
  induction l with
  | nil =>
    intro f p acc hf _ _ h hp
    have := drop_length s p
    rw [h] at this
    simp [encs] at this
    cases f with
    | zero => simp [decF]
    | succ f => rw [decF, if_neg (by omega)]; simp
  | cons x l ih =>
    intro f p acc hf hn hx h hp
    rw [encs_cons] at h
    have hl := drop_length s p
    have hpos := enc_pos x
    rw [h, List.length_append] at hl
    obtain ⟨hm, hfit, hsz⟩ := hx x (List.mem_cons_self ..)
    have hr := rdFld_enc hm hfit hsz h
    simp only [List.length_cons] at hn
    cases f with
    | zero => omega
    | succ f =>
      rw [decF, if_pos (by omega), if_neg (by omega), hr, if_neg (by simp)]
      rw [ih f (p + (enc x).length) (acc ++ [x]) (by omega) (by simp; omega) (fun y hy => hx y (List.mem_cons_of_mem _ hy)) ?_ (by omega)]
      · simp
      · rw [← List.drop_drop, h, List.drop_left]

/-- what a list that may be encoded is -/
structure Good (l : List Fld) : Prop where
  many : l.length ≤ 4096
  may : l.all Fld.may = true
  long : (encs l).length ≤ 262144
theorem encode_good {l : List Fld} (h : Good l) : encode l = (⟨(encs l).toArray⟩, 0) := by
  rw [encode, if_neg (by have := h.many; omega), if_neg (by simp [h.may]), if_neg (by have := h.long; omega)]
theorem good_of {l : List Fld} (h : (encode l).2 = 0) : Good l := by
  unfold encode at h
  by_cases h1 : 4096 < l.length
  · rw [if_pos h1] at h; simp at h
  · rw [if_neg h1] at h
    by_cases h2 : l.all Fld.may = false
    · rw [if_pos h2] at h; simp at h
    · rw [if_neg h2] at h
      by_cases h3 : 262144 < (encs l).length
      · rw [if_pos h3] at h; simp at h
      · exact ⟨by omega, by simpa using h2, by omega⟩
theorem encode_bad_empty {l : List Fld} (h : (encode l).2 ≠ 0) : (encode l).1 = ⟨#[]⟩ := by
  unfold encode at h ⊢
  repeat' split
  all_goals first | rfl | (simp_all)

theorem encs_mem_le {l : List Fld} {x : Fld} (h : x ∈ l) : (enc x).length ≤ (encs l).length := by
  induction l with
  | nil => cases h
  | cons y l ih =>
    rw [encs_cons, List.length_append]
    rcases List.mem_cons.1 h with rfl | h
    · omega
    · have := ih h; omega

/-- THERE: what is encoded is decoded -/
theorem decode_encs {l : List Fld} (h : Good l) (hf : ∀ x ∈ l, x.fits) : decode ⟨(encs l).toArray⟩ = (l, 0, 0) := by
  have hs : (ByteArray.mk (encs l).toArray).size = (encs l).length := by show (encs l).toArray.size = _; simp
  have hlong := h.long
  rw [decode, if_neg (by rw [hs]; omega)]
  have := decF_encs ⟨(encs l).toArray⟩ l ((ByteArray.mk (encs l).toArray).size + 1) 0 [] (by omega) (by simpa using h.many) ?_ (by simp) (by omega)
  · simpa using this
  · intro x hx
    have hm : x.may = true := List.all_eq_true.1 h.may x hx
    refine ⟨hm, hf x hx, ?_⟩
    cases ht : x.text
    · have : x.s.size = 0 := by simpa [Fld.may, ht] using hm
      omega
    · have := enc_size_le x ht
      have := encs_mem_le hx
      omega

/-- what was read as a number stands there -/
theorem rdNum_dec {s : ByteArray} {p e : Nat} {v : Int} (hp : p ≤ s.size) (h : rdNum s p = (v, e, 0)) :
    ∃ n, n < 18446744073709551616 ∧ v = i64 n ∧ e = p + 1 + Pl.wd n ∧ e ≤ s.size ∧ s.data.toList.drop p = UInt8.ofNat (Pl.wd n) :: (Pl.low (Pl.wd n) n ++ s.data.toList.drop e) := by
  unfold rdNum at h
  by_cases h1 : p = s.size
  · rw [if_pos h1] at h; simp at h
  · rw [if_neg h1] at h
    by_cases h2 : 8 < byAt s p
    · rw [if_pos h2] at h; simp at h
    · rw [if_neg h2] at h
      by_cases h3 : s.size - (p + 1) < byAt s p
      · rw [if_pos h3] at h; simp at h
      · rw [if_neg h3] at h
        by_cases h4 : 0 < byAt s p ∧ byAt s (p + byAt s p) = 0
        · rw [if_pos h4] at h; simp at h
        · rw [if_neg h4] at h
          simp only [Prod.mk.injEq, and_true] at h
          obtain ⟨rfl, rfl⟩ := h
          have hl1 := drop_length s (p + 1)
          have hd : s.data.toList.drop p = UInt8.ofNat (byAt s p) :: s.data.toList.drop (p + 1) := by
            rw [List.drop_eq_getElem_cons (by rw [← Lib.size_eq]; omega)]
            congr 1
            have := byAt_of s p (by omega)
            rw [this, UInt8.ofNat_toNat]; rfl
          obtain ⟨d, hdd⟩ : ∃ d, d = (s.data.toList.drop (p + 1)).take (byAt s p) := ⟨_, rfl⟩
          have hdl : d.length = byAt s p := by rw [hdd, List.length_take, hl1]; omega
          have hlast : ∀ k, d.length = k + 1 → (d.getD k 0).toNat ≠ 0 := by
            intro k hk h0
            refine h4 ⟨by omega, ?_⟩
            have := byAt_drop s (p + 1) k
            rw [show p + byAt s p = p + 1 + k from by omega, this, ← h0, hdd]
            congr 1
            rw [List.getD_eq_getElem?_getD, List.getD_eq_getElem?_getD, List.getElem?_take, if_pos (by omega)]
          have hwd := Pl.wd_val d (by omega) hlast
          rw [← hdd]
          refine ⟨Pl.val d, ?_, rfl, by rw [hwd, hdl], by omega, ?_⟩
          · refine Nat.lt_of_lt_of_le (Pl.val_lt d) ?_
            exact Nat.pow_le_pow_right (by omega) (show d.length ≤ 8 by omega)
          · rw [hwd, Pl.low_val, hdl, hd, hdd]
            congr 1
            have e2 : s.data.toList.drop (p + 1 + byAt s p) = (s.data.toList.drop (p + 1)).drop (byAt s p) := by rw [List.drop_drop]
            rw [e2, List.take_append_drop]

theorem rdTxt_dec {s : ByteArray} {p e : Nat} {n : Int} {t : ByteArray} (hp : p ≤ s.size) (h : rdTxt s p n = (t, e, 0)) : n = t.size ∧ t.size ≤ 262144 ∧ e = p + t.size ∧ e ≤ s.size ∧ s.data.toList.drop p = t.data.toList ++ s.data.toList.drop e := by
  unfold rdTxt at h
  by_cases h1 : n < 0 ∨ 262144 < n
  · rw [if_pos h1] at h; simp at h
  · rw [if_neg h1] at h
    by_cases h2 : ((s.size - p : Nat) : Int) < n
    · rw [if_pos h2] at h; simp at h
    · rw [if_neg h2] at h
      simp only [Prod.mk.injEq, and_true] at h
      obtain ⟨rfl, rfl⟩ := h
      have hz := ext_size s p (p + n.toNat) (by omega) (by omega)
      refine ⟨by omega, by omega, by omega, by omega, ?_⟩
      rw [Lib.extract_data, Nat.add_sub_cancel_left, ← List.drop_drop, List.take_append_drop]

theorem i64_range (n : Nat) : -9223372036854775808 ≤ i64 n ∧ i64 n ≤ 9223372036854775807 := by rw [i64_eq]; omega
theorem u64_small (n : Nat) (h : n ≤ 262144) : u64 (n : Int) = n := by unfold u64; omega
theorem num_fits (n : Nat) : (Fld.mk false (i64 n) ⟨#[]⟩).fits := ⟨(i64_range n).1, (i64_range n).2, by show (ByteArray.mk #[]).size ≤ _; decide⟩
theorem txt_fits (t : ByteArray) (h : t.size ≤ 262144) : (Fld.mk true 0 t).fits := ⟨by show (-9223372036854775808 : Int) ≤ 0; decide, by show (0 : Int) ≤ 9223372036854775807; decide, by show t.size ≤ _; omega⟩

theorem pair_zero {α : Type} (x : α × Nat × Nat) (h : ¬ x.2.2 ≠ 0) : ∃ v e, x = (v, e, 0) := by
  obtain ⟨v, e, z⟩ := x
  have hz : z = 0 := Decidable.not_not.1 h
  exact ⟨v, e, by rw [hz]⟩
theorem drop_by (s : ByteArray) (p : Nat) (hp : p < s.size) : s.data.toList.drop p = UInt8.ofNat (byAt s p) :: s.data.toList.drop (p + 1) := by
  rw [List.drop_eq_getElem_cons (by rw [← Lib.size_eq]; omega), byAt_of s p hp, UInt8.ofNat_toNat]; rfl
theorem fld_num (n : Nat) (q : List UInt8) : UInt8.ofNat 78 :: UInt8.ofNat (Pl.wd n) :: (Pl.low (Pl.wd n) n ++ q) = fld 78 n [] ++ q := by simp [fld]
theorem fld_txt (n : Nat) (l q : List UInt8) : UInt8.ofNat 84 :: UInt8.ofNat (Pl.wd n) :: (Pl.low (Pl.wd n) n ++ (l ++ q)) = fld 84 n l ++ q := by simp [fld]
theorem dec_num {s : ByteArray} {p n e : Nat} (hp : p < s.size) (hn : n < 18446744073709551616) (hb : byAt s p = 78) (hd : s.data.toList.drop (p + 1) = UInt8.ofNat (Pl.wd n) :: (Pl.low (Pl.wd n) n ++ s.data.toList.drop e)) :
    s.data.toList.drop p = enc ⟨false, i64 n, ⟨#[]⟩⟩ ++ s.data.toList.drop e := by
  rw [enc_num, u64_i64 n hn, drop_by s p hp, hb, hd, fld_num]
theorem dec_txt {s : ByteArray} {p n e e2 : Nat} {t : ByteArray} (hp : p < s.size) (hb : byAt s p = 84) (hn : n = t.size) (hd : s.data.toList.drop (p + 1) = UInt8.ofNat (Pl.wd n) :: (Pl.low (Pl.wd n) n ++ s.data.toList.drop e)) (hd2 : s.data.toList.drop e = t.data.toList ++ s.data.toList.drop e2) :
    s.data.toList.drop p = enc ⟨true, 0, t⟩ ++ s.data.toList.drop e2 := by
  rw [enc_text, drop_by s p hp, hb, hd, hd2, hn, fld_txt]

/-- what was read as a field stands there -/
theorem rdFld_dec {s : ByteArray} {p e : Nat} {x : Fld} (hp : p < s.size) (h : rdFld s p = (x, e, 0)) : x.may = true ∧ x.fits ∧ e ≤ s.size ∧ s.data.toList.drop p = enc x ++ s.data.toList.drop e := by
  rw [rdFld] at h
  by_cases h1 : byAt s p ≠ 78 ∧ byAt s p ≠ 84
  · rw [if_pos h1] at h; simp at h
  · rw [if_neg h1] at h
    by_cases h2 : (rdNum s (p + 1)).2.2 ≠ 0
    · rw [if_pos h2] at h; simp only [Prod.mk.injEq] at h; exact absurd h.2.2 h2
    · rw [if_neg h2] at h
      obtain ⟨v, en, hr⟩ := pair_zero _ h2
      rw [hr] at h
      obtain ⟨n, hn, hv, hen, hle, hdn⟩ := rdNum_dec (by omega) hr
      by_cases h3 : byAt s p = 78
      · rw [if_pos h3] at h
        simp only [Prod.mk.injEq, and_true] at h
        obtain ⟨hx, he⟩ := h
        subst hx he hv
        exact ⟨rfl, num_fits n, hle, dec_num hp hn h3 hdn⟩
      · rw [if_neg h3] at h
        simp only at h
        by_cases h4 : (rdTxt s en v).2.2 ≠ 0
        · rw [if_pos h4] at h; simp only [Prod.mk.injEq] at h; exact absurd h.2.2 h4
        · rw [if_neg h4] at h
          obtain ⟨t, et, ht⟩ := pair_zero _ h4
          rw [ht] at h
          simp only [Prod.mk.injEq, and_true] at h
          obtain ⟨hx, he⟩ := h
          subst hx he
          obtain ⟨hnt, htl, _, hle2, hdt⟩ := rdTxt_dec hle ht
          have hb84 : byAt s p = 84 := by omega
          have hn' : n = t.size := by rw [← u64_i64 n hn, ← hv, hnt, u64_small _ htl]
          exact ⟨rfl, txt_fits t htl, hle2, dec_txt hp hb84 hn' hdn hdt⟩

theorem decF_dec (s : ByteArray) : ∀ (f p : Nat) (acc l : List Fld), s.size < p + f → p ≤ s.size → acc.length ≤ 4096 → acc.all Fld.may = true → (∀ x ∈ acc, x.fits) → encs acc ++ s.data.toList.drop p = s.data.toList → decF s f p acc = (l, 0, 0) → l.length ≤ 4096 ∧ l.all Fld.may = true ∧ (∀ x ∈ l, x.fits) ∧ encs l = s.data.toList := by
  intro f
  induction f with
  | zero => intro p acc l hf hp; omega
  | succ f ih =>
    intro p acc l hf hp hn hm hfit he h
    rw [decF] at h
    by_cases h1 : p < s.size
    · rw [if_pos h1] at h
      by_cases h2 : acc.length = 4096
      · rw [if_pos h2] at h; simp at h
      · rw [if_neg h2] at h
        by_cases h3 : (rdFld s p).2.2 ≠ 0
        · rw [if_pos h3] at h; simp only [Prod.mk.injEq] at h; exact absurd h.2.2 h3
        · rw [if_neg h3] at h
          obtain ⟨x, e, hr⟩ : ∃ x e, rdFld s p = (x, e, 0) := ⟨_, _, by rw [show (0 : Nat) = (rdFld s p).2.2 from by omega]⟩
          have hok := rdFld_ok h1 (by rw [hr])
          rw [hr] at h hok
          obtain ⟨hxm, hxf, hle, hd⟩ := rdFld_dec h1 hr
          refine ih e (acc ++ [x]) l (by have := hok.1; simp only at this; omega) hle (by simp; omega) (by rw [List.all_append, hm]; simp [hxm]) ?_ ?_ h
          · intro y hy
            rcases List.mem_append.1 hy with hy | hy
            · exact hfit y hy
            · simp at hy; subst hy; exact hxf
          · rw [show encs (acc ++ [x]) = encs acc ++ enc x from by simp [encs], List.append_assoc, ← hd]; exact he
    · rw [if_neg h1] at h
      simp only [Prod.mk.injEq, and_true] at h
      subst h
      refine ⟨hn, hm, hfit, ?_⟩
      rw [List.drop_of_length_le (by rw [← Lib.size_eq]; omega), List.append_nil] at he
      exact he

/-- AND BACK: what is decoded is encoded -/
theorem encode_decode {s : ByteArray} {l : List Fld} (h : decode s = (l, 0, 0)) : encode l = (s, 0) ∧ ∀ x ∈ l, x.fits := by
  unfold decode at h
  by_cases h1 : 262144 < s.size
  · rw [if_pos h1] at h; simp at h
  · rw [if_neg h1] at h
    obtain ⟨a, b, c, d⟩ := decF_dec s (s.size + 1) 0 [] l (by omega) (by omega) (by simp) (by simp) (by simp) (by simp [encs]) h
    refine ⟨?_, c⟩
    rw [encode_good ⟨a, b, by rw [d, ← Lib.size_eq]; omega⟩, d, Lib.mk_data]
theorem decF_bad_nil (s : ByteArray) : ∀ (f p : Nat) (acc : List Fld), (decF s f p acc).2 ≠ (0, 0) → (decF s f p acc).1 = [] := by
  intro f
  induction f with
  | zero => intro p acc h; simp [decF] at h
  | succ f ih =>
    intro p acc h
    rw [decF] at h ⊢
    by_cases h1 : p < s.size
    · rw [if_pos h1] at h ⊢
      by_cases h2 : acc.length = 4096
      · rw [if_pos h2]
      · rw [if_neg h2] at h ⊢
        by_cases h3 : (rdFld s p).2.2 ≠ 0
        · rw [if_pos h3]
        · rw [if_neg h3] at h ⊢; exact ih _ _ h
    · rw [if_neg h1] at h; simp at h
theorem decode_bad_nil {s : ByteArray} (h : (decode s).2 ≠ (0, 0)) : (decode s).1 = [] := by
  unfold decode at h ⊢
  by_cases h1 : 262144 < s.size
  · rw [if_pos h1]
  · rw [if_neg h1] at h ⊢; exact decF_bad_nil s _ _ _ h

end Go.Proofs.YtmpahgklcabihaaGreat
