/- CodeCuts, plain: a beginning of a list's bytes is that of fewer of its fields, or ends within the next one. -/
import Derived.Test.YtacegffkhfcadabRound
namespace Go.Proofs.Ytacegffkhfcadab
open Go.RowKit

/-- a number that ends early -/
theorem rdNum_cut {s : ByteArray} {p n m : Nat} {q : List UInt8} (hp : p ≤ s.size) (hm : m < 1 + Pl.wd n) (h : s.data.toList.drop p = (UInt8.ofNat (Pl.wd n) :: (Pl.low (Pl.wd n) n ++ q)).take m) : (rdNum s p).2.2 = 11 := by
  have hw := Pl.wd_le n
  have hl := drop_length s p
  rw [h, List.length_take, List.length_cons, List.length_append, Pl.low_length] at hl
  rw [rdNum]
  by_cases h0 : m = 0
  · rw [if_pos (by omega)]
  · obtain ⟨k, rfl⟩ : ∃ k, m = k + 1 := ⟨m - 1, by omega⟩
    have hb0 := byAt_drop s p 0
    rw [h, List.take_succ_cons, List.getD_cons_zero, Nat.add_zero] at hb0
    have hbw : byAt s p = Pl.wd n := by rw [hb0, UInt8.toNat_ofNat', Nat.mod_eq_of_lt (by omega)]
    rw [if_neg (by omega), hbw, if_neg (by omega), if_pos (by omega)]

theorem rdFld_num {s : ByteArray} {p : Nat} (hb : byAt s p = 78 ∨ byAt s p = 84) (h : (rdNum s (p + 1)).2.2 = 11) : (rdFld s p).2.2 = 11 := by
  have h1 : ¬ (byAt s p ≠ 78 ∧ byAt s p ≠ 84) := by omega
  have h2 : (rdNum s (p + 1)).2.2 ≠ 0 := by rw [h]; decide
  rw [rdFld, if_neg h1, if_pos h2]
  simp only
  rw [h]
theorem rdFld_txt {s : ByteArray} {p e : Nat} {v : Int} (hb : byAt s p = 84) (h : rdNum s (p + 1) = (v, e, 0)) (ht : (rdTxt s e v).2.2 = 11) : (rdFld s p).2.2 = 11 := by
  have h1 : ¬ (byAt s p ≠ 78 ∧ byAt s p ≠ 84) := by omega
  have h2 : ¬ byAt s p = 78 := by omega
  have h3 : (rdTxt s e v).2.2 ≠ 0 := by rw [ht]; decide
  rw [rdFld, if_neg h1, h, if_neg (by simp), if_neg h2, if_pos h3]
  simp only
  rw [ht]

/-- a field that ends early -/
theorem rdFld_cut {s : ByteArray} {p m : Nat} {x : Fld} (hs : x.s.size ≤ 262144) (hm0 : 0 < m) (hm : m < (enc x).length) (h : s.data.toList.drop p = (enc x).take m) : (rdFld s p).2.2 = 11 := by
  obtain ⟨t, n, sx⟩ := x
  have hl := drop_length s p
  rw [h, List.length_take, Nat.min_eq_left (by omega)] at hl
  have hb := byAt_drop s p 0
  rw [Nat.add_zero] at hb
  obtain ⟨k, rfl⟩ : ∃ k, m = k + 1 := ⟨m - 1, by omega⟩
  cases t
  · rw [enc_num_length] at hm
    have e : enc ⟨false, n, sx⟩ = 78 :: (UInt8.ofNat (Pl.wd (u64 n)) :: (Pl.low (Pl.wd (u64 n)) (u64 n) ++ [])) := by rw [enc_num]; simp [fld]
    rw [e, List.take_succ_cons] at h
    have h1 : s.data.toList.drop (p + 1) = (UInt8.ofNat (Pl.wd (u64 n)) :: (Pl.low (Pl.wd (u64 n)) (u64 n) ++ [])).take k := by rw [← List.drop_drop, h]; rfl
    have hb' : byAt s p = 78 := by rw [hb, h]; rfl
    have hr := rdNum_cut (by omega) (by omega) h1
    exact rdFld_num (Or.inl hb') hr
  · rw [enc_text_length] at hm
    have hs' : sx.size ≤ 262144 := hs
    have e : enc ⟨true, n, sx⟩ = 84 :: (UInt8.ofNat (Pl.wd sx.size) :: (Pl.low (Pl.wd sx.size) sx.size ++ sx.data.toList)) := by rw [enc_text]; simp [fld]
    rw [e, List.take_succ_cons] at h
    have h1 : s.data.toList.drop (p + 1) = (UInt8.ofNat (Pl.wd sx.size) :: (Pl.low (Pl.wd sx.size) sx.size ++ sx.data.toList)).take k := by rw [← List.drop_drop, h]; rfl
    have hb' : byAt s p = 84 := by rw [hb, h]; rfl
    by_cases hk : k < 1 + Pl.wd sx.size
    · have hr := rdNum_cut (by omega) hk h1
      exact rdFld_num (Or.inr hb') hr
    · have h2 : s.data.toList.drop (p + 1) = UInt8.ofNat (Pl.wd sx.size) :: (Pl.low (Pl.wd sx.size) sx.size ++ sx.data.toList.take (k - 1 - Pl.wd sx.size)) := by
        rw [h1]
        obtain ⟨j, rfl⟩ : ∃ j, k = j + 1 := ⟨k - 1, by omega⟩
        rw [List.take_succ_cons, List.take_append, Pl.low_length, List.take_of_length_le (by rw [Pl.low_length]; omega), Nat.add_sub_cancel]
      have hr := rdNum_enc (by omega) (by omega) h2
      have ht : (rdTxt s (p + 1 + 1 + Pl.wd sx.size) (i64 sx.size)).2.2 = 11 := by
        have hlt : ((s.size - (p + 1 + 1 + Pl.wd sx.size) : Nat) : Int) < (sx.size : Int) := by omega
        rw [i64_small _ hs', rdTxt, if_neg (by omega), if_pos hlt]
      exact rdFld_txt hb' hr ht

theorem decF_prefix (s : ByteArray) (q : List UInt8) : ∀ (l : List Fld) (f p : Nat) (acc : List Fld), s.size < p + f → acc.length + l.length ≤ 4096 → (∀ x ∈ l, x.may = true ∧ x.fits ∧ x.s.size ≤ 262144) → s.data.toList.drop p = encs l ++ q → p ≤ s.size →
    ∃ f', s.size < p + (encs l).length + f' ∧ p + (encs l).length ≤ s.size ∧ decF s f p acc = decF s f' (p + (encs l).length) (acc ++ l) := by
  intro l
  induction l with
  | nil => intro f p acc hf _ _ _ hp; exact ⟨f, by simpa [encs] using hf, by simpa [encs] using hp, by simp [encs]⟩
  | cons x l ih =>
    intro f p acc hf hn hx h hp
    rw [encs_cons, List.append_assoc] at h
    have hl := drop_length s p
    have hpos := enc_pos x
    rw [h, List.length_append] at hl
    obtain ⟨hm, hfit, hsz⟩ := hx x (List.mem_cons_self ..)
    have hr := rdFld_enc hm hfit hsz h
    simp only [List.length_cons] at hn
    cases f with
    | zero => omega
    | succ f =>
      obtain ⟨f', g1, g2, g3⟩ := ih f (p + (enc x).length) (acc ++ [x]) (by omega) (by simp; omega) (fun y hy => hx y (List.mem_cons_of_mem _ hy)) (by rw [← List.drop_drop, h, List.drop_left]) (by omega)
      have e : (encs (x :: l)).length = (enc x).length + (encs l).length := by rw [encs_cons, List.length_append]
      refine ⟨f', by omega, by omega, ?_⟩
      rw [decF, if_pos (by omega), if_neg (by omega), hr, if_neg (by simp), e, ← Nat.add_assoc, show acc ++ x :: l = acc ++ [x] ++ l from by simp]
      exact g3

/-- the bytes of a list, cut at a place -/
theorem decode_cut {l : List Fld} (hg : Good l) (hf : ∀ x ∈ l, x.fits) {c k : Nat} (hc : c ≤ (encs l).length) (hk : k ≤ l.length) (hlo : (encs (l.take k)).length ≤ c) (hhi : ∀ h : k < l.length, c < (encs (l.take k)).length + (enc l[k]).length) (s : ByteArray) (hs : s.data.toList = (encs l).take c) :
    decode s = if (encs (l.take k)).length = c then (l.take k, 0, 0) else ([], (encs (l.take k)).length, 11) := by
  have hsz : s.size = c := by rw [Lib.size_eq, hs, List.length_take]; omega
  have hlong := hg.long
  have hmany := hg.many
  have hx : ∀ x ∈ l, x.may = true ∧ x.fits ∧ x.s.size ≤ 262144 := by
    intro x hx
    have hm : x.may = true := List.all_eq_true.1 hg.may x hx
    refine ⟨hm, hf x hx, ?_⟩
    cases ht : x.text
    · have : x.s.size = 0 := by simpa [Fld.may, ht] using hm
      omega
    · have := enc_size_le x ht
      have := encs_mem_le hx
      omega
  have hsp := encs_split l k
  have hd : s.data.toList.drop 0 = encs (l.take k) ++ (encs (l.drop k)).take (c - (encs (l.take k)).length) := by
    rw [List.drop_zero, hs, hsp, List.take_append, List.take_of_length_le hlo]
  obtain ⟨f', g1, g2, g3⟩ := decF_prefix s _ (l.take k) (s.size + 1) 0 [] (by omega) (by simp; omega) (fun x h => hx x (List.mem_of_mem_take h)) hd (by omega)
  rw [Nat.zero_add, List.nil_append] at *
  rw [decode, if_neg (by omega), g3]
  by_cases he : (encs (l.take k)).length = c
  · rw [if_pos he]
    cases f' with
    | zero => omega
    | succ f => rw [decF, if_neg (by omega)]
  · rw [if_neg he]
    have hkl : k < l.length := by
      rcases Nat.lt_or_ge k l.length with h | h
      · exact h
      · rw [List.take_of_length_le h] at he hlo; omega
    have hcut : s.data.toList.drop (encs (l.take k)).length = (enc l[k]).take (c - (encs (l.take k)).length) := by
      rw [List.drop_zero] at hd
      rw [hd, List.drop_left, List.drop_eq_getElem_cons hkl, encs_cons, List.take_append_of_le_length (by have := hhi hkl; omega)]
    have hr := rdFld_cut (hx l[k] (List.getElem_mem hkl)).2.2 (by omega) (by have := hhi hkl; omega) hcut
    cases f' with
    | zero => omega
    | succ f =>
      have hlen : (l.take k).length = k := by rw [List.length_take]; omega
      rw [decF, if_pos (by omega), if_neg (by omega), hr, if_pos (by decide)]

end Go.Proofs.Ytacegffkhfcadab
