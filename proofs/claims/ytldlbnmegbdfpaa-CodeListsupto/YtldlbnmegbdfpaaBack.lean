/- CodeBack: what is encoded is decoded as the list; what is decoded is encoded as just those bytes. Proved: for every list of fields and every text that can be read, no condition. -/
import Derived.Test.YtldlbnmegbdfpaaSame
namespace Go.Proofs.Ytldlbnmegbdfpaa
open Go.RowKit

theorem decF_code (s : ByteArray) : ∀ (f p : Nat) (acc : List Fld), (decF s f p acc).2 ≠ (0, 0) → (decF s f p acc).2.2 ≠ 0 := by
  intro f
  induction f with
  | zero => intro p acc h; simp [decF] at h
  | succ f ih =>
    intro p acc h
    rw [decF] at h ⊢
    by_cases h1 : p < s.size
    · rw [if_pos h1] at h ⊢
      by_cases h2 : acc.length = 4096
      · rw [if_pos h2]; simp
      · rw [if_neg h2] at h ⊢
        by_cases h3 : (rdFld s p).2.2 ≠ 0
        · rw [if_pos h3]; exact h3
        · rw [if_neg h3] at h ⊢; exact ih _ _ h
    · rw [if_neg h1] at h; simp at h
theorem decode_code {s : ByteArray} (h : (decode s).2 ≠ (0, 0)) : (decode s).2.2 ≠ 0 := by
  unfold decode at h ⊢
  by_cases h1 : 262144 < s.size
  · rw [if_pos h1]; simp
  · rw [if_neg h1] at h ⊢; exact decF_code s _ _ _ h
theorem empty_text : (ByteArray.mk #[]).toList.isEmpty = true := by rw [str_empty]; rfl

theorem fits_size {fs : List Fld} (h : ∀ x ∈ fs, x.fits) : ∀ x ∈ fs, x.s.size ≤ 140737488351232 := fun x hx => (h x hx).2.2

set_option maxHeartbeats 3200000 in
theorem back_law (a : Option Addr) (cap : Nat) (fs : List Fld) (s : ByteArray) (w : World) (hl : Lies w a fs) (_ : (a = none → cap = 0) ∧ fs.length ≤ cap) (hn : fs.length * 32 ≤ 140737488351232) (hf : ∀ x ∈ fs, x.fits) (hs : s.size ≤ 140737488351232) :
    Calls Try.prog 5 #[.slice a fs.length cap, .string s] w fun e w' => e = .returned (.bool true) ∧ Below w.heap.size w w' := by
  go_enter Try.func5, Try.ntmps5
  go_wp2_with fail
  refine (works_any _).mono ?_
  rintro e w1 ⟨rfl, hb1⟩
  have hz1 := hb1.size
  go_wp2_with fail
  refine (Encode_any a cap fs w1 (hl.later hb1) (by omega) (fits_size hf)).mono ?_
  rintro e w2 ⟨rfl, hb2⟩
  have hb2' := hb1.trans (hb2.mono hz1)
  have hz2 := hb2'.size
  clear hb1 hb2
  rw [encodeV]
  by_cases hok : (encode fs).2 = 0
  rotate_left
  -- it was refused: nothing was told beside
  have he := encode_bad_empty hok
  obtain ⟨t0, ht0, hem⟩ : ∃ t : ByteArray, t = ⟨#[]⟩ ∧ (!t.toList.isEmpty) = false := ⟨_, rfl, by rw [empty_text]; rfl⟩
  rw [he, ← ht0]
  obtain ⟨er, her⟩ : ∃ er, er = (encode fs).2 := ⟨_, rfl⟩
  rw [← her] at hok ⊢
  have bq : ((er : Int) == 0) = false := by rw [beq_eq_false_iff_ne]; omega
  clear he her ht0
  rotate_left
  -- it was encoded: it is decoded as the list
  have hg := good_of hok
  rw [encode_good hg]
  have hsz : (ByteArray.mk (encs fs).toArray).size ≤ 140737488351232 := by show (encs fs).toArray.size ≤ _; have := hg.long; rw [List.size_toArray]; omega
  go_wp2_with fail
  refine (Decode_any _ _ hsz).mono ?_
  rintro e w3 ⟨v, rfl, hown, hb3⟩
  rw [decode_encs hg hf] at hown ⊢
  obtain ⟨a', cap', rfl, hl'⟩ := own_lies hown
  have hb3' := hb2'.trans (hb3.mono hz2)
  have hz3 := hb3'.size
  clear hok hown hb3 hsz
  go_wp2_with fail
  refine (same_any _ _ _ _ fs _ (hl'.later ((Below.refl _ _).alloc (Nat.le_refl _) _)) ((hl.later hb3').later ((Below.refl _ _).alloc (Nat.le_refl _) _)) (by omega)).mono ?_
  rintro e wz ⟨rfl, hb4⟩
  have hbz := (hb3'.alloc hz3 _).trans (hb4.mono (by simp; omega))
  have hzz := hbz.size
  clear hb2' hb3' hb4 hl'
  go_wp2_with fail
  rotate_left
  obtain ⟨wz, rfl⟩ : ∃ wz, wz = w2 := ⟨_, rfl⟩
  have hbz := hb2'
  have hzz := hz2
  clear hb2'
  all_goals
    refine (Decode_any s wz hs).mono ?_
    rintro e w5 ⟨v5, rfl, hown5, hb5⟩
    obtain ⟨a5, cap5, rfl, hl5⟩ := own_lies hown5
    have hb5' := hbz.trans (hb5.mono hzz)
    have hz5 := hb5'.size
    clear hown5 hb5 hbz
    by_cases hd : (decode s).2 = (0, 0)
    · obtain ⟨l5, hd5⟩ : ∃ l, decode s = (l, 0, 0) := ⟨(decode s).1, by rw [← hd]⟩
      obtain ⟨hee, hff⟩ := encode_decode hd5
      rw [hd5] at hl5 ⊢
      go_wp2_with fail
      refine (Encode_any a5 cap5 l5 _ (hl5.later ((Below.refl _ _).alloc (Nat.le_refl _) _)) (by have := (good_of (show (encode l5).2 = 0 by rw [hee])).many; omega) (fits_size hff)).mono ?_
      rintro e w6 ⟨rfl, hb6⟩
      have hb6' := (hb5'.alloc hz5 _).trans (hb6.mono (by simp; omega))
      rw [encodeV, hee]
      have beq : (s.toList == s.toList) = true := by simp
      go_wp2
      go_ret
      exact ⟨rfl, hb6'⟩
    · have hnil := decode_bad_nil hd
      rw [hnil]
      obtain ⟨⟨pa, pc⟩, hpq⟩ : ∃ q, q = (decode s).2 := ⟨_, rfl⟩
      have hpc := decode_code hd
      rw [← hpq] at hpc ⊢
      clear hpq hd
      simp only at hpc ⊢
      go_wp2
      all_goals
        go_ret
        exact ⟨rfl, hb5'.alloc hz5 _⟩

end Go.Proofs.Ytldlbnmegbdfpaa
