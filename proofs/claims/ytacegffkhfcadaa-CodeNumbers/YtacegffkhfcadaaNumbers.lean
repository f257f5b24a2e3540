/- CodeNumbers: a number has as few bytes as say it. Proved: for every int64 the call returns true and turns nothing that was there. No condition. -/
import Derived.Test.YtacegffkhfcadaaWorks
namespace Go.Proofs.Ytacegffkhfcadaa
open Go.RowKit

theorem one_lies (w : World) (n : Int) : Lies (w.alloc (.cells #[.bool false, .int .i64 n, .string ⟨#[]⟩] 45)) (some ⟨w.heap.size, 0, none⟩) [⟨false, n, ⟨#[]⟩⟩] := by
  refine Or.inr ⟨w.heap.size, 0, rfl, by simp, ?_⟩
  intro i hi
  match i, hi with
  | 0, _ => simp
theorem one_small (n : Int) : ∀ x ∈ ([⟨false, n, ⟨#[]⟩⟩] : List Fld), x.s.size ≤ 140737488351232 := by
  intro x hx; simp at hx; subst hx; show (ByteArray.mk #[]).size ≤ _; decide
/-- a field's text: how long it is, and its first two bytes -/
theorem one_text (n : Int) : ∃ t : ByteArray, t = ⟨(fld 78 (u64 n) []).toArray⟩ ∧ ∃ h : t.size = 2 + Pl.wd (u64 n), (t[0]'(by omega)).toNat = 78 ∧ (t[1]'(by omega)).toNat = Pl.wd (u64 n) := by
  refine ⟨_, rfl, ?_, ?_, ?_⟩
  · show (fld 78 (u64 n) []).toArray.size = _; rw [List.size_toArray, fld_length]; rfl
  · rfl
  · have := wd_byte (u64 n)
    show (UInt8.ofNat (Pl.wd (u64 n))).toNat = _
    omega
theorem enc_one (n : Int) : encode [⟨false, n, ⟨#[]⟩⟩] = (⟨(fld 78 (u64 n) []).toArray⟩, 0) := by
  have h8 := Pl.wd_le (u64 n)
  have e : encs [⟨false, n, ⟨#[]⟩⟩] = fld 78 (u64 n) [] := by simp [encs, enc_num]
  rw [encode, if_neg (by simp), if_neg (by simp [Fld.may]; decide), e, if_neg (by rw [fld_length]; simp; omega)]

set_option maxHeartbeats 1600000 in
theorem numbers_law (n : Int) (w : World) (_ : (Lit.int .i64 n).wf = true) :
    Calls Try.prog 7 #[.int .i64 n] w fun e w' => e = .returned (.bool true) ∧ Below w.heap.size w w' := by
  have hu := u64_lt n
  have h8 := Pl.wd_le (u64 n)
  go_enter Try.func7, Try.ntmps7
  go_wp2_with fail
  refine (works_any _).mono ?_
  rintro e w1 ⟨rfl, hb1⟩
  have hz1 := hb1.size
  go_wp2_with fail
  refine (Encode_any (some ⟨w1.heap.size, 0, none⟩) 1 [⟨false, n, ⟨#[]⟩⟩] _ (one_lies w1 n) (by simp) (one_small n)).mono ?_
  rintro e w2 ⟨rfl, hb2⟩
  rw [encodeV, enc_one]
  obtain ⟨t, ht, hts, ht0, ht1⟩ := one_text n
  rw [← ht]
  clear ht
  have hb3 := (hb1.alloc hz1 _).trans (hb2.mono (by simp; omega))
  clear hb1 hb2
  go_wp2
  rw [u64_wrap]
  go_loop [5, 6] (fun c m => ∃ (x k : Nat), m = .int .u64 x ∧ c = .int .i64 (k + 2 : Nat) ∧ x < 256 ^ (8 - k) ∧ k ≤ 8 ∧ k + Pl.wdF (8 - k) x = Pl.wd (u64 n)) (fun c _ => 10 - (intOf c).toNat)
  case atStart => exact ⟨u64 n, 0, rfl, rfl, by simpa using hu, by omega, by simp [Pl.wd]⟩
  case round =>
    obtain ⟨x, k, rfl, rfl, hx, hk, hw⟩ := hrel
    have HS := Pl.wd_step x k (Pl.wd (u64 n)) hx hk hw
    have HE := Pl.wd_end x k (Pl.wd (u64 n)) hw
    clear hw hx
    by_cases h0 : 0 < x
    · obtain ⟨h1, h2, h3⟩ := HS h0
      have H1 := hide h1
      have H3 := hide h3
      clear HS HE h1 h3
      go_wp2
      go_round
      case rel => exact ⟨x / 256, k + 1, by go_num, by go_num, H1.out, h2, H3.out⟩
      case measure => simp [intOf]; omega
    · have hk' := HE (by omega)
      subst hk'
      clear HS HE
      go_wp2
      go_ret
      exact ⟨rfl, hb3⟩

end Go.Proofs.Ytacegffkhfcadaa
