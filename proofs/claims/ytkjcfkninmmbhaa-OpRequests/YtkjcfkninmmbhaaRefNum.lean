/- Walks over the document's own answer: May, Number, One. -/
import Derived.Test.YtkjcfkninmmbhaaRefBase
namespace Go.Proofs.Ytkjcfkninmmbhaa
open Go.RowKit

set_option maxRecDepth 100000 in
set_option maxHeartbeats 800000 in
theorem rMay_any (x : Fld) (w : World) :
    Calls Try.prog 58 #[.agg #[.bool x.text, .int .i64 x.n, .string x.s]] w fun e w' => e = .returned (.bool x.may) ∧ Below w.heap.size w w' := by
  obtain ⟨t, n, s⟩ := x
  cases t
  · go_enter Try.func58, Try.ntmps58
    go_wp2
    go_ret
    exact ⟨by rw [str_empty]; rfl, (Below.refl _ _).alloc (Nat.le_refl _) _⟩
  · by_cases h : n = 0
    · subst h
      go_enter Try.func58, Try.ntmps58
      go_wp2
      go_ret
      exact ⟨rfl, (Below.refl _ _).alloc (Nat.le_refl _) _⟩
    · have bn : (n == 0) = false := by rw [beq_eq_false_iff_ne]; exact h
      have HR := hide (show Fld.may ⟨true, n, s⟩ = false from bn)
      go_enter Try.func58, Try.ntmps58
      go_wp2
      go_ret
      exact ⟨by rw [HR.out]; rfl, (Below.refl _ _).alloc (Nat.le_refl _) _⟩

/-- a slice of one byte as a text -/
theorem one_conv (c : Nat) (W : World) (H : Nat) (hc : c < 256) (h0 : W.cell? ⟨H, 0, none⟩ = some (.int .u8 (c : Int))) :
    (convert 81 9 (.slice (some ⟨H, 0, none⟩) 1 1)).run Try.prog W = .ok (.string ⟨#[UInt8.ofNat c]⟩) W := by
  have := run_convert_bytes_back (P := Try.prog) W 81 9 5 ⟨H, 0, none⟩ 1 [UInt8.ofNat c] Try.underlying81 Try.underlying5 Try.underlying9 (fun j hj => by
    rw [Go.WideShapes.add_plain, Nat.zero_add]
    have hj' : j = 0 := by simpa using hj
    subst hj'
    rw [h0]; simp [Nat.mod_eq_of_lt hc])
  exact this

/-- a number's bytes -/
def num (n : Nat) : List UInt8 := UInt8.ofNat (Pl.wd n) :: Pl.low (Pl.wd n) n
theorem num_length (n : Nat) : (num n).length = 1 + Pl.wd n := by simp [num, Pl.low_length]; omega
theorem num_fin {n k : Nat} {S : ByteArray} (hk : k = Pl.wd n) (hS : S = ⟨(Pl.low k n).toArray⟩) : (ByteArray.mk #[UInt8.ofNat k]) ++ S = ⟨(num n).toArray⟩ := by
  subst hk hS; apply ByteArray.ext; simp [num]
theorem num_next {n k x : Nat} {S : ByteArray} (hx : x = n / 256 ^ k) (hS : S = ⟨(Pl.low k n).toArray⟩) : S ++ (ByteArray.mk #[UInt8.ofNat (x % 256)]) = ⟨(Pl.low (k + 1) n).toArray⟩ := by
  subst hx hS; apply ByteArray.ext; rw [Pl.low_succ]; simp
theorem div_next {n k x : Nat} (hx : x = n / 256 ^ k) : x / 256 = n / 256 ^ (k + 1) := by rw [hx, Nat.div_div_eq_div_mul, Nat.pow_succ]

set_option maxRecDepth 100000 in
set_option maxHeartbeats 1600000 in
theorem rNumber_any (n : Int) (w : World) :
    Calls Try.prog 91 #[.int .i64 n] w fun e w' => e = .returned (.string ⟨(num (u64 n)).toArray⟩) ∧ Below w.heap.size w w' := by
  have hn := u64_lt n
  have hw := u64_wrap n
  generalize u64 n = m at *
  go_enter Try.func91, Try.ntmps91
  go_wp2
  try rw [hw]
  clear hw
  go_loopw [3, 4] (fun u s wr => ∃ (x k : Nat) (S : ByteArray), u = .int .u64 x ∧ s = .string S ∧ S.size = k ∧ S = ⟨(Pl.low k m).toArray⟩ ∧ x = m / 256 ^ k ∧ x < 256 ^ (8 - k) ∧ k ≤ 8 ∧ k + Pl.wdF (8 - k) x = Pl.wd m ∧ Below w.heap.size w wr) (fun _ s _ => 8 - (match s with | .string S => S.size | _ => 0))
  case atStart => exact ⟨m, 0, ⟨#[]⟩, rfl, rfl, rfl, rfl, by simp, by simpa using hn, by omega, by simp [Pl.wd], Below.refl _ _⟩
  case round =>
    obtain ⟨x, k, S, rfl, rfl, hk, hS, hx, hxl, hk8, hwd, hbel⟩ := hrel
    have HS := hide (Pl.wd_step x k (Pl.wd m) hxl hk8 hwd)
    have HE := hide (Pl.wd_end x k (Pl.wd m) hwd)
    have HX := hide (fun (h : 0 < x) => (⟨num_next hx hS, div_next hx⟩ : _ ∧ _))
    have HF := hide (fun (h : k = Pl.wd m) => num_fin h hS)
    have hx64 : x < 18446744073709551616 := Nat.lt_of_lt_of_le hxl (Nat.le_trans (Nat.pow_le_pow_right (by omega) (show 8 - k ≤ 8 by omega)) (by decide))
    have hwr := hbel.size
    clear hS hx hxl hwd
    by_cases h0 : 0 < x
    · obtain ⟨h1, h2, h3⟩ := HS.out h0
      have H1 := hide h1
      have H3 := hide h3
      obtain ⟨h4, h5⟩ := HX.out h0
      have H4 := hide h4
      have H5 := hide h5
      clear h1 h3 h4 h5 HS HE HX HF
      have hcv : (convert 81 9 (.slice (some ⟨wr.heap.size, 0, none⟩) 1 1)).run Try.prog (wr.alloc (.cells #[.int .u8 ((x : Int) % 256)] 5)) = .ok (.string ⟨#[UInt8.ofNat (x % 256)]⟩) (wr.alloc (.cells #[.int .u8 ((x : Int) % 256)] 5)) :=
        one_conv (x % 256) _ wr.heap.size (by omega) (by simp)
      have hsz : (S ++ ByteArray.mk #[UInt8.ofNat (x % 256)]).size = k + 1 := by rw [ByteArray.size_append, hk]; rfl
      go_wp2
      go_roundw
      case rel => exact ⟨x / 256, k + 1, _, by go_num, rfl, hsz, H4.out, H5.out, H1.out, h2, H3.out, hbel.alloc hwr _⟩
      case measure => show 8 - ByteArray.size _ < 8 - ByteArray.size _; rw [hsz, hk]; omega
    · have hk9 := HE.out (by omega)
      have HR := hide (HF.out hk9)
      clear HS HE HX HF hk9
      have hcv : (convert 81 9 (.slice (some ⟨wr.heap.size, 0, none⟩) 1 1)).run Try.prog (wr.alloc (.cells #[.int .u8 (k : Int)] 5)) = .ok (.string ⟨#[UInt8.ofNat k]⟩) (wr.alloc (.cells #[.int .u8 (k : Int)] 5)) :=
        one_conv k _ wr.heap.size (by omega) (by simp)
      subst hk
      go_wp2
      go_ret
      exact ⟨by rw [← HR.out]; rfl, hbel.alloc hwr _⟩

theorem enc_one_text (n : Int) (s : ByteArray) : (ByteArray.mk #[84] ++ ByteArray.mk (num s.size).toArray) ++ s = ⟨(enc ⟨true, n, s⟩).toArray⟩ := by
  rw [enc_text]; apply ByteArray.ext; simp [fld, num]
theorem enc_one_num (n : Int) (s : ByteArray) : ByteArray.mk #[78] ++ ByteArray.mk (num (u64 n)).toArray = ⟨(enc ⟨false, n, s⟩).toArray⟩ := by
  rw [enc_num]; apply ByteArray.ext; simp [fld, num]
theorem num_text (n : Nat) : ∃ S, S = ByteArray.mk (num n).toArray ∧ S.size ≤ 9 := ⟨_, rfl, by show (num n).toArray.size ≤ 9; rw [List.size_toArray, num_length]; have := Pl.wd_le n; omega⟩
theorem u64_nat (n : Nat) (h : n < 18446744073709551616) : u64 (n : Int) = n := by unfold u64; omega

set_option maxRecDepth 100000 in
set_option maxHeartbeats 1600000 in
theorem rOne_any (x : Fld) (w : World) (hs : x.s.size ≤ 140737488351232) :
    Calls Try.prog 82 #[.agg #[.bool x.text, .int .i64 x.n, .string x.s]] w fun e w' => e = .returned (.string ⟨(enc x).toArray⟩) ∧ Below w.heap.size w w' := by
  obtain ⟨t, n, s⟩ := x
  simp only at hs
  cases t
  · have HR := hide (enc_one_num n s)
    have hN := rNumber_any n
    obtain ⟨S, hS, hSz⟩ := num_text (u64 n)
    rw [← hS] at HR
    simp only [← hS] at hN
    clear hS
    have hz2 : (ByteArray.mk #[78] ++ S).size = 1 + S.size := ByteArray.size_append
    go_enter Try.func82, Try.ntmps82
    go_wp2_with fail
    refine (hN _).mono ?_
    rintro e w1 ⟨rfl, hb1⟩
    have hb2 := ((Below.refl w.heap.size w).alloc (Nat.le_refl _) _).trans (hb1.mono (by simp))
    clear hb1
    go_wp2
    go_ret
    exact ⟨by rw [← HR.out]; rfl, hb2⟩
  · have HR := hide (enc_one_text n s)
    have hN := rNumber_any (s.size : Int)
    simp only [u64_nat s.size (by omega)] at hN
    obtain ⟨S, hS, hSz⟩ := num_text s.size
    rw [← hS] at HR
    simp only [← hS] at hN
    clear hS
    have hz2 : (ByteArray.mk #[84] ++ S).size = 1 + S.size := ByteArray.size_append
    have q1 : ¬ 9223372036854775807 < 1 + S.size := by omega
    have q2 : ¬ 9223372036854775807 < 1 + S.size + s.size := by omega
    go_enter Try.func82, Try.ntmps82
    go_wp2_with fail
    obtain ⟨W, hW, d0, d1, d2, hsz1, hbel1⟩ := box3 (Below.refl w.heap.size w) (Nat.le_refl _) (.bool true) (.int .i64 n) (.string s) 77
    rw [← hW]
    clear hW
    have hS1 : Sat w.heap.size w.heap.size w 2 (.string s) W := ⟨d2, hsz1, hbel1⟩
    clear d1 hbel1 hsz1
    go_wp2_with fail
    clear d0 d2
    go_region_held3 (Sat w.heap.size w.heap.size w 2 (.string s)) (first | assumption | exact Sat.call (by assumption) (Nat.le_refl _) (by assumption) | exact Sat.drew (by assumption))
      (first | (go_at_call 91; refine (hN _).mono ?_; rintro e w1 ⟨rfl, hb1⟩))
    have hb3 : Sat w.heap.size w.heap.size w 2 (.string s) w1 := by assumption
    have hbel2 := hb3.2.2
    clear hb3 hS1 hb1
    go_wp2
    go_ret
    exact ⟨by rw [← HR.out]; rfl, hbel2⟩

end Go.Proofs.Ytkjcfkninmmbhaa
