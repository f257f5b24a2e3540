/- Walks over field.go: the kinds of fields, their sizes, their bytes. -/
import Derived.Test.YtmpahgklcabihaaGreatLow
import Derived.Lib.AppendStr
import Derived.Deep.RegionHeld3
import Derived.Deep.QuietTactic
import Derived.BigQuiet
import Derived.WalkSmall
import Derived.Laws.EntriesVeiled
namespace Go.Proofs.YtmpahgklcabihaaGreat
open Go.RowKit

/-- the two kinds, as values -/
abbrev kNum : Value := .agg #[.int .u8 78, .func (.func 213) #[] #[], .func (.func 214) #[] #[]]
abbrev kTxt : Value := .agg #[.int .u8 84, .func (.func 211) #[] #[], .func (.func 212) #[] #[]]

set_option maxRecDepth 100000 in
set_option maxHeartbeats 400000 in
theorem numbers_any (w : World) :
    Calls Tryz.prog 174 #[] w fun e w' => e = .returned kNum ∧ Below w.heap.size w w' := by
  go_enter Tryz.func174, Tryz.ntmps174
  go_wp2
  exact bodyPost_ret (v := kNum) (by simp [results, Tryz.results174, go_sem]) rfl ⟨rfl, (Below.refl _ _).alloc (Nat.le_refl _) _⟩

set_option maxRecDepth 100000 in
set_option maxHeartbeats 400000 in
theorem texts_any (w : World) :
    Calls Tryz.prog 172 #[] w fun e w' => e = .returned kTxt ∧ Below w.heap.size w w' := by
  go_enter Tryz.func172, Tryz.ntmps172
  go_wp2
  exact bodyPost_ret (v := kTxt) (by simp [results, Tryz.results172, go_sem]) rfl ⟨rfl, (Below.refl _ _).alloc (Nat.le_refl _) _⟩

set_option maxRecDepth 100000 in
set_option maxHeartbeats 400000 in
theorem num1_any (n : Int) (w : World) :
    Calls Tryz.prog 213 #[.int .i64 n] w fun e w' => e = .returned (.int .u64 (IntKind.u64.wrap n)) ∧ w' = w := by
  go_enter Tryz.func213, Tryz.ntmps213
  go_wp2
  go_ret
  exact ⟨rfl, rfl⟩

set_option maxRecDepth 100000 in
set_option maxHeartbeats 400000 in
theorem num2_any (n : Int) (w : World) :
    Calls Tryz.prog 214 #[.int .i64 n] w fun e w' => e = .returned (.string ⟨#[]⟩) ∧ w' = w := by
  go_enter Tryz.func214, Tryz.ntmps214
  go_wp2
  go_ret
  exact ⟨rfl, rfl⟩

set_option maxRecDepth 100000 in
set_option maxHeartbeats 400000 in
theorem txt1_any (s : ByteArray) (w : World) (hs : s.size ≤ 9223372036854775807) :
    Calls Tryz.prog 211 #[.string s] w fun e w' => e = .returned (.int .u64 s.size) ∧ w' = w := by
  go_enter Tryz.func211, Tryz.ntmps211
  go_wp2
  go_ret
  exact ⟨ret_int (by first | rfl | (rw [IntKind.wrap_u64]; omega)), rfl⟩

set_option maxRecDepth 100000 in
set_option maxHeartbeats 400000 in
theorem txt2_any (s : ByteArray) (w : World) :
    Calls Tryz.prog 212 #[.string s] w fun e w' => e = .returned (.string s) ∧ w' = w := by
  go_enter Tryz.func212, Tryz.ntmps212
  go_wp2
  go_ret
  exact ⟨rfl, rfl⟩

theorem below_box (w : World) (o : Obj) (n : Nat) : Below w.heap.size w ((w.alloc o).drewN n) := below_drewN ((Below.refl _ _).alloc (Nat.le_refl _) _) n

set_option maxRecDepth 100000 in
set_option maxHeartbeats 400000 in
theorem sizeT_any (s : ByteArray) (w : World) (hs : s.size ≤ 140737488351232) :
    Calls Tryz.prog 207 #[kTxt, .string s] w fun e w' => e = .returned (.int .i64 (2 + Pl.wd s.size + s.size : Nat)) ∧ Below w.heap.size w w' := by
  have h8 := Pl.wd_le s.size
  go_enter Tryz.func207, Tryz.ntmps207
  go_wp2
  go_quiet ((first | (go_at_call 211; exact Calls.quiet_of_same (txt1_any _ _ (by omega))) | (go_at_call 212; exact Calls.quiet_of_same (txt2_any _ _)) | (go_at_call 209; exact Calls.quiet_of_same (width_any _ _ (by omega)))))
  go_wp2
  go_ret
  exact ⟨ret_int (by omega), below_box _ _ _⟩

/-- a number modulo 2^64 -/
def u64 (n : Int) : Nat := (n % 18446744073709551616).toNat
theorem u64_lt (n : Int) : u64 n < 18446744073709551616 := by unfold u64; omega
theorem u64_wrap (n : Int) : IntKind.u64.wrap n = (u64 n : Int) := by rw [IntKind.wrap_u64]; unfold u64; omega

set_option maxRecDepth 100000 in
set_option maxHeartbeats 400000 in
theorem num1'_any (n : Int) (w : World) :
    Calls Tryz.prog 213 #[.int .i64 n] w fun e w' => e = .returned (.int .u64 (u64 n)) ∧ w' = w := by
  rw [← u64_wrap]; exact num1_any n w

set_option maxRecDepth 100000 in
set_option maxHeartbeats 400000 in
theorem sizeN_any (n : Int) (w : World) :
    Calls Tryz.prog 208 #[kNum, .int .i64 n] w fun e w' => e = .returned (.int .i64 (2 + Pl.wd (u64 n) : Nat)) ∧ Below w.heap.size w w' := by
  have h8 := Pl.wd_le (u64 n)
  go_enter Tryz.func208, Tryz.ntmps208
  go_wp2
  go_quiet ((first | (go_at_call 213; exact Calls.quiet_of_same (num1'_any _ _)) | (go_at_call 214; exact Calls.quiet_of_same (num2_any _ _)) | (go_at_call 209; exact Calls.quiet_of_same (width_any _ _ (u64_lt _)))))
  go_wp2
  go_ret
  exact ⟨ret_int (by simp), below_box _ _ _⟩

end Go.Proofs.YtmpahgklcabihaaGreat
