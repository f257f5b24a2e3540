/- Walks over field.go: the kinds of fields, their sizes, their bytes. -/
import Derived.Test.YtkjcfkninmmbhaaLow
import Derived.Lib.AppendStr
import Derived.Deep.RegionHeld3
import Derived.Deep.QuietTactic
import Derived.BigQuiet
import Derived.WalkSmall
import Derived.Laws.EntriesVeiled
namespace Go.Proofs.Ytkjcfkninmmbhaa
open Go.RowKit

/-- the two kinds, as values -/
abbrev kNum : Value := .agg #[.int .u8 78, .func (.func 80) #[] #[], .func (.func 81) #[] #[]]
abbrev kTxt : Value := .agg #[.int .u8 84, .func (.func 78) #[] #[], .func (.func 79) #[] #[]]

set_option maxRecDepth 100000 in
set_option maxHeartbeats 400000 in
theorem numbers_any (w : World) :
    Calls Try.prog 55 #[] w fun e w' => e = .returned kNum ∧ Below w.heap.size w w' := by
  go_enter Try.func55, Try.ntmps55
  go_wp2
  exact bodyPost_ret (v := kNum) (by simp [results, Try.results55, go_sem]) rfl ⟨rfl, (Below.refl _ _).alloc (Nat.le_refl _) _⟩

set_option maxRecDepth 100000 in
set_option maxHeartbeats 400000 in
theorem texts_any (w : World) :
    Calls Try.prog 53 #[] w fun e w' => e = .returned kTxt ∧ Below w.heap.size w w' := by
  go_enter Try.func53, Try.ntmps53
  go_wp2
  exact bodyPost_ret (v := kTxt) (by simp [results, Try.results53, go_sem]) rfl ⟨rfl, (Below.refl _ _).alloc (Nat.le_refl _) _⟩

set_option maxRecDepth 100000 in
set_option maxHeartbeats 400000 in
theorem num1_any (n : Int) (w : World) :
    Calls Try.prog 80 #[.int .i64 n] w fun e w' => e = .returned (.int .u64 (IntKind.u64.wrap n)) ∧ w' = w := by
  go_enter Try.func80, Try.ntmps80
  go_wp2
  go_ret
  exact ⟨rfl, rfl⟩

set_option maxRecDepth 100000 in
set_option maxHeartbeats 400000 in
theorem num2_any (n : Int) (w : World) :
    Calls Try.prog 81 #[.int .i64 n] w fun e w' => e = .returned (.string ⟨#[]⟩) ∧ w' = w := by
  go_enter Try.func81, Try.ntmps81
  go_wp2
  go_ret
  exact ⟨rfl, rfl⟩

set_option maxRecDepth 100000 in
set_option maxHeartbeats 400000 in
theorem txt1_any (s : ByteArray) (w : World) (hs : s.size ≤ 9223372036854775807) :
    Calls Try.prog 78 #[.string s] w fun e w' => e = .returned (.int .u64 s.size) ∧ w' = w := by
  go_enter Try.func78, Try.ntmps78
  go_wp2
  go_ret
  exact ⟨ret_int (by first | rfl | (rw [IntKind.wrap_u64]; omega)), rfl⟩

set_option maxRecDepth 100000 in
set_option maxHeartbeats 400000 in
theorem txt2_any (s : ByteArray) (w : World) :
    Calls Try.prog 79 #[.string s] w fun e w' => e = .returned (.string s) ∧ w' = w := by
  go_enter Try.func79, Try.ntmps79
  go_wp2
  go_ret
  exact ⟨rfl, rfl⟩

theorem below_box (w : World) (o : Obj) (n : Nat) : Below w.heap.size w ((w.alloc o).drewN n) := below_drewN ((Below.refl _ _).alloc (Nat.le_refl _) _) n

set_option maxRecDepth 100000 in
set_option maxHeartbeats 400000 in
theorem sizeT_any (s : ByteArray) (w : World) (hs : s.size ≤ 140737488351232) :
    Calls Try.prog 74 #[kTxt, .string s] w fun e w' => e = .returned (.int .i64 (2 + Pl.wd s.size + s.size : Nat)) ∧ Below w.heap.size w w' := by
  have h8 := Pl.wd_le s.size
  go_enter Try.func74, Try.ntmps74
  go_wp2
  go_quiet ((first | (go_at_call 78; exact Calls.quiet_of_same (txt1_any _ _ (by omega))) | (go_at_call 79; exact Calls.quiet_of_same (txt2_any _ _)) | (go_at_call 76; exact Calls.quiet_of_same (width_any _ _ (by omega)))))
  go_wp2
  go_ret
  exact ⟨ret_int (by omega), below_box _ _ _⟩

/-- a number modulo 2^64 -/
def u64 (n : Int) : Nat := (n % 18446744073709551616).toNat
theorem u64_lt (n : Int) : u64 n < 18446744073709551616 := by unfold u64; omega
theorem u64_wrap (n : Int) : IntKind.u64.wrap n = (u64 n : Int) := by rw [IntKind.wrap_u64]; unfold u64; omega

set_option maxRecDepth 100000 in
set_option maxHeartbeats 400000 in
theorem num1'_any (n : Int) (w : World) :
    Calls Try.prog 80 #[.int .i64 n] w fun e w' => e = .returned (.int .u64 (u64 n)) ∧ w' = w := by
  rw [← u64_wrap]; exact num1_any n w

set_option maxRecDepth 100000 in
set_option maxHeartbeats 400000 in
theorem sizeN_any (n : Int) (w : World) :
    Calls Try.prog 75 #[kNum, .int .i64 n] w fun e w' => e = .returned (.int .i64 (2 + Pl.wd (u64 n) : Nat)) ∧ Below w.heap.size w w' := by
  have h8 := Pl.wd_le (u64 n)
  go_enter Try.func75, Try.ntmps75
  go_wp2
  go_quiet ((first | (go_at_call 80; exact Calls.quiet_of_same (num1'_any _ _)) | (go_at_call 81; exact Calls.quiet_of_same (num2_any _ _)) | (go_at_call 76; exact Calls.quiet_of_same (width_any _ _ (u64_lt _)))))
  go_wp2
  go_ret
  exact ⟨ret_int (by simp), below_box _ _ _⟩

end Go.Proofs.Ytkjcfkninmmbhaa
