/- among, of the laws. -/
import Derived.Test.YtmpahgklcabihaaGreatGCore
namespace Go.Proofs.YtmpahgklcabihaaGreat.Gk
open Go.RowKit Go.Joins

theorem tmod_twice (x n : Int) (hn : 0 < n) : (Int.tmod x n + n).tmod n = x % n := by
  have h1 := Int.emod_nonneg x (show n ≠ 0 by omega)
  have h2 := Int.emod_lt_of_pos x hn
  have h3 := Int.tmod_lt_of_pos x hn
  have h4 : -n < Int.tmod x n := by
    have := Int.tmod_lt_of_pos (-x) hn
    rw [Int.neg_tmod] at this; omega
  rw [Int.tmod_eq_emod_of_nonneg (by omega), Int.add_emod_right]
  have := Int.mul_tdiv_add_tmod x n
  conv => rhs; rw [← this]
  rw [Int.add_comm, Int.add_mul_emod_self_left]

set_option maxHeartbeats 400000 in
theorem among_any (x n : Int) (w : World) (hn : 0 < n) (hn1 : n ≤ 1000000) (_ : -9223372036854775808 ≤ x) (_ : x ≤ 9223372036854775807) :
    Calls Tryz.prog 14 #[.int .i64 x, .int .i64 n] w fun e w' => e = .returned (.int .i64 (x % n)) ∧ w = w' := by
  have h3 := Int.tmod_lt_of_pos x hn
  have h4 : -n < Int.tmod x n := by
    have := Int.tmod_lt_of_pos (-x) hn
    rw [Int.neg_tmod] at this; omega
  have hT := tmod_twice x n hn
  have hne : (n == 0) = false := by rw [beq_eq_false_iff_ne]; omega
  have hne' : n ≠ 0 := by omega
  go_enter Tryz.func14, Tryz.ntmps14
  go_wp2
  go_ret
  exact ⟨rfl, rfl⟩

end Go.Proofs.YtmpahgklcabihaaGreat.Gk
