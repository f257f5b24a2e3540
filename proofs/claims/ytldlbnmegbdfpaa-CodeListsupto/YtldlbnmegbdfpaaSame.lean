/- The walk over the book: SameFields of a list and itself. -/
import Derived.Test.YtldlbnmegbdfpaaRound
namespace Go.Proofs.Ytldlbnmegbdfpaa
open Go.RowKit

theorem Lies.here {w : World} {a : Option Addr} {fs : List Fld} (h : Lies w a fs) (k : Nat) (hk : k < fs.length) :
    ∃ b off, a = some ⟨b, off, none⟩ ∧ w.cell? ⟨b, off + k * 3, none⟩ = some (.bool fs[k].text) ∧ w.cell? ⟨b, off + k * 3 + 1, none⟩ = some (.int .i64 fs[k].n) ∧ w.cell? ⟨b, off + k * 3 + 2, none⟩ = some (.string fs[k].s) := h.at k hk (Below.refl _ _)

set_option maxHeartbeats 1600000 in
theorem same_any (a a' : Option Addr) (cap cap' : Nat) (fs : List Fld) (w : World) (hl : Lies w a fs) (hl' : Lies w a' fs) (hn : fs.length ≤ 4611686018427387904) :
    Calls Try.prog 15 #[.slice a fs.length cap, .slice a' fs.length cap'] w fun e w' => e = .returned (.bool true) ∧ Below w.heap.size w w' := by
  have bn : ((fs.length : Int) != (fs.length : Int)) = false := by simp
  go_enter Try.func15, Try.ntmps15
  go_wp2
  go_loopw [5] (fun i wr => ∃ k : Nat, k ≤ fs.length ∧ i = .int .i64 k ∧ Below w.heap.size w wr) (fun i _ => fs.length - (intOf i).toNat)
  case atStart => exact ⟨0, by omega, rfl, Below.refl _ _⟩
  case round =>
    obtain ⟨k, hk, rfl, hbel⟩ := hrel
    by_cases hlt : k < fs.length
    · obtain ⟨b, off, rfl, c0, c1, c2⟩ := hl.at k hlt hbel
      obtain ⟨b', off', rfl, d0, d1, d2⟩ := hl'.at k hlt hbel
      generalize fs[k] = x at *
      have i1 : (0 : Int) ≤ (k : Int) := by omega
      have i2 : (k : Int) < (fs.length : Int) := by omega
      go_wp2
      go_quiet (fail)
      go_wp2
      go_roundw
      case rel => exact ⟨k + 1, by omega, by go_num, below_drewN hbel nq⟩
      case measure => simp [intOf]; omega
    · go_wp2
      go_ret
      exact ⟨rfl, hbel⟩

end Go.Proofs.Ytldlbnmegbdfpaa
