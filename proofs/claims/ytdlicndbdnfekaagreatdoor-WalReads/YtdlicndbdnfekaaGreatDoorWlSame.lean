/- SameInts at lists that are the same. -/
import Derived.Test.YtdlicndbdnfekaaGreatDoorGQuiet
namespace Go.Proofs.YtdlicndbdnfekaaGreatDoor.Wl
open Go.RowKit Go.Joins Go.Sort Go.Proofs.YtdlicndbdnfekaaGreatDoor.Gk

set_option maxHeartbeats 3200000 in
set_option maxRecDepth 100000 in
theorem same_ints {α : Type} (enc : α → List Value) (f : α → Int) (he : ∀ x, enc x = [.int .i64 (f x)]) (a a' : Option Addr) (cap cap' : Nat) (l : List α) (w : World) (hl : Lies w enc a l) (hl' : Lies w enc a' l) (hn : l.length ≤ 9223372036854775807) :
    Calls Tryz.prog 18 #[.slice a l.length cap, .slice a' l.length cap'] w fun e w' => e = .returned (.bool true) ∧ Below w.heap.size w w' := by
  have mixed : Tryz.prog.follows .mixedOrders = true := by kernel_rfl
  have hk1 : ∀ x, (enc x).length = 1 := fun x => by rw [he]; rfl
  go_enter Tryz.func18, Tryz.ntmps18
  go_wp2
  go_loopw [5] (fun iv wr => ∃ k : Nat, k ≤ l.length ∧ iv = .int .i64 k ∧ Below w.heap.size w wr) (fun iv _ => l.length - (intOf iv).toNat)
  case atStart => exact ⟨0, Nat.zero_le _, rfl, Below.refl _ _⟩
  case round =>
    obtain ⟨k, hk, rfl, hb⟩ := hrel
    by_cases hkl : k < l.length
    · have j1 : (k : Int) < (l.length : Int) := by omega
      obtain ⟨b1, o1, rfl, hb1, hc1⟩ := (hl.below hb).at hk1 k hkl
      obtain ⟨b2, o2, rfl, hb2, hc2⟩ := (hl'.below hb).at hk1 k hkl
      rw [he] at hc1 hc2
      have d1 := hc1 0 _ rfl
      have d2 := hc2 0 _ rfl
      rw [Nat.mul_one, Nat.add_zero] at d1 d2
      generalize f l[k] = x at d1 d2
      clear hc1 hc2
      go_wp2_with fail
      refine wp_region_quiet_lit (by kernel_rfl) (by kernel_rfl) ?_
      refine QW.out ?_
      repeat (refine QW.step (fun K hK => ?_); go_simp; refine hK _ ?_; clear hK K)
      refine QW.nil ?_
      rintro w7 ⟨nq, rfl⟩
      have hb7 := hb.trans (below_draws w.heap.size wr nq)
      clear d1 d2
      generalize wr.drewN nq = w8 at hb7 ⊢
      go_wp2
      go_roundw
      case rel => exact ⟨k + 1, by omega, by go_num, hb7⟩
      case measure => simp [intOf]; omega
    · have j1 : ¬ (k : Int) < (l.length : Int) := by omega
      go_wp2
      go_ret
      exact ⟨rfl, hb⟩

end Go.Proofs.YtdlicndbdnfekaaGreatDoor.Wl
