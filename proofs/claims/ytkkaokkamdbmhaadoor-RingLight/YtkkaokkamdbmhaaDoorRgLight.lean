/- RingLight: a chain without weight has no key; each key's chain is one that weighs something. Proved: for all weights and keys, no condition. -/
import Derived.Test.YtkkaokkamdbmhaaDoorRgWorks
import Derived.Test.YtkkaokkamdbmhaaDoorGArgsI
import Derived.Test.YtkkaokkamdbmhaaDoorGArgsT
namespace Go.Proofs.YtkkaokkamdbmhaaDoor.Rg
open Go.RowKit Go.Joins Gk

set_option maxHeartbeats 3200000 in
set_option maxRecDepth 100000 in
theorem light_law (a : Option Addr) (cap : Nat) (ws : List Int) (a' : Option Addr) (cap' : Nat) (ks : List ByteArray) (w : World) (hI : IntsAt w a cap ws) (hK : TextsAt w a' cap' ks) (hT : Tab w) :
    Calls Tryd.prog 5 #[.slice a ws.length cap, .slice a' ks.length cap'] w fun e w' => e = .returned (.bool true) ∧ Below w.heap.size w w' := by
  have hn : ws.length ≤ 9223372036854775807 := Nat.le_trans hI.room hI.max
  have hn' : ks.length ≤ 9223372036854775807 := Nat.le_trans hK.room hK.max
  have hl := hI.lies
  have hl' := hK.lies
  have HZ := hide hK.each
  clear hI hK
  go_enter Tryd.func5, Tryd.ntmps5
  go_wp2_with (go_at_call 18; refine (works_any w hT).mono ?_; rintro e w1 ⟨rfl, hb1⟩)
  go_loopw [5] (fun i wr => ∃ k : Nat, k ≤ ks.length ∧ i = .int .i64 k ∧ Below w.heap.size w wr) (fun i _ => ks.length - (intOf i).toNat)
  case atStart => exact ⟨0, Nat.zero_le _, rfl, hb1⟩
  case round =>
    clear hb1 w1
    obtain ⟨k, hk, rfl, hB⟩ := hrel
    by_cases hlt : k < ks.length
    · by_cases h40 : k < 40
      · obtain ⟨b, off, rfl, hbl, hc⟩ := (hl'.below hB).at tenc_len k hlt
        have c0 := hc 0 _ rfl
        rw [Nat.mul_one, Nat.add_zero] at c0
        have i1 : (0 : Int) ≤ (k : Int) := by omega
        have i2 : (k : Int) < (ks.length : Int) := by omega
        have i3 : (k : Int) < 40 := by omega
        have hz := HZ.out ks[k] (List.getElem_mem hlt)
        obtain ⟨y, hy⟩ : ∃ y, ks[k] = y := ⟨_, rfl⟩
        rw [hy] at c0 hz
        clear hc hy
        by_cases hM : May ws
        · go_wp2_with fail
          refine (of_yes a cap ws hM y (by omega) wr (hl.below hB) (hT.below hB)).mono ?_
          rintro e w2 ⟨⟨c, hO, rfl⟩, hb2⟩
          obtain ⟨hc1, hc2⟩ := hO.weighs
          have hB2 : Below w.heap.size w w2 := hB.trans (hb2.mono hB.size)
          obtain ⟨b2, off2, rfl, hbl2, hcc⟩ := (hl.below hB2).at ienc_len c hc1
          have cc := hcc 0 _ rfl
          rw [Nat.mul_one, Nat.add_zero] at cc
          have hg : ws.getD c 0 = ws[c] := by simp [List.getD_eq_getElem?_getD, hc1]
          rw [hg] at hc2
          have j0 : ¬ (c : Int) < 0 := by omega
          have j1 : (0 : Int) ≤ (c : Int) := by omega
          have j2 : (c : Int) < (ws.length : Int) := by omega
          have j3 : ¬ ws.length ≤ c := by omega
          have j4 : ¬ ws[c] < 1 := by omega
          generalize ws[c] = v at cc j4
          clear hcc hg hc2 hO hb2
          go_wp2
          go_roundw
          case rel => exact ⟨k + 1, by omega, by go_num, hB2⟩
          case measure => simp [intOf]; omega
        · have hC := check_any a cap ws wr (hl.below hB) hn
          rw [chk_no hM] at hC
          go_wp2_with (first | (go_at_call 21; refine (of_no a cap ws hM y wr (hl.below hB) hn).mono ?_; rintro e w2 ⟨rfl, hw2⟩; obtain rfl := hw2.symm) | (go_at_call 15; refine hC.mono ?_; rintro e w3 ⟨rfl, hw3⟩; obtain rfl := hw3.symm))
          go_ret
          exact ⟨rfl, hB⟩
      · have i2 : (k : Int) < (ks.length : Int) := by omega
        have i3 : ¬ (k : Int) < 40 := by omega
        go_wp2
        go_ret
        exact ⟨rfl, hB⟩
    · have i2 : ¬ (k : Int) < (ks.length : Int) := by omega
      go_wp2
      go_ret
      exact ⟨rfl, hB⟩

end Go.Proofs.YtkkaokkamdbmhaaDoor.Rg
