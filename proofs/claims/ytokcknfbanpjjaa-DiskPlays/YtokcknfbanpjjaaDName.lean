/- Walks over name.go: byteMayBe, nameMayBe. -/
import Derived.Test.YtokcknfbanpjjaaDTakes
namespace Go.Proofs.Ytokcknfbanpjjaa.Dk
open Go.RowKit Go.Maps Go.Joins

def byOk (c : Nat) : Bool := (decide (97 ≤ c) && decide (c ≤ 122)) || (decide (48 ≤ c) && decide (c ≤ 57)) || decide (c = 46)
/-- may a file have that name? -/
def named (k : Bs) : Bool := decide (1 ≤ k.length) && decide (k.length ≤ 32) && k.all fun c => byOk c.toNat

set_option maxHeartbeats 400000 in
theorem byte_any (c : Nat) (w : World) (hc : c < 256) :
    Calls Try.prog 48 #[.int .u8 c] w fun e w' => e = .returned (.bool (byOk c)) ∧ w' = w := by
  go_enter Try.func48, Try.ntmps48
  go_wp2
  all_goals
    go_ret
    refine ⟨?_, rfl⟩
    simp only [byOk]
    simp_all
    try omega

set_option maxHeartbeats 800000 in
theorem name_any (s : ByteArray) (w : World) (hs : s.size ≤ 140737488351232) :
    Calls Try.prog 31 #[.string s] w fun e w' => e = .returned (.bool (named s.data.toList)) ∧ Below w.heap.size w w' := by
  have hlen : s.data.toList.length = s.size := (Lib.size_eq s).symm
  by_cases h0 : s.size < 1 ∨ 32 < s.size
  · have hn : named s.data.toList = false := by
      simp only [named, hlen]
      rcases h0 with h | h
      · simp; omega
      · rw [decide_eq_false (by omega : ¬ s.size ≤ 32)]; simp
    rw [hn]
    go_enter Try.func31, Try.ntmps31
    go_wp2
    all_goals
      go_ret
      exact ⟨rfl, Below.refl _ _⟩
  · have h1 : (1 : Int) ≤ (s.size : Int) := by omega
    have h2 : (s.size : Int) ≤ 32 := by omega
    go_enter Try.func31, Try.ntmps31
    go_wp2
    go_loopw [14] (fun i wr => ∃ k : Nat, k ≤ s.size ∧ i = .int .i64 k ∧ (s.data.toList.take k).all (fun c => byOk c.toNat) = true ∧ wr = w) (fun i _ => s.size - (intOf i).toNat)
    case atStart => exact ⟨0, by omega, rfl, by simp, rfl⟩
    case round =>
      obtain ⟨k, hk, rfl, hall, rfl⟩ := hrel
      by_cases hlt : k < s.size
      · obtain ⟨c, hc⟩ : ∃ c, c = (s[k]'hlt).toNat := ⟨_, rfl⟩
        have hc1 : (s.data.toList[k]'(by rw [hlen]; exact hlt)).toNat = c := by rw [hc]; rfl
        have hc2 : (s[k]'hlt).toNat = c := hc.symm
        have hcl : c < 256 := by rw [hc]; exact UInt8.toNat_lt _
        have HT := hide (show (s.data.toList.take (k + 1)).all (fun c => byOk c.toNat) = ((s.data.toList.take k).all (fun c => byOk c.toNat) && byOk c) by
          rw [List.take_succ_eq_append_getElem (by rw [hlen]; exact hlt), List.all_append, List.all_cons, List.all_nil, hc1, Bool.and_true])
        have HN := hide (show byOk c = false → named s.data.toList = false by
          intro hb
          have hm : s.data.toList.all (fun c => byOk c.toNat) = false := by
            rw [List.all_eq_false]; exact ⟨s.data.toList[k]'(by rw [hlen]; exact hlt), List.getElem_mem _, by rw [hc1, hb]; simp⟩
          simp [named, hm])
        have i1 : (0 : Int) ≤ (k : Int) := by omega
        have i2 : (k : Int) < (s.size : Int) := by omega
        clear hc1 hc
        have hB := byte_any c wr hcl
        cases hb : byOk c
        · have HN' := hide (HN.out hb)
          rw [hb] at hB
          clear HN HT hb
          go_wp2_with fail
          refine hB.mono ?_
          rintro e w' ⟨rfl, rfl⟩
          go_wp2
          go_ret
          rw [HN'.out]
          exact ⟨rfl, Below.refl _ _⟩
        · have HT' := hide (show (s.data.toList.take (k + 1)).all (fun c => byOk c.toNat) = true by rw [HT.out, hall, hb]; rfl)
          rw [hb] at hB
          clear HN HT hb hall
          go_wp2_with fail
          refine hB.mono ?_
          rintro e w' ⟨rfl, rfl⟩
          go_wp2
          go_roundw
          case rel => exact ⟨k + 1, by omega, by go_num, HT'.out, trivial⟩
          case measure => simp [intOf]; omega
      · obtain rfl : k = s.size := by omega
        rw [List.take_of_length_le (by rw [hlen]; exact Nat.le_refl _)] at hall
        have HN := hide (show named s.data.toList = true by simp only [named, hlen, hall]; simp; omega)
        clear hall
        go_wp2
        go_ret
        rw [HN.out]
        exact ⟨rfl, Below.refl _ _⟩

end Go.Proofs.Ytokcknfbanpjjaa.Dk
