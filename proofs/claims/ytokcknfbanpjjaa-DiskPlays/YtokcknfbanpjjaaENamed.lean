/- Walks over skylarkref02: Named, Used, known, Read. -/
import Derived.Test.YtokcknfbanpjjaaEPlace
namespace Go.Proofs.Ytokcknfbanpjjaa.Dk
open Go.RowKit Go.Maps Go.Joins

set_option maxHeartbeats 1600000 in
theorem rNamed_any (s : ByteArray) (w : World) (hs : s.size ≤ 140737488351232) :
    Calls Try.prog 35 #[.string s] w fun e w' => e = .returned (.bool (named s.data.toList)) ∧ w' = w := by
  have hlen : s.data.toList.length = s.size := (Lib.size_eq s).symm
  have hem : s.toList.isEmpty = (s.size == 0) := by rw [Lib.toList_data, Lib.size_eq]; cases s.data.toList <;> simp
  have HF : ∀ k (hk : k < s.size), byOk (s[k]'hk).toNat = false → named s.data.toList = false := fun k hk hb => by
    have hm : s.data.toList.all (fun c => byOk c.toNat) = false := by
      rw [List.all_eq_false]; exact ⟨s.data.toList[k]'(by rw [hlen]; exact hk), List.getElem_mem _, by
        have : (s.data.toList[k]'(by rw [hlen]; exact hk)) = s[k]'hk := rfl
        rw [this, hb]; simp⟩
    simp [named, hm]
  have HT : ∀ k (hk : k < s.size), (s.data.toList.take k).all (fun c => byOk c.toNat) = true → byOk (s[k]'hk).toNat = true → (s.data.toList.take (k + 1)).all (fun c => byOk c.toNat) = true := fun k hk h1 h2 => by
    have : (s.data.toList[k]'(by rw [hlen]; exact hk)) = s[k]'hk := rfl
    rw [List.take_succ_eq_append_getElem (by rw [hlen]; exact hk), List.all_append, List.all_cons, List.all_nil, h1, this, h2]; rfl
  have HE : 1 ≤ s.size → s.size ≤ 32 → s.data.toList.all (fun c => byOk c.toNat) = true → named s.data.toList = true := fun h1 h2 h3 => by simp only [named, hlen, h3]; simp; omega
  have HS : s.size < 1 ∨ 32 < s.size → named s.data.toList = false := fun h => by
    simp only [named, hlen]
    rcases h with h | h
    · simp; omega
    · rw [decide_eq_false (by omega : ¬ s.size ≤ 32)]; simp
  by_cases h0 : s.size < 1
  · rw [HS (Or.inl h0)]
    have hem' : s.toList.isEmpty = true := by rw [hem]; exact beq_iff_eq.2 (by omega)
    clear HF HT HE HS hem
    go_enter Try.func35, Try.ntmps35
    go_wp2
    go_ret
    exact ⟨rfl, rfl⟩
  · have hem' : s.toList.isEmpty = false := by rw [hem]; exact beq_eq_false_iff_ne.2 (by omega)
    by_cases h32 : 32 < s.size
    · rw [HS (Or.inr h32)]
      clear HF HT HE HS hem
      go_enter Try.func35, Try.ntmps35
      go_wp2
      go_ret
      exact ⟨rfl, rfl⟩
    · have g1 : (s.size : Int) ≤ 32 := by omega
      clear HS hem
      have HE' := HE (by omega) (by omega)
      clear HE
      generalize named s.data.toList = nd at *
      go_enter Try.func35, Try.ntmps35
      go_wp2
      go_loopw [3] (fun i wr => ∃ k : Nat, k ≤ s.size ∧ i = .int .i64 k ∧ (s.data.toList.take k).all (fun c => byOk c.toNat) = true ∧ wr = w) (fun i _ => s.size - (intOf i).toNat)
      case atStart => exact ⟨0, by omega, rfl, by simp, rfl⟩
      case round =>
        obtain ⟨k, hk, rfl, hall, rfl⟩ := hrel
        by_cases hlt : k < s.size
        · obtain ⟨c, hc⟩ : ∃ c, (s[k]'hlt).toNat = c := ⟨_, rfl⟩
          have hcl : c < 256 := by rw [← hc]; exact UInt8.toNat_lt _
          have hF := HF k hlt
          have hT := HT k hlt hall
          rw [hc] at hF hT
          have i1 : (0 : Int) ≤ (k : Int) := by omega
          have i2 : (k : Int) < (s.size : Int) := by omega
          clear HF HT HE' hall
          cases hb : byOk c
          · have hnd := hF hb
            subst hnd
            have HB := hide hb
            have hne : ((c : Int) == 46) = false := by rw [beq_eq_false_iff_ne]; intro e; have e' : c = 46 := by omega
                                                       rw [e'] at hb; revert hb; decide
            clear hF hT hb
            go_wp2
            all_goals first
              | (go_ret; exact ⟨rfl, rfl⟩)
              | (exfalso; have hb := HB.out; simp only [byOk, Bool.or_eq_false_iff, Bool.and_eq_false_iff, decide_eq_false_iff_not] at hb; omega)
              | (exfalso; rename_i hz; simp only [Bool.not_eq_false', decide_eq_true_eq] at hz; omega)
          · have HX := hide (hT hb)
            have HB := hide hb
            clear hF hT
            by_cases h46 : c = 46
            · subst h46
              clear hb
              go_wp2
              go_roundw
              case rel => exact ⟨k + 1, by omega, by go_num, HX.out, trivial⟩
              case measure => simp [intOf]; omega
            · have hne : ((c : Int) == 46) = false := by rw [beq_eq_false_iff_ne]; omega
              clear hb
              go_wp2
              all_goals first
                | (exfalso; have hb := HB.out; simp only [byOk, Bool.or_eq_true, Bool.and_eq_true, decide_eq_true_eq] at hb; omega)
                | (go_roundw
                   case rel => exact ⟨k + 1, by omega, by go_num, HX.out, trivial⟩
                   case measure => simp [intOf]; omega)
        · obtain rfl : k = s.size := by omega
          rw [List.take_of_length_le (by rw [hlen]; exact Nat.le_refl _)] at hall
          have hnd := HE' hall
          subst hnd
          clear hall HF HT HE'
          go_wp2
          go_ret
          exact ⟨rfl, rfl⟩

end Go.Proofs.Ytokcknfbanpjjaa.Dk
