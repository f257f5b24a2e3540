/- Walks over skylarkref02: Used leaves all as it is. -/
import Derived.Test.YtokcknfbanpjjaaERename
namespace Go.Proofs.Ytokcknfbanpjjaa.Dk
open Go.RowKit Go.Maps Go.Joins Gk

set_option maxHeartbeats 800000 in
theorem rUsed_same {own : Nat → Prop} {br room : Nat} {l : Fls} {v : Value} {fused : Bool} {left : Int} {down : Bool} (w : World) (h : RHeldL w own br room l v fused left down) (hl : l.length ≤ 64) (hu : used l ≤ 262144) :
    Calls Try.prog 30 #[.pointer (some ⟨br, 0, none⟩)] w fun e w' => e = .returned (.int .i64 (used l : Nat)) ∧ w' = w := by
  have c1 := h.c1
  obtain ⟨av, cv, rfl⟩ := own_slice h.row
  have HN : ∀ k (hk : k < l.length), used (l.take (k + 1)) = used (l.take k) + l[k].2.data.length ∧ used (l.take (k + 1)) ≤ used l := fun k hk => by
    have e1 : used (l.take (k + 1)) = used (l.take k) + l[k].2.data.length := by
      rw [used, used, List.take_succ_eq_append_getElem hk, sumL, sumL, List.map_append, List.sum_append]
      simp
    refine ⟨e1, ?_⟩
    have : used l = used (l.take (k + 1)) + used (l.drop (k + 1)) := by
      conv => lhs; rw [← List.take_append_drop (k + 1) l]
      simp only [used, sumL, List.map_append, List.sum_append]
    omega
  go_enter Try.func30, Try.ntmps30
  go_wp2
  go_loopw [3, 4] (fun n i wr => ∃ k : Nat, k ≤ l.length ∧ i = .int .i64 k ∧ n = .int .i64 (used (l.take k) : Nat) ∧ wr = w) (fun _ i _ => l.length - (intOf i).toNat)
  case atStart => exact ⟨0, by omega, rfl, rfl, rfl⟩
  case round =>
    obtain ⟨k, hk, rfl, rfl, hwe⟩ := hrel
    have hwe := hwe.symm
    subst hwe
    by_cases hlt : k < l.length
    · obtain ⟨g, cap', e, d0, d1, d2⟩ := h.at k hlt
      cases e
      obtain ⟨hn1, hn2⟩ := HN k hlt
      have hts : (txt l[k].2.data).size = l[k].2.data.length := by show (l[k].2.data.toArray).size = _; simp
      have HX := hide hn1
      have hsum : ((used (l.take k) : Nat) : Int) + ((txt l[k].2.data).size : Int) ≤ 262144 := by omega
      have i1 : (0 : Int) ≤ (k : Int) := by omega
      have i2 : (k : Int) < (l.length : Int) := by omega
      have HT := hide hts
      generalize txt l[k].2.data = dt at *
      clear HN hts hn1 d0 d2
      generalize used (l.take k) = q at *
      go_wp2
      go_roundw
      case rel => exact ⟨k + 1, by omega, by go_num, by rw [HX.out, ← HT.out]; go_num, by trivial⟩
      case measure => simp [intOf]; omega
    · obtain rfl : k = l.length := by omega
      rw [List.take_length]
      clear HN
      go_wp2
      go_ret
      exact ⟨rfl, rfl⟩

end Go.Proofs.Ytokcknfbanpjjaa.Dk
