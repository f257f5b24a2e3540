/- Walks over the document's own answer: number, field. -/
import Derived.Test.YtkjcfkninmmbhaaRefBase
namespace Go.Proofs.Ytkjcfkninmmbhaa
open Go.RowKit

theorem take_drop_len (s : ByteArray) (p c : Nat) (h : c ≤ s.size - (p + 1)) (_ : p < s.size) : ((s.data.toList.drop (p + 1)).take c).length = c := by
  rw [List.length_take, List.length_drop, ← Lib.size_eq]; omega
theorem take_drop_at (s : ByteArray) (p c k : Nat) (h : c ≤ s.size - (p + 1)) (hp : p < s.size) (hk : k < c) : ((s.data.toList.drop (p + 1)).take c)[k]'(by rw [take_drop_len s p c h hp]; exact hk) = s[p + (k + 1)]'(by omega) := by
  have e : p + 1 + k = p + (k + 1) := by omega
  simp only [List.getElem_take, List.getElem_drop, Array.getElem_toList, e]
  rfl

theorem rd_fin' {p c q : Nat} {v : Value} {l : List UInt8} (hq : q = c) (h : Ending.returned (.tuple #[.int .i64 (i64 (Pl.val (l.take q))), .int .i64 (p + 1 + q : Nat), .int .i64 0]) = .returned v) {u : Nat} (hu : u = Pl.val ((l.take c).drop 0)) :
    Ending.returned (.tuple #[.int .i64 (wrap64 u), .int .i64 ((p : Int) + 1 + c), .int .i64 0]) = .returned v := by
  subst hq hu; rw [← h]; rfl

set_option maxRecDepth 100000 in
set_option maxHeartbeats 1600000 in
theorem rnumber_any (s : ByteArray) (p : Nat) (w : World) (hs : s.size ≤ 262144) (hp : p ≤ s.size) :
    Calls Try.prog 94 #[.string s, .int .i64 p] w fun e w' => e = .returned (rdNumV s p) ∧ w' = w := by
  by_cases h1 : p = s.size
  · subst h1
    go_enter Try.func94, Try.ntmps94
    go_wp2
    go_ret3
    exact ⟨by simp [rdNumV, rdNum], rfl⟩
  · have hlt : p < s.size := by omega
    have hb := byAt_of s p hlt
    obtain ⟨c, hc⟩ : ∃ c, c = byAt s p := ⟨_, rfl⟩
    have HC : Hid (c = byAt s p) := hc
    have hc' : (s[p]'hlt).toNat = c := by rw [hc, hb]
    have hcl : c < 256 := by rw [hc]; exact byAt_lt s p
    have E13 := hide (show decide (s.size ≤ p) = false from by simp; omega)
    clear hb hc
    by_cases h2 : 8 < c
    · go_enter Try.func94, Try.ntmps94
      go_wp2
      go_ret3
      exact ⟨rd_form h1 (by rw [← HC.out]; exact h2), rfl⟩
    · by_cases h3 : s.size - (p + 1) < c
      · go_enter Try.func94, Try.ntmps94
        go_wp2
        rw [E13.out]
        go_loopw [8, 9] (fun u i wr => u = .int .u64 0 ∧ i = .int .i64 c ∧ wr = w) (fun _ _ _ => 0)
        case atStart => exact ⟨rfl, rfl, rfl⟩
        case round =>
          obtain ⟨rfl, rfl, rfl⟩ := hrel
          go_wp2
          go_ret3
          exact ⟨rd_end h1 (by rw [← HC.out]; exact h2) (by rw [← HC.out]; exact h3), rfl⟩
      · have hl : c ≤ s.size - (p + 1) := by omega
        by_cases h5 : 0 < c ∧ byAt s (p + c) = 0
        · have hlt2 : p + c < s.size := by omega
          have hb := byAt_of s (p + c) hlt2
          have hd' : (s[p + c]'hlt2).toNat = 0 := by rw [← hb]; exact h5.2
          have HR := hide (rd_high h1 (by rw [← HC.out]; exact h2) (by rw [← HC.out]; exact h3) (by rw [← HC.out]; exact h5))
          have h50 := h5.1
          clear hb h5
          go_enter Try.func94, Try.ntmps94
          go_wp2
          rw [E13.out]
          go_loopw [8, 9] (fun u i wr => u = .int .u64 0 ∧ i = .int .i64 c ∧ wr = w) (fun _ _ _ => 0)
          case atStart => exact ⟨rfl, rfl, rfl⟩
          case round =>
            obtain ⟨rfl, rfl, rfl⟩ := hrel
            go_wp2
            go_ret3
            exact ⟨HR.out, rfl⟩
        · have HR := hide (rd_ok h1 (by rw [← HC.out]; exact h2) (by rw [← HC.out]; exact h3) (by rw [← HC.out]; exact h5))
          have HT := hide (fun (hq : p + c < s.size) (h : 0 < c) => show (s[p + c]'hq).toNat ≠ 0 from by rw [← byAt_of s (p + c) hq]; intro e; exact h5 ⟨h, e⟩)
          clear h5
          go_enter Try.func94, Try.ntmps94
          go_wp2
          rw [E13.out]
          go_loopw [8, 9] (fun u i wr => ∃ k : Nat, k ≤ c ∧ i = .int .i64 k ∧ u = .int .u64 (Pl.val (((s.data.toList.drop (p + 1)).take c).drop k)) ∧ wr = w) (fun _ i _ => (intOf i).toNat)
          case atStart => exact ⟨c, Nat.le_refl _, rfl, val_int (by rw [List.drop_of_length_le (by rw [take_drop_len s p c hl hlt]; exact Nat.le_refl _)]; rfl), rfl⟩
          case round =>
            obtain ⟨k, hk, rfl, rfl, rfl⟩ := hrel
            by_cases hk0 : 0 < k
            · have hlt3 : p + k < s.size := by omega
              have HV := hide (show Pl.val (((s.data.toList.drop (p + 1)).take c).drop (k - 1)) = (s[p + k]'hlt3).toNat + 256 * Pl.val (((s.data.toList.drop (p + 1)).take c).drop k) from by
                rw [Pl.val_drop _ (k - 1) (by rw [take_drop_len s p c hl hlt]; omega), show k - 1 + 1 = k from by omega, take_drop_at s p c (k - 1) hl hlt (by omega)]
                congr 2; simp only [show p + (k - 1 + 1) = p + k from by omega])
              have hvl := Pl.val_drop_lt ((s.data.toList.drop (p + 1)).take c) k 8 (by rw [take_drop_len s p c hl hlt]; omega) hk0
              generalize Pl.val (((s.data.toList.drop (p + 1)).take c).drop k) = u at *
              simp only [Nat.reduceSub, Nat.reducePow] at hvl
              have hbl := (s[p + k]'hlt3).toNat_lt
              by_cases hkc : k = c
              · have hck := hkc.symm
                clear hkc
                subst hck
                have hne := HT.out hlt3 hk0
                have be : (((s[p + c]'hlt3).toNat : Int) == 0) = false := by rw [beq_eq_false_iff_ne]; omega
                clear HT
                go_wp2
                go_roundw
                case rel => exact ⟨c - 1, by omega, by go_num, val_int (by rw [HV.out]; omega), by first | rfl | trivial⟩
                case measure => simp [intOf]; omega
              · have be : ((k : Int) == (c : Int)) = false := by rw [beq_eq_false_iff_ne]; omega
                clear HT
                go_wp2
                go_roundw
                case rel => exact ⟨k - 1, by omega, by go_num, val_int (by rw [HV.out]; omega), by first | rfl | trivial⟩
                case measure => simp [intOf]; omega
            · obtain rfl : k = 0 := by omega
              obtain ⟨u, hu⟩ : ∃ u, u = Pl.val (((s.data.toList.drop (p + 1)).take c).drop 0) := ⟨_, rfl⟩
              have HU := hide hu
              rw [← hu]
              clear hu HT
              go_wp2
              go_ret3
              exact ⟨rd_fin' HC.out.symm HR.out HU.out, rfl⟩

end Go.Proofs.Ytkjcfkninmmbhaa
