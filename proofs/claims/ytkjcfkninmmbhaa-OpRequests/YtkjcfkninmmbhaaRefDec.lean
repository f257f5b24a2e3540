/- Walks over the document's own answer: field, Decode. -/
import Derived.Test.YtkjcfkninmmbhaaRefRead
namespace Go.Proofs.Ytkjcfkninmmbhaa
open Go.RowKit

set_option maxRecDepth 100000 in
set_option maxHeartbeats 1600000 in
theorem rfield_any (s : ByteArray) (p : Nat) (w : World) (hs : s.size ≤ 262144) (hp : p < s.size) :
    Calls Try.prog 89 #[.string s, .int .i64 p] w fun e w' => e = .returned (rdFldV s p) ∧ Below w.heap.size w w' := by
  have hb := byAt_of s p hp
  obtain ⟨c, hc⟩ : ∃ c, c = byAt s p := ⟨_, rfl⟩
  have HC : Hid (c = byAt s p) := hc
  have hc' : (s[p]'hp).toNat = c := by rw [hc, hb]
  have hcl : c < 256 := by rw [hc]; exact byAt_lt s p
  have i1 : (0 : Int) ≤ (p : Int) := by omega
  have i2 : (p : Int) < (s.size : Int) := by omega
  clear hb hc
  by_cases h1 : c ≠ 78 ∧ c ≠ 84
  · have HR : Hid (rdFldV s p = .tuple #[Fld.zero.cell, .int .i64 0, .int .i64 3]) := by show _ = _; rw [rdFldV, rdFld, if_pos (by rw [← HC.out]; exact h1)]; rfl
    have b1 : ((c : Int) != 78) = true := by rw [bne_iff_ne]; omega
    have b2 : ((c : Int) != 84) = true := by rw [bne_iff_ne]; omega
    clear h1
    go_enter Try.func89, Try.ntmps89
    go_wp2
    rw [HR.out]
    exact bodyPost_ret (v := .tuple #[Fld.zero.cell, .int .i64 0, .int .i64 3]) (by simp [results, Try.results89, go_sem, Fld.zero]) rfl ⟨rfl, (Below.refl _ _).alloc (Nat.le_refl _) _⟩
  · have hle := rdNum_le s (p + 1) (by omega)
    have HN := hide (show ¬ (byAt s p ≠ 78 ∧ byAt s p ≠ 84) from by rw [← HC.out]; exact h1)
    have hcc : c = 78 ∨ c = 84 := by omega
    generalize hr : rdNum s (p + 1) = r at *
    obtain ⟨n, en, er⟩ := r
    have Hr := hide hr
    clear hr h1
    by_cases h2 : er ≠ 0
    · have HR : Hid (rdFldV s p = .tuple #[Fld.zero.cell, .int .i64 0, .int .i64 er]) := by show _ = _; rw [rdFldV, rdFld, if_neg HN.out, Hr.out, if_pos h2]; rfl
      have b3 : ((er : Int) != 0) = true := by rw [bne_iff_ne]; omega
      rcases hcc with rfl | rfl
      all_goals
        go_enter Try.func89, Try.ntmps89
        go_wp2_with fail
        refine (rnumber_any s (p + 1) _ hs (by omega)).mono ?_
        rintro e w' ⟨rfl, rfl⟩
        rw [rdNumV, Hr.out]
        go_wp2
        rw [HR.out]
        exact bodyPost_ret (v := .tuple #[Fld.zero.cell, .int .i64 0, .int .i64 er]) (by simp [results, Try.results89, go_sem, Fld.zero]) rfl ⟨rfl, (Below.refl _ _).alloc (Nat.le_refl _) _⟩
    · obtain rfl : er = 0 := by omega
      rcases hcc with rfl | rfl
      · have HR : Hid (rdFldV s p = .tuple #[.agg #[.bool false, .int .i64 n, .string ⟨#[]⟩], .int .i64 en, .int .i64 0]) := by show _ = _; rw [rdFldV, rdFld, if_neg HN.out, Hr.out, if_neg (by simp), if_pos (by rw [← HC.out])]; rfl
        go_enter Try.func89, Try.ntmps89
        go_wp2_with fail
        refine (rnumber_any s (p + 1) _ hs (by omega)).mono ?_
        rintro e w' ⟨rfl, rfl⟩
        rw [rdNumV, Hr.out]
        go_wp2
        rw [HR.out]
        exact bodyPost_ret (v := .tuple #[.agg #[.bool false, .int .i64 n, .string ⟨#[]⟩], .int .i64 en, .int .i64 0]) (by simp [results, Try.results89, go_sem]) rfl ⟨rfl, (Below.refl _ _).alloc (Nat.le_refl _) _⟩
      · have HT : Hid (rdFld s p = (if (rdTxt s en n).2.2 ≠ 0 then (Fld.zero, 0, (rdTxt s en n).2.2) else (⟨true, 0, (rdTxt s en n).1⟩, (rdTxt s en n).2.1, 0))) := by
          show _ = _; rw [rdFld, if_neg HN.out, Hr.out, if_neg (by simp), if_neg (by rw [← HC.out]; omega)]
        by_cases h3 : n < 0 ∨ 262144 < n
        · have HR : Hid (rdFldV s p = .tuple #[Fld.zero.cell, .int .i64 0, .int .i64 3]) := by
            show _ = _; rw [rdFldV, HT.out, rdTxt, if_pos h3]; rfl
          clear HT
          rcases h3 with h3 | h3
          all_goals
            go_enter Try.func89, Try.ntmps89
            go_wp2_with fail
            refine (rnumber_any s (p + 1) _ hs (by omega)).mono ?_
            rintro e w' ⟨rfl, rfl⟩
            rw [rdNumV, Hr.out]
            go_wp2
            rw [HR.out]
            exact bodyPost_ret (v := .tuple #[Fld.zero.cell, .int .i64 0, .int .i64 3]) (by simp [results, Try.results89, go_sem, Fld.zero]) rfl ⟨rfl, (Below.refl _ _).alloc (Nat.le_refl _) _⟩
        · obtain ⟨m, rfl⟩ := Int.eq_ofNat_of_zero_le (show 0 ≤ n by omega)
          simp only at hle
          by_cases h4 : s.size - en < m
          · have HR : Hid (rdFldV s p = .tuple #[Fld.zero.cell, .int .i64 0, .int .i64 11]) := by
              show _ = _; rw [rdFldV, HT.out, rdTxt, if_neg h3, if_pos (show ((s.size - en : Nat) : Int) < (m : Int) by omega)]; rfl
            have b4 : (s.size : Int) - (en : Int) < (m : Int) := by omega
            clear HT
            go_enter Try.func89, Try.ntmps89
            go_wp2_with fail
            refine (rnumber_any s (p + 1) _ hs (by omega)).mono ?_
            rintro e w' ⟨rfl, rfl⟩
            rw [rdNumV, Hr.out]
            go_wp2
            rw [HR.out]
            exact bodyPost_ret (v := .tuple #[Fld.zero.cell, .int .i64 0, .int .i64 11]) (by simp [results, Try.results89, go_sem, Fld.zero]) rfl ⟨rfl, (Below.refl _ _).alloc (Nat.le_refl _) _⟩
          · have HR : Hid (rdFldV s p = .tuple #[.agg #[.bool true, .int .i64 0, .string (s.extract en (en + m))], .int .i64 ((en : Int) + (m : Int)), .int .i64 0]) := by
              show _ = _; rw [rdFldV, HT.out, rdTxt, if_neg h3, if_neg (show ¬ ((s.size - en : Nat) : Int) < (m : Int) by omega), if_neg (by simp)]; rfl
            have b4 : ¬ (s.size : Int) - (en : Int) < (m : Int) := by omega
            have b5 : (en : Int) + (m : Int) ≤ (s.size : Int) := by omega
            clear HT
            go_enter Try.func89, Try.ntmps89
            go_wp2_with fail
            refine (rnumber_any s (p + 1) _ hs (by omega)).mono ?_
            rintro e w' ⟨rfl, rfl⟩
            rw [rdNumV, Hr.out]
            go_wp2
            rw [HR.out]
            exact bodyPost_ret (v := .tuple #[.agg #[.bool true, .int .i64 0, .string (s.extract en (en + m))], .int .i64 ((en : Int) + (m : Int)), .int .i64 0]) (by simp [results, Try.results89, go_sem]) rfl ⟨rfl, (Below.refl _ _).alloc (Nat.le_refl _) _⟩

end Go.Proofs.Ytkjcfkninmmbhaa
