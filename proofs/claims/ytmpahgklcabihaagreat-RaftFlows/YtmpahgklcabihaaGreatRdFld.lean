/- The walk over field.go: readField. -/
import Derived.Test.YtmpahgklcabihaaGreatRead
namespace Go.Proofs.YtmpahgklcabihaaGreat
open Go.RowKit

theorem hide {p : Prop} (h : p) : Hid p := h

def Fld.zero : Fld := ⟨false, 0, ⟨#[]⟩⟩

/-- what readField answers -/
def rdFld (s : ByteArray) (p : Nat) : Fld × Nat × Nat :=
  if byAt s p ≠ 78 ∧ byAt s p ≠ 84 then (Fld.zero, 0, 3)
  else if (rdNum s (p + 1)).2.2 ≠ 0 then (Fld.zero, 0, (rdNum s (p + 1)).2.2)
  else if byAt s p = 78 then (⟨false, (rdNum s (p + 1)).1, ⟨#[]⟩⟩, (rdNum s (p + 1)).2.1, 0)
  else if (rdTxt s (rdNum s (p + 1)).2.1 (rdNum s (p + 1)).1).2.2 ≠ 0 then (Fld.zero, 0, (rdTxt s (rdNum s (p + 1)).2.1 (rdNum s (p + 1)).1).2.2)
  else (⟨true, 0, (rdTxt s (rdNum s (p + 1)).2.1 (rdNum s (p + 1)).1).1⟩, (rdTxt s (rdNum s (p + 1)).2.1 (rdNum s (p + 1)).1).2.1, 0)
abbrev rdFldV (s : ByteArray) (p : Nat) : Value := .tuple #[(rdFld s p).1.cell, .int .i64 (rdFld s p).2.1, .int .i64 (rdFld s p).2.2]

theorem rdNum_le (s : ByteArray) (p : Nat) (hp : p ≤ s.size) : (rdNum s p).2.1 ≤ s.size := by
  unfold rdNum; repeat' split
  all_goals (simp; try omega)

set_option maxRecDepth 100000 in
set_option maxHeartbeats 1600000 in
theorem readField_any (s : ByteArray) (p : Nat) (w : World) (hs : s.size ≤ 262144) (hp : p < s.size) :
    Calls Tryz.prog 131 #[.string s, .int .i64 p] w fun e w' => e = .returned (rdFldV s p) ∧ Below w.heap.size w w' := by
  have hb := byAt_of s p hp
  obtain ⟨c, hc⟩ : ∃ c, c = byAt s p := ⟨_, rfl⟩
  have HC : Hid (c = byAt s p) := hc
  have hc' : (s[p]'hp).toNat = c := by rw [hc, hb]
  have hcl : c < 256 := by rw [hc]; exact byAt_lt s p
  clear hb hc
  by_cases h1 : c ≠ 78 ∧ c ≠ 84
  · have HR : Hid (rdFldV s p = .tuple #[Fld.zero.cell, .int .i64 0, .int .i64 3]) := by show _ = _; rw [rdFldV, rdFld, if_pos (by rw [← HC.out]; exact h1)]; rfl
    have b1 : ((c : Int) != 78) = true := by rw [bne_iff_ne]; omega
    have b2 : ((c : Int) != 84) = true := by rw [bne_iff_ne]; omega
    clear h1
    go_enter Tryz.func131, Tryz.ntmps131
    go_wp2
    rw [HR.out]
    exact bodyPost_ret (v := .tuple #[Fld.zero.cell, .int .i64 0, .int .i64 3]) (by simp [results, Tryz.results131, go_sem, Fld.zero]) rfl ⟨rfl, (Below.refl _ _).alloc (Nat.le_refl _) _⟩
  · have hle := rdNum_le s (p + 1) (by omega)
    have HN := hide (show ¬ (byAt s p ≠ 78 ∧ byAt s p ≠ 84) from by rw [← HC.out]; exact h1)
    have hcc : c = 78 ∨ c = 84 := by omega
    generalize hr : rdNum s (p + 1) = r at *
    obtain ⟨n, en, er⟩ := r
    have Hr := hide hr
    clear hr h1
    by_cases h2 : er ≠ 0
    · have HR : Hid (rdFldV s p = .tuple #[Fld.zero.cell, .int .i64 0, .int .i64 er]) := by show _ = _; rw [rdFldV, rdFld, if_neg HN.out, Hr.out, if_pos h2]; rfl
      have b3 : ((er : Int) != 0) = true := by rw [bne_iff_ne]; omega
      rcases hcc with rfl | rfl
      all_goals
        go_enter Tryz.func131, Tryz.ntmps131
        go_wp2_with fail
        refine (readNumber_any s (p + 1) _ hs (by omega)).mono ?_
        rintro e w' ⟨rfl, rfl⟩
        rw [rdNumV, Hr.out]
        go_wp2
        rw [HR.out]
        exact bodyPost_ret (v := .tuple #[Fld.zero.cell, .int .i64 0, .int .i64 er]) (by simp [results, Tryz.results131, go_sem, Fld.zero]) rfl ⟨rfl, (Below.refl _ _).alloc (Nat.le_refl _) _⟩
    · obtain rfl : er = 0 := by omega
      rcases hcc with rfl | rfl
      · have HR : Hid (rdFldV s p = .tuple #[.agg #[.bool false, .int .i64 n, .string ⟨#[]⟩], .int .i64 en, .int .i64 0]) := by
          show _ = _; rw [rdFldV, rdFld, if_neg HN.out, Hr.out, if_neg (by simp), if_pos HC.out.symm]; rfl
        go_enter Tryz.func131, Tryz.ntmps131
        go_wp2_with fail
        refine (readNumber_any s (p + 1) _ hs (by omega)).mono ?_
        rintro e w' ⟨rfl, rfl⟩
        rw [rdNumV, Hr.out]
        go_wp2
        rw [HR.out]
        exact bodyPost_ret (v := .tuple #[.agg #[.bool false, .int .i64 n, .string ⟨#[]⟩], .int .i64 en, .int .i64 0]) (by simp [results, Tryz.results131, go_sem]) rfl ⟨rfl, (Below.refl _ _).alloc (Nat.le_refl _) _⟩
      · have HR : Hid (rdFld s p = if (rdTxt s en n).2.2 ≠ 0 then (Fld.zero, 0, (rdTxt s en n).2.2) else (⟨true, 0, (rdTxt s en n).1⟩, (rdTxt s en n).2.1, 0)) := by
          show _ = _; rw [rdFld, if_neg HN.out, Hr.out, if_neg (by simp), if_neg (by rw [← HC.out]; omega)]
        go_enter Tryz.func131, Tryz.ntmps131
        go_wp2_with fail
        refine (readNumber_any s (p + 1) _ hs (by omega)).mono ?_
        rintro e w' ⟨rfl, rfl⟩
        rw [rdNumV, Hr.out]
        go_wp2_with fail
        refine (readText_any s en n _ hs hle).mono ?_
        rintro e w1 ⟨rfl, hb1⟩
        obtain ⟨⟨tx, te, tr⟩, ht⟩ : ∃ t, t = rdTxt s en n := ⟨_, rfl⟩
        rw [rdTxtV, ← ht]
        rw [← ht] at HR
        clear ht
        have c0 := hb1.cell (p := ⟨w.heap.size, 0, none⟩) (by simp)
        have c1 := hb1.cell (p := ⟨w.heap.size, 1, none⟩) (by simp)
        have c2 := hb1.cell (p := ⟨w.heap.size, 2, none⟩) (by simp)
        have f0 := hb1.frozen (p := ⟨w.heap.size, 0, none⟩) (by simp)
        have f1 := hb1.frozen (p := ⟨w.heap.size, 1, none⟩) (by simp)
        have f2 := hb1.frozen (p := ⟨w.heap.size, 2, none⟩) (by simp)
        have hz := hb1.size
        simp at c0 c1 c2 f0 f1 f2 hz
        have hbel := ((Below.refl w.heap.size w).alloc (Nat.le_refl _) _).trans (hb1.mono (by simp))
        clear hb1
        by_cases h4 : tr ≠ 0
        · have b3 : ((tr : Int) != 0) = true := by rw [bne_iff_ne]; omega
          go_wp2
          rw [rdFldV, HR.out, if_pos h4]
          exact bodyPost_ret (v := .tuple #[Fld.zero.cell, .int .i64 0, .int .i64 tr]) (by simp [results, Tryz.results131, go_sem, Fld.zero, c0, c1, c2]) rfl ⟨rfl, ((hbel.setCell (Nat.le_refl _) _).setCell (Nat.le_refl _) _).setCell (Nat.le_refl _) _⟩
        · obtain rfl : tr = 0 := by omega
          go_wp2
          rw [rdFldV, HR.out, if_neg h4]
          exact bodyPost_ret (v := .tuple #[.agg #[.bool true, .int .i64 0, .string tx], .int .i64 te, .int .i64 0]) (by simp [results, Tryz.results131, go_sem, c0, c1, c2]) rfl ⟨rfl, ((hbel.setCell (Nat.le_refl _) _).setCell (Nat.le_refl _) _).setCell (Nat.le_refl _) _⟩

end Go.Proofs.YtmpahgklcabihaaGreat
