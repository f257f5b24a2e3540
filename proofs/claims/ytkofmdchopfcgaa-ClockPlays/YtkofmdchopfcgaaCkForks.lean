/- ClockForks: clocks of one seed draw the same numbers, whatever their times; a fork draws what the clock draws behind it; a number is below what was asked. Proved: for every seed, every list of draws and every place, no condition. -/
import Derived.Test.YtkofmdchopfcgaaCkWorks
import Derived.Test.YtkofmdchopfcgaaGArgsI
import Derived.Test.YtkofmdchopfcgaaGAmong
namespace Go.Proofs.Ytkofmdchopfcgaa.Ck
open Go.RowKit Go.Joins Gk

/-- two clocks' blocks are unlike -/
structure Far (b1 g1 b2 g2 : Nat) : Prop where
  bb : b1 ≠ b2
  bg : b1 ≠ g2
  gb : g1 ≠ b2
  gg : g1 ≠ g2
theorem Far.symm {b1 g1 b2 g2 : Nat} (h : Far b1 g1 b2 g2) : Far b2 g2 b1 g1 := ⟨h.bb.symm, h.gb.symm, h.bg.symm, h.gg.symm⟩
theorem CHeld.far {W W' : World} {T : TypeId} {b1 g1 b2 g2 : Nat} {S : Cst} (h : CHeld W T b2 g2 S) (ho : Only (two b1 g1) W W') (hf : Far b1 g1 b2 g2) : CHeld W' T b2 g2 S :=
  h.only ho (fun e => e.elim (fun e => hf.bb e.symm) (fun e => hf.gb e.symm)) (fun e => e.elim (fun e => hf.bg e.symm) (fun e => hf.gg e.symm))
theorem far_new {W : World} {T : TypeId} {b1 g1 b2 g2 : Nat} {S : Cst} (h : CHeld W T b1 g1 S) (h1 : W.heap.size ≤ b2) (h2 : W.heap.size ≤ g2) : Far b1 g1 b2 g2 := by
  have := h.lt
  have := h.rowLt
  exact ⟨by omega, by omega, by omega, by omega⟩

theorem draw_same {S R : Cst} (h : S.wd = R.wd) (n : Int) : (S.draw n).1 = (R.draw n).1 ∧ (S.draw n).2.wd = (R.draw n).2.wd := by
  unfold Cst.draw
  split <;> simp [h]
theorem draw_range (S : Cst) (n : Int) : 0 ≤ (S.draw n).1.1 ∧ ((S.draw n).1.2 = 0 ∧ (S.draw n).1.1 < n ∨ (S.draw n).1.2 = 1) := by
  unfold Cst.draw
  split
  · rename_i h
    exact ⟨Int.emod_nonneg _ (by omega), Or.inl ⟨rfl, Int.emod_lt_of_pos _ (by omega)⟩⟩
  · exact ⟨Int.le_refl _, Or.inr rfl⟩

set_option maxHeartbeats 6400000 in
set_option maxRecDepth 100000 in
theorem forks_law (seed : Int) (a : Option Addr) (cap : Nat) (ds : List Int) (cut : Int) (w : World) (wf : (Lit.int .u64 seed).wf = true) (hl : IntsAt w a cap ds) (wf2 : (Lit.int .i64 cut).wf = true) :
    Calls Try.prog 5 #[.int .u64 seed, .slice a ds.length cap, .int .i64 cut] w fun e w' => e = .returned (.bool true) ∧ Below w.heap.size w w' := by
  have hsb := bounds_u64 wf
  have hcb := bounds_i64 wf2
  have hrm := hl.room
  have hmx := hl.max
  obtain ⟨s0, s1'⟩ := hsb
  have s1 : seed < 18446744073709551616 := by omega
  obtain ⟨m, hm⟩ : ∃ m : Nat, min (ds.length : Int) 100 = (m : Int) := ⟨min ds.length 100, by omega⟩
  have hm1 : m ≤ ds.length ∧ m ≤ 100 := by omega
  have hAm := fun W => among_any cut ((m : Int) + 1) W (by omega) (by omega) hcb.1 hcb.2
  have hct0 : 0 ≤ cut % ((m : Int) + 1) := Int.emod_nonneg _ (by omega)
  have hct1 : cut % ((m : Int) + 1) < (m : Int) + 1 := Int.emod_lt_of_pos _ (by omega)
  obtain ⟨ct, hct⟩ : ∃ ct : Nat, cut % ((m : Int) + 1) = (ct : Int) := ⟨(cut % ((m : Int) + 1)).toNat, by omega⟩
  rw [hct] at hAm hct1
  clear hct hct0
  go_enter Try.func5, Try.ntmps5
  go_wp2_with fail
  refine (works_any w).mono ?_
  rintro e w1 ⟨rfl, hb1⟩
  go_wp2_with fail
  refine (new_ok 1 seed w1 (by omega) (by omega) ⟨s0, s1⟩).mono ?_
  rintro e w2 ⟨ba, ga, rfl, hba, hga, hh2, hb2⟩
  have hba' : w.heap.size ≤ ba := Nat.le_trans hb1.size hba
  have hga' : w.heap.size ≤ ga := Nat.le_trans hb1.size hga
  have hbw2 : Below w.heap.size w w2 := hb1.trans (hb2.mono hb1.size)
  clear hb1 hb2 hba hga
  go_wp2_with fail
  refine (new_ok 3 seed w2 (by omega) (by omega) ⟨s0, s1⟩).mono ?_
  rintro e w3 ⟨bb, gb, rfl, hbb, hgb, hr3, hb3⟩
  have hbb' : w.heap.size ≤ bb := Nat.le_trans hbw2.size hbb
  have hgb' : w.heap.size ≤ gb := Nat.le_trans hbw2.size hgb
  have hfar := far_new hh2 hbb hgb
  have hh3 := hh2.below hb3
  have hbw3 : Below w.heap.size w w3 := hbw2.trans (hb3.mono hbw2.size)
  clear hb3 hbb hgb hbw2 hh2
  have okb := Cst.new_ok (n := 3) (seed := seed) (by omega) (by omega) ⟨s0, s1⟩
  have oka := Cst.new_ok (n := 1) (seed := seed) (by omega) (by omega) ⟨s0, s1⟩
  have hAll := all_any w3 hr3 okb 7
  have hg7 : mayGo (Cst.new 3 seed).most 7 = 0 := by
    rw [show (Cst.new 3 seed).most = 0 from rfl]; decide
  have e7 : ((Cst.new 3 seed).all 7).1 = 0 := by simp [Cst.all, hg7]
  have w7 : ((Cst.new 3 seed).all 7).2.wd = seed := by unfold Cst.all; rw [if_pos hg7]; rfl
  have ok7 := okb.all 7
  rw [e7] at hAll
  generalize ((Cst.new 3 seed).all 7).2 = R0 at *
  clear hg7 e7 okb
  go_wp2_with fail
  refine hAll.mono ?_
  rintro e w4 ⟨rfl, hr4, ho4⟩
  have hh4 := hh3.far ho4 hfar.symm
  have hb4 := below_only hbw3 ho4 hbb' hgb'
  clear hAll hbw3 hh3 hr3 ho4
  go_wp2_with fail
  refine (hAm _).mono ?_
  rintro e w5 ⟨rfl, rfl⟩
  clear hAm
  go_wp2
  go_loopw [12, 59] (fun fk i wr => ∃ (k : Nat) (S R : Cst), k ≤ m ∧ i = .int .i64 k ∧ CHeld wr ClkT ba ga S ∧ S.Ok ∧ CHeld wr ClkT bb gb R ∧ S.wd = R.wd ∧ Below w.heap.size w wr ∧ ((fk = .pointer none ∧ k ≤ ct) ∨ ∃ (bf gf : Nat) (F : Cst), fk = .pointer (some ⟨bf, 0, none⟩) ∧ ct < k ∧ CHeld wr ClkT bf gf F ∧ S.wd = F.wd ∧ Far ba ga bf gf ∧ Far bb gb bf gf ∧ w.heap.size ≤ bf ∧ w.heap.size ≤ gf)) (fun _ i _ => m - (intOf i).toNat)
  case atStart => exact ⟨0, Cst.new 1 seed, R0, by omega, rfl, hh4, oka, hr4, w7.symm, hb4, Or.inl ⟨rfl, by omega⟩⟩
  case round =>
    obtain ⟨k, S, R, hk, rfl, hS, hok, hR, hwd, hbx, hfk⟩ := hrel
    clear hh4 oka hr4 w7 hb4 ok7
    by_cases hlt : k < m
    · have j1 : (k : Int) < (m : Int) := by omega
      have j2 : (k : Int) < (ds.length : Int) := by omega
      have j0 : (0 : Int) ≤ (k : Int) := by omega
      obtain ⟨b, off, rfl, hc⟩ := hl.cell k (by omega)
      have hdb := hl.each ds[k] (List.getElem_mem (by omega))
      generalize ds[k]'(by omega) = d at *
      rcases hfk with ⟨rfl, hkc⟩ | ⟨bf, gf, F, rfl, hkc, hF, hwf, hfF, hfG, hbf, hgf⟩
      · by_cases hkc' : k = ct
        · subst hkc'
          have hq : ((k : Int) == (k : Int)) = true := by simp
          have hFk := fork_any _ hS hok
          go_wp2_with fail
          refine hFk.mono ?_
          rintro e wk ⟨bf, gf, rfl, hbf0, hgf0, hF, hbk⟩
          have hfF := far_new hS hbf0 hgf0
          have hfG := far_new hR hbf0 hgf0
          have hbf := Nat.le_trans hbx.size hbf0
          have hgf := Nat.le_trans hbx.size hgf0
          have hS' := hS.below hbk
          have hR' := hR.below hbk
          have hbx' := hbx.trans (hbk.mono hbx.size)
          clear hS hR hbx hbk hFk hbf0 hgf0
          have hS := hS'
          have hR := hR'
          have hbx := hbx'
          clear hS' hR' hbx'
          obtain ⟨F, hFe⟩ : ∃ F, F = S := ⟨_, rfl⟩
          rw [← hFe] at hF
          have hwf : S.wd = F.wd := by rw [hFe]
          clear hFe
          have cd0 := hc _ hbx
          have hDa := draw_any _ hS d
          have hDs := draw_same hwd d
          have hDr := draw_range S d
          have okS' := hok.draw d
          rw [hDs.1] at hDa hDr
          go_wp2_with fail
          refine hDa.mono ?_
          rintro e wa ⟨rfl, hSa, hoa⟩
          have hRa := hR.far hoa hfar
          have hFa := hF.far hoa hfF
          have hba := below_only hbx hoa hba' hga'
          have cd1 := hc _ hba
          have hDb := draw_any _ hRa d
          clear hDa hoa cd0 hS hR hbx hF
          go_wp2_with fail
          refine hDb.mono ?_
          rintro e wb ⟨rfl, hRb, hob⟩
          have hSb := hSa.far hob hfar.symm
          have hFb := hFa.far hob hfG
          have hbb := below_only hba hob hbb' hgb'
          have cd2 := hc _ hbb
          clear hDb hob cd1 hSa hRa hba hFa
          have hDf := draw_any _ hFb d
          have hDt := draw_same hwf d
          rw [← hDt.1, hDs.1] at hDf
          have hDw := hDt.2
          generalize (F.draw d).2 = F' at *
          have hDe := hDs.2
          generalize (S.draw d).2 = S' at *
          generalize (R.draw d).2 = R' at *
          generalize (R.draw d).1.1 = xv at *
          generalize (R.draw d).1.2 = ev at *
          clear hDs hDt
          have hx1 : (xv != xv) = false := by simp
          have hx2 : ¬ xv < 0 := by omega
          rcases hDr.2 with ⟨rfl, hlt⟩ | rfl
          · have hx3 : ¬ d ≤ xv := by omega
            clear hDr
            go_wp2_with fail
            refine hDf.mono ?_
            rintro e wc ⟨rfl, hFc, hoc⟩
            have hSc := hSb.far hoc hfF.symm
            have hRc := hRb.far hoc hfG.symm
            have hbc := below_only hbb hoc hbf hgf
            clear hDf hoc cd2 hSb hRb hFb hbb
            go_wp2
            go_roundw
            case rel => exact ⟨k + 1, S', R', by omega, by go_num, hSc, okS', hRc, hDe, hbc, Or.inr ⟨bf, gf, F', rfl, by omega, hFc, hDw, hfF, hfG, hbf, hgf⟩⟩
            case measure => simp [intOf]; omega
          · clear hDr
            go_wp2_with fail
            refine hDf.mono ?_
            rintro e wc ⟨rfl, hFc, hoc⟩
            have hSc := hSb.far hoc hfF.symm
            have hRc := hRb.far hoc hfG.symm
            have hbc := below_only hbb hoc hbf hgf
            clear hDf hoc cd2 hSb hRb hFb hbb
            go_wp2
            go_roundw
            case rel => exact ⟨k + 1, S', R', by omega, by go_num, hSc, okS', hRc, hDe, hbc, Or.inr ⟨bf, gf, F', rfl, by omega, hFc, hDw, hfF, hfG, hbf, hgf⟩⟩
            case measure => simp [intOf]; omega
        · have hq : ((k : Int) == (ct : Int)) = false := by rw [beq_eq_false_iff_ne]; omega
          have cd0 := hc _ hbx
          have hDa := draw_any _ hS d
          have hDs := draw_same hwd d
          have hDr := draw_range S d
          have okS' := hok.draw d
          rw [hDs.1] at hDa hDr
          go_wp2_with fail
          refine hDa.mono ?_
          rintro e wa ⟨rfl, hSa, hoa⟩
          have hRa := hR.far hoa hfar
          have hba := below_only hbx hoa hba' hga'
          have cd1 := hc _ hba
          have hDb := draw_any _ hRa d
          clear hDa hoa cd0 hS hR hbx
          go_wp2_with fail
          refine hDb.mono ?_
          rintro e wb ⟨rfl, hRb, hob⟩
          have hSb := hSa.far hob hfar.symm
          have hbb := below_only hba hob hbb' hgb'
          have cd2 := hc _ hbb
          clear hDb hob cd1 hSa hRa hba
          have hDe := hDs.2
          generalize (S.draw d).2 = S' at *
          generalize (R.draw d).2 = R' at *
          generalize (R.draw d).1.1 = xv at *
          generalize (R.draw d).1.2 = ev at *
          clear hDs
          have hx1 : (xv != xv) = false := by simp
          have hx2 : ¬ xv < 0 := by omega
          rcases hDr.2 with ⟨rfl, hlt⟩ | rfl
          · have hx3 : ¬ d ≤ xv := by omega
            clear hDr
            have hSc := hSb
            have hRc := hRb
            have hbc := hbb
            go_wp2
            go_roundw
            case rel => exact ⟨k + 1, S', R', by omega, by go_num, hSc, okS', hRc, hDe, hbc, Or.inl ⟨rfl, by omega⟩⟩
            case measure => simp [intOf]; omega
          · clear hDr
            have hSc := hSb
            have hRc := hRb
            have hbc := hbb
            go_wp2
            go_roundw
            case rel => exact ⟨k + 1, S', R', by omega, by go_num, hSc, okS', hRc, hDe, hbc, Or.inl ⟨rfl, by omega⟩⟩
            case measure => simp [intOf]; omega
      · have hq : ((k : Int) == (ct : Int)) = false := by rw [beq_eq_false_iff_ne]; omega
        have cd0 := hc _ hbx
        have hDa := draw_any _ hS d
        have hDs := draw_same hwd d
        have hDr := draw_range S d
        have okS' := hok.draw d
        rw [hDs.1] at hDa hDr
        go_wp2_with fail
        refine hDa.mono ?_
        rintro e wa ⟨rfl, hSa, hoa⟩
        have hRa := hR.far hoa hfar
        have hFa := hF.far hoa hfF
        have hba := below_only hbx hoa hba' hga'
        have cd1 := hc _ hba
        have hDb := draw_any _ hRa d
        clear hDa hoa cd0 hS hR hbx hF
        go_wp2_with fail
        refine hDb.mono ?_
        rintro e wb ⟨rfl, hRb, hob⟩
        have hSb := hSa.far hob hfar.symm
        have hFb := hFa.far hob hfG
        have hbb := below_only hba hob hbb' hgb'
        have cd2 := hc _ hbb
        clear hDb hob cd1 hSa hRa hba hFa
        have hDf := draw_any _ hFb d
        have hDt := draw_same hwf d
        rw [← hDt.1, hDs.1] at hDf
        have hDw := hDt.2
        generalize (F.draw d).2 = F' at *
        have hDe := hDs.2
        generalize (S.draw d).2 = S' at *
        generalize (R.draw d).2 = R' at *
        generalize (R.draw d).1.1 = xv at *
        generalize (R.draw d).1.2 = ev at *
        clear hDs hDt
        have hx1 : (xv != xv) = false := by simp
        have hx2 : ¬ xv < 0 := by omega
        rcases hDr.2 with ⟨rfl, hlt⟩ | rfl
        · have hx3 : ¬ d ≤ xv := by omega
          clear hDr
          go_wp2_with fail
          refine hDf.mono ?_
          rintro e wc ⟨rfl, hFc, hoc⟩
          have hSc := hSb.far hoc hfF.symm
          have hRc := hRb.far hoc hfG.symm
          have hbc := below_only hbb hoc hbf hgf
          clear hDf hoc cd2 hSb hRb hFb hbb
          go_wp2
          go_roundw
          case rel => exact ⟨k + 1, S', R', by omega, by go_num, hSc, okS', hRc, hDe, hbc, Or.inr ⟨bf, gf, F', rfl, by omega, hFc, hDw, hfF, hfG, hbf, hgf⟩⟩
          case measure => simp [intOf]; omega
        · clear hDr
          go_wp2_with fail
          refine hDf.mono ?_
          rintro e wc ⟨rfl, hFc, hoc⟩
          have hSc := hSb.far hoc hfF.symm
          have hRc := hRb.far hoc hfG.symm
          have hbc := below_only hbb hoc hbf hgf
          clear hDf hoc cd2 hSb hRb hFb hbb
          go_wp2
          go_roundw
          case rel => exact ⟨k + 1, S', R', by omega, by go_num, hSc, okS', hRc, hDe, hbc, Or.inr ⟨bf, gf, F', rfl, by omega, hFc, hDw, hfF, hfG, hbf, hgf⟩⟩
          case measure => simp [intOf]; omega
    · go_wp2
      go_ret
      exact ⟨rfl, hbx⟩

end Go.Proofs.Ytkofmdchopfcgaa.Ck
