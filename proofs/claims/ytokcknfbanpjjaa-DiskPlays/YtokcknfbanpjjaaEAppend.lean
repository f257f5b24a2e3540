/- Walks over skylarkref02: Append. -/
import Derived.Test.YtokcknfbanpjjaaEUsed
namespace Go.Proofs.Ytokcknfbanpjjaa.Dk
open Go.RowKit Go.Maps Go.Joins Gk

theorem txt_join (k : Bs) (s : ByteArray) : txt k ++ s = txt (k ++ s.data.toList) := by
  apply ByteArray.ext; apply Array.ext'; simp [txt]
theorem Nat.cast_zero_int : ((0 : Nat) : Int) = 0 := rfl
theorem le_used {k : Bs} {l : Fls} {f : Fil} (h : getL k l = some f) : f.data.length ≤ used l := by
  have := getL_some h
  exact le_sumL (fun f : Fil => f.data.length) this
theorem txt_nil : txt [] = ⟨#[]⟩ := rfl

set_option maxHeartbeats 3200000 in
theorem rAppend_any {own : Nat → Prop} {br : Nat} {S : St} (w : World) (h : RHeld w own br S) (hfr : Fresh own w) (s d : ByteArray) (hs : s.size ≤ 140737488351232) (hd : d.size ≤ 140737488351232) :
    Calls Try.prog 11 #[.pointer (some ⟨br, 0, none⟩), .string s, .string d] w fun e w' => e = .returned (.int .i64 (S.append s.data.toList d.data.toList).1) ∧ RHeld w' own br (S.append s.data.toList d.data.toList).2 ∧ Only own w w' := by
  obtain ⟨v, fused, left, hL, hF, hok⟩ := h
  obtain ⟨av, cv, rfl⟩ := own_slice hL.row
  have HOK := hide (hok.append s.data.toList d.data.toList)
  have hN1 := fun W => rNamed_any s W hs
  have hPl := place_any w hL hok.many hok.rising s
  have hu2 : used S.files ≤ 262144 := Nat.le_trans hok.sum hok.room
  have hrm := hok.room
  have hUs := fun W (hb : Below w.heap.size w W) => rUsed_same W (hL.below hb) hok.many hu2
  have hdl : d.data.toList.length = d.size := (Lib.size_eq d).symm
  have hmany := hok.many
  cases hn1 : named s.data.toList
  · have hv : S.append s.data.toList d.data.toList = (20, S) := by simp [St.append, hn1]
    rw [hv]
    rw [hn1] at hN1
    have HL := hide hL
    clear hL hv hPl hUs
    go_enter Try.func11, Try.ntmps11
    go_wp2_with fail
    refine (hN1 _).mono ?_
    rintro e w1 ⟨rfl, rfl⟩
    go_wp2
    go_ret
    exact ⟨rfl, ⟨_, fused, left, HL.out, hF, hok⟩, Only.refl _ _⟩
  · rw [hn1] at hN1
    by_cases hc1 : S.room < used S.files + d.size
    · have hv : S.append s.data.toList d.data.toList = (22, S) := by simp only [St.append, hn1, hdl]; rw [if_neg (by simp), if_pos (Or.inl hc1)]
      rw [hv]
      have hc : (S.room : Int) - (used S.files : Int) < (d.size : Int) := by omega
      have hdec : decide ((S.room : Int) - (used S.files : Int) < (d.size : Int)) = true := by simpa using hc
      have hwr : IntKind.i64.wrap ((S.room : Int) - (used S.files : Int)) = (S.room : Int) - (used S.files : Int) := wrap_small (by omega) (by omega)
      have HL := hide hL
      generalize (getL s.data.toList S.files).isSome = bb at *
      generalize posL s.data.toList S.files = i at *
      clear hL hv
      go_enter Try.func11, Try.ntmps11
      go_wp2_with fail
      refine (hN1 _).mono ?_
      rintro e w0 ⟨rfl, rfl⟩
      go_wp2_with fail
      refine hPl.mono ?_
      rintro e w1 ⟨rfl, hb1⟩
      have k0 := (HL.out.below hb1).c0
      have k1 := (HL.out.below hb1).c1
      clear hN1 hPl
      go_wp2_with fail
      go_quiet (first | (go_at_call 30; exact Calls.quiet_of_same (hUs _ (hb1.trans (below_draws _ _ _)))))
      go_wp2
      go_ret
      exact ⟨rfl, ⟨_, fused, left, HL.out.below (hb1.trans (below_draws _ _ _)), hF, hok⟩, Only.of_below (hb1.trans (below_draws _ _ _))⟩
    · have hc : ¬ (S.room : Int) - (used S.files : Int) < (d.size : Int) := by omega
      have hdec : decide ((S.room : Int) - (used S.files : Int) < (d.size : Int)) = false := by simpa using hc
      have hwr : IntKind.i64.wrap ((S.room : Int) - (used S.files : Int)) = (S.room : Int) - (used S.files : Int) := wrap_small (by omega) (by omega)
      have HL := hide hL
      have hpos := posL_get (k := s.data.toList) hok.rising
      cases hg : getL s.data.toList S.files with
      | none =>
        rw [hg] at hPl
        by_cases h64 : 64 ≤ S.files.length
        · have hv : S.append s.data.toList d.data.toList = (22, S) := by simp only [St.append, hn1, hdl]; rw [if_neg (by simp), if_pos (Or.inr ⟨hg, h64⟩)]
          rw [hv]
          have h64' : (64 : Int) ≤ (S.files.length : Int) := by omega
          generalize posL s.data.toList S.files = i at *
          clear hL hv hpos
          go_enter Try.func11, Try.ntmps11
          go_wp2_with fail
          refine (hN1 _).mono ?_
          rintro e w0 ⟨rfl, rfl⟩
          go_wp2_with fail
          refine hPl.mono ?_
          rintro e w1 ⟨rfl, hb1⟩
          have k0 := (HL.out.below hb1).c0
          have k1 := (HL.out.below hb1).c1
          clear hN1 hPl
          go_wp2_with fail
          go_quiet (first | (go_at_call 30; exact Calls.quiet_of_same (hUs _ (hb1.trans (below_draws _ _ _)))))
          go_wp2
          go_ret
          exact ⟨rfl, ⟨_, fused, left, HL.out.below (hb1.trans (below_draws _ _ _)), hF, hok⟩, Only.of_below (hb1.trans (below_draws _ _ _))⟩
        · have hv : S.append s.data.toList d.data.toList = S.do (putL s.data.toList ⟨d.data.toList, 0⟩) := by
            simp only [St.append, hn1, hdl]
            rw [if_neg (by simp), if_neg (by simp only [hg]; omega)]
            simp [fileOr, hg]
          have h64' : ¬ (64 : Int) ≤ (S.files.length : Int) := by omega
          rw [hv] at HOK ⊢
          generalize posL s.data.toList S.files = i at *
          clear hv hpos
          cases ht : (taken S.fuse S.down).1
          · rw [do_no ht] at HOK ⊢
            have hR := ready_at ht hL hF
            clear hL
            go_enter Try.func11, Try.ntmps11
            go_wp2_with fail
            refine (hN1 _).mono ?_
            rintro e w0 ⟨rfl, rfl⟩
            go_wp2_with fail
            refine hPl.mono ?_
            rintro e w1 ⟨rfl, hb1⟩
            have k0 := (HL.out.below hb1).c0
            have k1 := (HL.out.below hb1).c1
            clear hN1 hPl
            go_wp2_with fail
            go_quiet (first | (go_at_call 30; exact Calls.quiet_of_same (hUs _ (hb1.trans (below_draws _ _ _)))))
            go_wp2_with fail
            refine (hR _ (hb1.trans (below_draws _ _ _))).mono ?_
            rintro e w2 ⟨left', rfl, hL2, hF2, ho2, -⟩
            clear hR
            go_wp2
            go_ret
            exact ⟨rfl, ⟨_, fused, left', hL2, hF2, HOK.out⟩, (Only.of_below (hb1.trans (below_draws _ _ _))).trans ho2⟩
          · rw [do_yes ht] at HOK ⊢
            have hR := ready_at ht hL hF
            have hlr := fun g hg' => hL.rowLt (g := g) hg'
            have hlb := hL.lt
            clear hL
            go_enter Try.func11, Try.ntmps11
            go_wp2_with fail
            refine (hN1 _).mono ?_
            rintro e w0 ⟨rfl, rfl⟩
            go_wp2_with fail
            refine hPl.mono ?_
            rintro e w1 ⟨rfl, hb1⟩
            have k0 := (HL.out.below hb1).c0
            have k1 := (HL.out.below hb1).c1
            clear hN1 hPl
            go_wp2_with fail
            go_quiet (first | (go_at_call 30; exact Calls.quiet_of_same (hUs _ (hb1.trans (below_draws _ _ _)))))
            go_wp2_with fail
            refine (hR _ (hb1.trans (below_draws _ _ _))).mono ?_
            rintro e w2 ⟨left', rfl, hL2, hF2, ho2, hg2⟩
            have hb1' := hb1.trans (below_draws w0.heap.size w1 nq)
            have hoo := (Only.of_below (own := own) hb1').trans ho2
            have hz2 := hoo.size
            have hbl2 := hL2.lt
            have hL4 := hL2.below (below_alloc1 w2 (.cells #[.string s, .string (⟨#[]⟩ ++ d), .int .i64 0] RFil))
            have hO4 : Only own w2 (w2.alloc (.cells #[.string s, .string (⟨#[]⟩ ++ d), .int .i64 0] RFil)) := Only.of_below (below_alloc1 w2 _)
            have hP := rPut_any _ hL4 (hfr.later (Nat.le_trans hz2 hO4.size)) hok.many hok.rising s.data.toList ⟨d.data.toList, 0⟩
            have hje : txt d.data.toList = ⟨#[]⟩ ++ d := by rw [← txt_nil, txt_join]; simp
            have hse : txt s.data.toList = s := rfl
            simp only [fval, hje, hse, Nat.cast_zero_int] at hP
            have HO4 := hide (hoo.trans hO4)
            clear hR ho2 hg2 hL2 hL4 hO4
            go_wp2_with fail
            refine hP.mono ?_
            rintro e w5 ⟨rfl, ⟨v5, hL5⟩, ho5⟩
            clear hP
            go_wp2
            go_ret
            exact ⟨rfl, ⟨v5, fused, left', hL5, hF2, HOK.out⟩, HO4.out.trans ho5⟩
      | some f =>
        rw [hg] at hPl
        have hv : S.append s.data.toList d.data.toList = S.do (putL s.data.toList ⟨f.data ++ d.data.toList, f.safe⟩) := by
          simp only [St.append, hn1, hdl]
          rw [if_neg (by simp), if_neg (by simp only [hg]; simp; omega)]
          simp [fileOr, hg]
        rw [hv] at HOK ⊢
        obtain ⟨hi, hf1, hf2⟩ : ∃ h : posL s.data.toList S.files < S.files.length, (S.files[posL s.data.toList S.files]).1 = s.data.toList ∧ getL s.data.toList S.files = some (S.files[posL s.data.toList S.files]).2 := by
          rcases hpos with h1 | ⟨h1, _⟩
          · exact h1
          · rw [hg] at h1; cases h1
        have hfi : S.files[posL s.data.toList S.files] = (s.data.toList, f) := by rw [hg] at hf2; cases hf2; exact Prod.ext hf1 rfl
        clear hf1 hf2 hpos
        generalize posL s.data.toList S.files = i at *
        clear hv
        cases ht : (taken S.fuse S.down).1
        · rw [do_no ht] at HOK ⊢
          have hR := ready_at ht hL hF
          clear hL
          go_enter Try.func11, Try.ntmps11
          go_wp2_with fail
          refine (hN1 _).mono ?_
          rintro e w0 ⟨rfl, rfl⟩
          go_wp2_with fail
          refine hPl.mono ?_
          rintro e w1 ⟨rfl, hb1⟩
          have k0 := (HL.out.below hb1).c0
          have k1 := (HL.out.below hb1).c1
          clear hN1 hPl
          go_wp2_with fail
          go_quiet (first | (go_at_call 30; exact Calls.quiet_of_same (hUs _ (hb1.trans (below_draws _ _ _)))))
          go_wp2_with fail
          refine (hR _ (hb1.trans (below_draws _ _ _))).mono ?_
          rintro e w2 ⟨left', rfl, hL2, hF2, ho2, -⟩
          clear hR
          go_wp2
          go_ret
          exact ⟨rfl, ⟨_, fused, left', hL2, hF2, HOK.out⟩, (Only.of_below (hb1.trans (below_draws _ _ _))).trans ho2⟩
        · rw [do_yes ht] at HOK ⊢
          have hR := ready_at ht hL hF
          have hlr := fun g hg' => hL.rowLt (g := g) hg'
          have hlb := hL.lt
          clear hL
          go_enter Try.func11, Try.ntmps11
          go_wp2_with fail
          refine (hN1 _).mono ?_
          rintro e w0 ⟨rfl, rfl⟩
          go_wp2_with fail
          refine hPl.mono ?_
          rintro e w1 ⟨rfl, hb1⟩
          have k0 := (HL.out.below hb1).c0
          have k1 := (HL.out.below hb1).c1
          clear hN1 hPl
          go_wp2_with fail
          go_quiet (first | (go_at_call 30; exact Calls.quiet_of_same (hUs _ (hb1.trans (below_draws _ _ _)))))
          go_wp2_with fail
          refine (hR _ (hb1.trans (below_draws _ _ _))).mono ?_
          rintro e w2 ⟨left', rfl, hL2, hF2, ho2, hg2⟩
          have hb1' := hb1.trans (below_draws w0.heap.size w1 nq)
          have hoo := (Only.of_below (own := own) hb1').trans ho2
          have hz2 := hoo.size
          obtain ⟨g, cap', eg, r0, r1, r2⟩ := hL2.at i hi
          cases eg
          simp only [show S.take.2.files = S.files from rfl] at r0 r1 r2
          rw [hfi] at r0 r1 r2
          simp only at r0 r1 r2
          have c1' := hL2.c1
          have hgl : g < w2.heap.size := hL2.rowLt rfl
          have hbl2 := hL2.lt
          have hL4 := hL2.below (below_alloc1 w2 (.cells #[.string (txt s.data.toList), .string (txt f.data ++ d), .int .i64 f.safe] RFil))
          have hO4 : Only own w2 (w2.alloc (.cells #[.string (txt s.data.toList), .string (txt f.data ++ d), .int .i64 f.safe] RFil)) := Only.of_below (below_alloc1 w2 _)
          have hP := rPut_any _ hL4 (hfr.later (Nat.le_trans hz2 hO4.size)) hok.many hok.rising s.data.toList ⟨f.data ++ d.data.toList, f.safe⟩
          simp only [fval] at hP
          rw [← txt_join] at hP
          have hjl : (txt f.data).size + d.size ≤ 262144 := by
            have h1 : (txt f.data).size = f.data.length := by rw [Lib.size_eq, txt_list]
            have h2 := le_used hg
            omega
          have HO4 := hide (hoo.trans hO4)
          clear hR ho2 hg2 hL2 hL4 hO4
          go_wp2_with fail
          refine hP.mono ?_
          rintro e w5 ⟨rfl, ⟨v5, hL5⟩, ho5⟩
          clear hP
          go_wp2
          go_ret
          exact ⟨rfl, ⟨v5, fused, left', hL5, hF2, HOK.out⟩, HO4.out.trans ho5⟩

end Go.Proofs.Ytokcknfbanpjjaa.Dk
