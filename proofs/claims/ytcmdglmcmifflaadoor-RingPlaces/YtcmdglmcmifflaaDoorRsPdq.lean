/- Walks over the library's sort by a comparison that is a method's value: pdqsort, whole. -/
import Derived.Test.YtcmdglmcmifflaaDoorRsIns
import Derived.Test.YtcmdglmcmifflaaDoorRsHeap
import Derived.Test.YtcmdglmcmifflaaDoorRsCho
import Derived.Test.YtcmdglmcmifflaaDoorRsBrk
import Derived.Test.YtcmdglmcmifflaaDoorRsPin
import Derived.Test.YtcmdglmcmifflaaDoorRsPeq
import Derived.Test.YtcmdglmcmifflaaDoorRsPart
import Derived.Shelf.SlSortFuncK.PdqK
import Derived.Sort.Walk13
import Derived.Sort.AssemblyPlain
namespace Go.Proofs.YtcmdglmcmifflaaDoor.Rs
open Go.RowKit Go.Joins Go.Sort Gk
variable {N : Nat}

theorem hcode_eq (h : Hint) : hcode h = hintCode h := by cases h <;> rfl

set_option maxHeartbeats 51200000 in
set_option maxRecDepth 1000000 in
theorem pdq_any (r : Value) (cf : Pl N → Pl N → Int) (hO : SWO (ltOf cf)) (blk cap : Nat) (d0 : Array (Pl N)) (w0 : World) (hcmp : CL r cf blk d0.size w0) (R : Row1 ec w0 blk 0 d0) :
    ∀ (n a b limit : Nat) (d : Array (Pl N)) (w : World), b - a < n → d0.size = d.size → SP w0 blk d w → a ≤ b → b ≤ d.size → d.size < 4611686018427387904 → limit < 4611686018427387904 → Below (ltOf cf) a b d →
    Calls Tryd.prog 70 #[.slice (some ⟨blk, 0, none⟩) d.size cap, .int .i64 a, .int .i64 b, .int .i64 limit, fv r] w fun e w' => e = .returned (.tuple #[]) ∧ SP w0 blk (pdq (ltOf cf) d a b limit true true) w' := by
  have mixed : Tryd.prog.follows .mixedOrders = true := by kernel_rfl
  have HC := hide hcmp
  clear hcmp
  intro n
  induction n with
  | zero => intro _ _ _ _ _ h; exact absurd h (Nat.not_lt_zero _)
  | succ n ih =>
    intro a b limit d w hn hs S hab hb hsz hlimit hB0
    go_enter Tryd.func70, Tryd.ntmps70
    go_wp2
    go_loopg [1, 2, 3, 10, 11] (b - a) (fun kx s1 s2 s3 s8 s9 wr => ∃ (a' b' lim : Nat) (wb wp : Bool) (dk : Array (Pl N)), s1 = .int .i64 a' ∧ s2 = .int .i64 b' ∧ s3 = .int .i64 lim ∧ s8 = .bool wb ∧ s9 = .bool wp ∧ a' ≤ b' ∧ b' ≤ d.size ∧ b' - a' ≤ kx ∧ kx ≤ b - a ∧ lim ≤ limit ∧ dk.size = d.size ∧ Below (ltOf cf) a' b' dk ∧ SP w0 blk dk wr ∧ pdq (ltOf cf) dk a' b' lim wb wp = pdq (ltOf cf) d a b limit true true)
    case atStart => exact ⟨a, b, limit, true, true, d, rfl, rfl, rfl, rfl, rfl, hab, hb, Nat.le_refl _, Nat.le_refl _, Nat.le_refl _, rfl, hB0, S, rfl⟩
    case round =>
      obtain ⟨a', b', lim, wb, wp, dk, rfl, rfl, rfl, rfl, rfl, hab', hb', hkx, hkN, hlim, hds, hBel, SK, heq⟩ := hrel
      have A := hide heq
      clear heq
      by_cases h12 : b' - a' ≤ 12
      · have h12z : (b' : Int) - (a' : Int) ≤ 12 := by omega
        have hc := ins_any r cf blk cap d0 dk w0 wr HC.out R (by omega) SK (by omega) a' b' hab' (by omega)
        rw [hds] at hc
        go_wp2_with (go_at_call 78; refine hc.mono ?_; rintro e w1 ⟨rfl, hw1⟩)
        (try simp only [Exit.inBlock, Exit.then]); refine bodyPost_ret (results_none rfl _ _ _) rfl ?_
        exact ⟨rfl, by rw [← A.out, pdq_small h12]; exact hw1⟩
      · have h12z : ¬ ((b' : Int) - (a' : Int) ≤ 12) := by omega
        by_cases hl0 : lim = 0
        · subst hl0
          have hc := heap_any r cf blk cap d0 dk w0 wr HC.out R (by omega) SK (by omega) a' b' (by omega) (by omega)
          rw [hds] at hc
          go_wp2_with (go_at_call 79; refine hc.mono ?_; rintro e w1 ⟨rfl, hw1⟩)
          (try simp only [Exit.inBlock, Exit.then]); refine bodyPost_ret (results_none rfl _ _ _) rfl ?_
          exact ⟨rfl, by rw [← A.out, pdq_heap h12 rfl]; exact hw1⟩
        · have hl0z : ¬ ((lim : Int) = 0) := by omega
          obtain ⟨s1, B1, hc1, s2, B2, hpv, s3, B3⟩ := rd_facts (lt := (ltOf cf)) (limit := lim) (wb := wb) (wp := wp) hO partialInsertionSort_holds reverseRange_holds (show a' < b' by omega) (show b' ≤ dk.size by omega) hBel
          go_upto_if 39 with fail
          go_cut [3] from 21 (fun s3 wc => s3 = .int .i64 (rd (ltOf cf) dk a' b' lim wb wp).lim ∧ SP w0 blk (rd (ltOf cf) dk a' b' lim wb wp).d1 wc)
          case first =>
            cases wb
            · have hc := brk_any r blk cap d0 dk w0 wr R (by omega) SK (by omega) a' b' hab' (by omega)
              rw [hds] at hc
              go_wp2_with (go_at_call 80; refine hc.mono ?_; rintro e w1 ⟨rfl, hw1⟩)
              go_meet
              case rel => exact ⟨(show Value.int .i64 ((lim : Int) - 1) = Value.int .i64 ((lim - 1 : Nat) : Int) by congr 1; omega), hw1⟩
            · go_wp2_with fail
              go_meet
              case rel => exact ⟨rfl, SK⟩
          case rest =>
            obtain ⟨rfl, S1⟩ := hcut
            have hc := choose_any r cf blk cap d0 (rd (ltOf cf) dk a' b' lim wb wp).d1 w0 wc HC.out R (by omega) S1 (by omega) a' b' (by omega) (by omega)
            rw [hcode_eq, show (rd (ltOf cf) dk a' b' lim wb wp).d1.size = d.size from s1.trans hds] at hc
            replace hc : Calls Tryd.prog 81 #[.slice (some ⟨blk, 0, none⟩) d.size cap, .int .i64 a', .int .i64 b', fv r] wc fun e w' => e = .returned (.tuple #[.int .i64 ((rd (ltOf cf) dk a' b' lim wb wp).c.1 : Int), .int .i64 (hintCode (rd (ltOf cf) dk a' b' lim wb wp).c.2)]) ∧ SP w0 blk (rd (ltOf cf) dk a' b' lim wb wp).d1 w' := hc
            go_upto_if 56 with (go_at_call 81; refine hc.mono ?_; rintro e w2 ⟨rfl, S2⟩)
            go_cut [13, 14] from 21 (fun s11 s12 wc => s11 = .int .i64 (rd (ltOf cf) dk a' b' lim wb wp).pivot ∧ s12 = .int .i64 (hintCode (rd (ltOf cf) dk a' b' lim wb wp).hint) ∧ SP w0 blk (rd (ltOf cf) dk a' b' lim wb wp).d2 wc)
            case first =>
              by_cases hh : (rd (ltOf cf) dk a' b' lim wb wp).c.2 = .decreasing
              · have hcd : hintCode (rd (ltOf cf) dk a' b' lim wb wp).c.2 = 2 := by rw [hh]; rfl
                obtain ⟨e2, epv, eht⟩ := rd_dec hh
                have hc := reverse_any r blk cap d0 (rd (ltOf cf) dk a' b' lim wb wp).d1 w0 w2 R (by omega) S2 (by omega) a' b' (by omega) (by omega)
                rw [show (rd (ltOf cf) dk a' b' lim wb wp).d1.size = d.size from s1.trans hds] at hc
                go_wp2_with (go_at_call 82; refine hc.mono ?_; rintro e w1 ⟨rfl, hw1⟩)
                go_meet
                case rel => exact ⟨by rw [epv]; congr 1; omega, by rw [eht]; rfl, by rw [e2]; exact hw1⟩
              · have hcd : ¬ (hintCode (rd (ltOf cf) dk a' b' lim wb wp).c.2 = 2) := fun h => hh (hintCode_two h)
                obtain ⟨e2, epv, eht⟩ := rd_not hh
                go_wp2_with fail
                go_meet
                case rel => exact ⟨by rw [epv], by rw [eht], by rw [e2]; exact S2⟩
            case rest =>
              obtain ⟨rfl, rfl, S3⟩ := hcut
              go_upto_region 15 with fail
              go_cut [14, 75] from 21 (fun s12 s68 wx => s12 = .int .i64 (hintCode (rd (ltOf cf) dk a' b' lim wb wp).hint) ∧ s68 = .bool (wb && wp && decide ((rd (ltOf cf) dk a' b' lim wb wp).hint = .increasing)) ∧ wx = wc)
              case first =>
                cases wb <;> cases wp <;> cases hh3 : (rd (ltOf cf) dk a' b' lim _ _).hint <;>
                  (have hcd3 := congrArg hintCode hh3
                   simp only [hintCode] at hcd3
                   go_wp2_with fail
                   go_meet
                   exact ⟨by simp [hh3, hintCode], by simp [hh3, hintCode], rfl⟩)
              case rest =>
                obtain ⟨rfl, rfl, rfl⟩ := hcut
                go_upto_if 75 with fail
                go_cut [] from 21 (fun wx => (rd (ltOf cf) dk a' b' lim wb wp).pi.2 = false ∧ SP w0 blk (rd (ltOf cf) dk a' b' lim wb wp).pi.1 wx)
                case first =>
                  cases h68 : (wb && wp && decide ((rd (ltOf cf) dk a' b' lim wb wp).hint = .increasing))
                  · have epi := rd_pi_no h68
                    go_wp2_with fail
                    go_meet
                    case rel => exact ⟨by rw [epi], by rw [epi]; exact S3⟩
                  · have epi := rd_pi_yes h68
                    have hc := partIns_any r cf blk cap d0 (rd (ltOf cf) dk a' b' lim wb wp).d2 w0 wc HC.out R (by omega) S3 (by omega) a' b' (by omega) (by omega)
                    rw [← epi, show (rd (ltOf cf) dk a' b' lim wb wp).d2.size = d.size from s2.trans hds] at hc
                    go_wp2_with (go_at_call 83; refine hc.mono ?_; rintro e w4 ⟨rfl, hw4⟩)
                    all_goals first
                      | (have hp2 : (rd (ltOf cf) dk a' b' lim wb wp).pi.2 = false := by rw [epi]; assumption
                         go_meet
                         exact ⟨hp2, hw4⟩)
                      | (have hp2 : (rd (ltOf cf) dk a' b' lim wb wp).pi.2 = true := by rw [epi]; assumption
                         (try simp only [Exit.inBlock, Exit.then]); refine bodyPost_ret (results_none rfl _ _ _) rfl ?_
                         exact ⟨rfl, by rw [← A.out, pdq_done h12 hl0 hp2]; exact hw4⟩)
                case rest =>
                  obtain ⟨hp2, S5'⟩ := hcut
                  have SJ := hide S5'
                  clear S5'
                  have hpv1 := hpv.1
                  have hpv2 := hpv.2
                  rcases Nat.eq_zero_or_pos a' with ha0 | ha0
                  · have ha0z : decide ((a' : Int) > 0) = false := decide_eq_false (by omega)
                    have h87 : (decide (a' > 0) && !(ltOf cf) (rd (ltOf cf) dk a' b' lim wb wp).pi.1[a' - 1]! (rd (ltOf cf) dk a' b' lim wb wp).pi.1[(rd (ltOf cf) dk a' b' lim wb wp).pivot]!) = false := by simp [ha0]
                    have hn0 : ¬ (0 < a') := by omega
                    have hn0d : decide (0 < a') = false := decide_eq_false hn0
                    have hn0z : decide ((0 : Int) < (a' : Int)) = false := decide_eq_false (by omega)
                    have H87 := hide h87
                    clear ha0 h87
                    go_wp2_with fail
                    go_big_region_o
                    have S6 := hide (SW.drew SJ.out)
                    clear SJ
                    generalize wc.drew = w6 at S6 ⊢
                    have h87 := H87.out
                    obtain ⟨mid, ap, d4, hx⟩ : ∃ mid ap d4, Go.Sort.partition (ltOf cf) (rd (ltOf cf) dk a' b' lim wb wp).pi.1 a' b' (rd (ltOf cf) dk a' b' lim wb wp).pivot = (mid, ap, d4) := ⟨_, _, _, rfl⟩
                    obtain ⟨r1, r2, r3, r4, r5, r6, r7⟩ := round_part hO (partition_holds (ltOf cf)) hpv.1 hpv.2 (show b' ≤ (rd (ltOf cf) dk a' b' lim wb wp).pi.1.size by omega) B3 hx
                    have hc := part_any r cf blk cap d0 (rd (ltOf cf) dk a' b' lim wb wp).pi.1 w0 w6 HC.out R (by omega) S6.out (by omega) a' b' (rd (ltOf cf) dk a' b' lim wb wp).pivot hpv.1 hpv.2 (by omega)
                    rw [hx, show (rd (ltOf cf) dk a' b' lim wb wp).pi.1.size = d.size from s3.trans hds] at hc
                    have X := hide hx
                    clear hx
                    go_upto_if 125 with (go_at_call 85; refine hc.mono ?_; rintro e w7 ⟨rfl, S7⟩)
                    have hx := X.out
                    have hs4 : d4.size = d.size := r3.trans (s3.trans hds)
                    by_cases h4 : mid - a' < b' - mid
                    · have h4z : (mid : Int) - (a' : Int) < (b' : Int) - (mid : Int) := by omega
                      have hih := ih (a') (mid) (rd (ltOf cf) dk a' b' lim wb wp).lim d4 w7 (by omega) (by omega) S7 (by omega) (by omega) (by omega) (Nat.lt_of_le_of_lt (Nat.le_trans rd_lim_le hlim) hlimit) r4
                      rw [hs4] at hih
                      obtain ⟨pL, sL⟩ := pdq_sorts (ltOf cf) hO d4 (a') (mid) (rd (ltOf cf) dk a' b' lim wb wp).lim true true (by omega) (by omega) r4
                      go_wp2_with (go_at_call 70; refine hih.mono ?_; rintro e w8 ⟨rfl, hw8⟩)
                      go_roundg (b' - (mid + 1))
                      case measure => omega
                      case rel =>
                        refine ⟨mid + 1, b', (rd (ltOf cf) dk a' b' lim wb wp).lim, decide (mid - a' ≥ (b' - a') / 8), ap, pdq (ltOf cf) d4 a' mid (rd (ltOf cf) dk a' b' lim wb wp).lim true true, by simp, rfl, rfl, ?_, rfl, by omega, by omega, Nat.le_refl _, by omega, Nat.le_trans rd_lim_le hlim, by rw [pL.1, hs4], (r6 _ pL sL).1, hw8, ?_⟩
                        · exact congrArg Value.bool (eighth (by omega) (by omega))
                        · rw [← A.out, pdq_left h12 hl0 hp2 h87 (by rw [hx]; exact ⟨r1, r2⟩) (by rw [hx]; exact h4), hx]
                    · have h4z : ¬ ((mid : Int) - (a' : Int) < (b' : Int) - (mid : Int)) := by omega
                      have hih := ih (mid + 1) (b') (rd (ltOf cf) dk a' b' lim wb wp).lim d4 w7 (by omega) (by omega) S7 (by omega) (by omega) (by omega) (Nat.lt_of_le_of_lt (Nat.le_trans rd_lim_le hlim) hlimit) r5
                      rw [show ((mid + 1 : Nat) : Int) = (mid : Int) + 1 by omega, hs4] at hih
                      obtain ⟨pL, sL⟩ := pdq_sorts (ltOf cf) hO d4 (mid + 1) (b') (rd (ltOf cf) dk a' b' lim wb wp).lim true true (by omega) (by omega) r5
                      go_wp2_with (go_at_call 70; refine hih.mono ?_; rintro e w8 ⟨rfl, hw8⟩)
                      go_roundg (mid - a')
                      case measure => omega
                      case rel =>
                        refine ⟨a', mid, (rd (ltOf cf) dk a' b' lim wb wp).lim, decide (b' - mid ≥ (b' - a') / 8), ap, pdq (ltOf cf) d4 (mid + 1) b' (rd (ltOf cf) dk a' b' lim wb wp).lim true true, rfl, rfl, rfl, ?_, rfl, by omega, by omega, Nat.le_refl _, by omega, Nat.le_trans rd_lim_le hlim, by rw [pL.1, hs4], (r7 _ pL sL).1, hw8, ?_⟩
                        · exact congrArg Value.bool (eighth (by omega) (by omega))
                        · rw [← A.out, pdq_right h12 hl0 hp2 h87 (by rw [hx]; exact ⟨r1, r2⟩) (by rw [hx]; exact h4), hx]
                  · have ha0z : (a' : Int) > 0 := by omega
                    obtain ⟨aq, haq⟩ : ∃ q, q + 1 = a' := ⟨a' - 1, by omega⟩
                    have zaq : (a' : Int) = (aq : Int) + 1 := by omega
                    have ha0d : decide ((aq : Int) + 1 > 0) = true := decide_eq_true (by omega)
                    have eaq : a' - 1 = aq := by omega
                    cases hlv : (ltOf cf) (rd (ltOf cf) dk a' b' lim wb wp).pi.1[a' - 1]! (rd (ltOf cf) dk a' b' lim wb wp).pi.1[(rd (ltOf cf) dk a' b' lim wb wp).pivot]! with
                    | true =>
                      have h87 : (decide (a' > 0) && !(ltOf cf) (rd (ltOf cf) dk a' b' lim wb wp).pi.1[a' - 1]! (rd (ltOf cf) dk a' b' lim wb wp).pi.1[(rd (ltOf cf) dk a' b' lim wb wp).pivot]!) = false := by simp [hlv]
                      have H87 := hide h87
                      clear h87
                      have zp0 : (0 : Int) ≤ ((rd (ltOf cf) dk a' b' lim wb wp).pivot : Int) := by omega
                      have zp1 : ((rd (ltOf cf) dk a' b' lim wb wp).pivot : Int) < (d.size : Int) := by omega
                      have za0 : (0 : Int) ≤ (aq : Int) := by omega
                      have za1 : (aq : Int) < (d.size : Int) := by omega
                      have za2 : IntKind.i64.wrap (aq : Int) = (aq : Int) := by rw [IntKind.wrap_i64]; omega
                      have lx := fun n os => SP.cells SJ.out R (by omega) (a' - 1) (by omega) n os
                      have ly := fun n os => SP.cells SJ.out R (by omega) (rd (ltOf cf) dk a' b' lim wb wp).pivot (by omega) n os
                      have hc := fun n os => SP.cmp (d0 := d0) SJ.out HC.out (by omega) (rd (ltOf cf) dk a' b' lim wb wp).pi.1[a' - 1]! (rd (ltOf cf) dk a' b' lim wb wp).pi.1[(rd (ltOf cf) dk a' b' lim wb wp).pivot]! n os
                      have hv : cf (rd (ltOf cf) dk a' b' lim wb wp).pi.1[a' - 1]! (rd (ltOf cf) dk a' b' lim wb wp).pi.1[(rd (ltOf cf) dk a' b' lim wb wp).pivot]! < 0 := of_decide_eq_true hlv
                      generalize (rd (ltOf cf) dk a' b' lim wb wp).pi.1[a' - 1]! = x at lx hc hv
                      generalize (rd (ltOf cf) dk a' b' lim wb wp).pi.1[(rd (ltOf cf) dk a' b' lim wb wp).pivot]! = y at ly hc hv
                      rw [eaq] at lx
                      have hd : decide (cf x y < 0) = true := decide_eq_true hv
                      have HL := hide hlv
                      clear hlv
                      go_wp2_with fail
                      go_quiet_grown (first | (go_at_call 63; refine Calls.grown_of (hc _ _)))
                      have S6 := hide (SW.grown SJ.out nq osq)
                      clear lx ly hc hv hd SJ
                      generalize grow (wc.drewN nq) osq = w6 at S6 ⊢
                      simp only [← zaq]
                      clear zaq haq ha0d eaq
                      have h87 := H87.out
                      obtain ⟨mid, ap, d4, hx⟩ : ∃ mid ap d4, Go.Sort.partition (ltOf cf) (rd (ltOf cf) dk a' b' lim wb wp).pi.1 a' b' (rd (ltOf cf) dk a' b' lim wb wp).pivot = (mid, ap, d4) := ⟨_, _, _, rfl⟩
                      obtain ⟨r1, r2, r3, r4, r5, r6, r7⟩ := round_part hO (partition_holds (ltOf cf)) hpv.1 hpv.2 (show b' ≤ (rd (ltOf cf) dk a' b' lim wb wp).pi.1.size by omega) B3 hx
                      have hc := part_any r cf blk cap d0 (rd (ltOf cf) dk a' b' lim wb wp).pi.1 w0 w6 HC.out R (by omega) S6.out (by omega) a' b' (rd (ltOf cf) dk a' b' lim wb wp).pivot hpv.1 hpv.2 (by omega)
                      rw [hx, show (rd (ltOf cf) dk a' b' lim wb wp).pi.1.size = d.size from s3.trans hds] at hc
                      have X := hide hx
                      clear hx
                      go_upto_if 125 with (go_at_call 85; refine hc.mono ?_; rintro e w7 ⟨rfl, S7⟩)
                      have hx := X.out
                      have hs4 : d4.size = d.size := r3.trans (s3.trans hds)
                      by_cases h4 : mid - a' < b' - mid
                      · have h4z : (mid : Int) - (a' : Int) < (b' : Int) - (mid : Int) := by omega
                        have hih := ih (a') (mid) (rd (ltOf cf) dk a' b' lim wb wp).lim d4 w7 (by omega) (by omega) S7 (by omega) (by omega) (by omega) (Nat.lt_of_le_of_lt (Nat.le_trans rd_lim_le hlim) hlimit) r4
                        rw [hs4] at hih
                        obtain ⟨pL, sL⟩ := pdq_sorts (ltOf cf) hO d4 (a') (mid) (rd (ltOf cf) dk a' b' lim wb wp).lim true true (by omega) (by omega) r4
                        go_wp2_with (go_at_call 70; refine hih.mono ?_; rintro e w8 ⟨rfl, hw8⟩)
                        go_roundg (b' - (mid + 1))
                        case measure => omega
                        case rel =>
                          refine ⟨mid + 1, b', (rd (ltOf cf) dk a' b' lim wb wp).lim, decide (mid - a' ≥ (b' - a') / 8), ap, pdq (ltOf cf) d4 a' mid (rd (ltOf cf) dk a' b' lim wb wp).lim true true, by simp, rfl, rfl, ?_, rfl, by omega, by omega, Nat.le_refl _, by omega, Nat.le_trans rd_lim_le hlim, by rw [pL.1, hs4], (r6 _ pL sL).1, hw8, ?_⟩
                          · exact congrArg Value.bool (eighth (by omega) (by omega))
                          · rw [← A.out, pdq_left h12 hl0 hp2 h87 (by rw [hx]; exact ⟨r1, r2⟩) (by rw [hx]; exact h4), hx]
                      · have h4z : ¬ ((mid : Int) - (a' : Int) < (b' : Int) - (mid : Int)) := by omega
                        have hih := ih (mid + 1) (b') (rd (ltOf cf) dk a' b' lim wb wp).lim d4 w7 (by omega) (by omega) S7 (by omega) (by omega) (by omega) (Nat.lt_of_le_of_lt (Nat.le_trans rd_lim_le hlim) hlimit) r5
                        rw [show ((mid + 1 : Nat) : Int) = (mid : Int) + 1 by omega, hs4] at hih
                        obtain ⟨pL, sL⟩ := pdq_sorts (ltOf cf) hO d4 (mid + 1) (b') (rd (ltOf cf) dk a' b' lim wb wp).lim true true (by omega) (by omega) r5
                        go_wp2_with (go_at_call 70; refine hih.mono ?_; rintro e w8 ⟨rfl, hw8⟩)
                        go_roundg (mid - a')
                        case measure => omega
                        case rel =>
                          refine ⟨a', mid, (rd (ltOf cf) dk a' b' lim wb wp).lim, decide (b' - mid ≥ (b' - a') / 8), ap, pdq (ltOf cf) d4 (mid + 1) b' (rd (ltOf cf) dk a' b' lim wb wp).lim true true, rfl, rfl, rfl, ?_, rfl, by omega, by omega, Nat.le_refl _, by omega, Nat.le_trans rd_lim_le hlim, by rw [pL.1, hs4], (r7 _ pL sL).1, hw8, ?_⟩
                          · exact congrArg Value.bool (eighth (by omega) (by omega))
                          · rw [← A.out, pdq_right h12 hl0 hp2 h87 (by rw [hx]; exact ⟨r1, r2⟩) (by rw [hx]; exact h4), hx]
                    | false =>
                      have h87 : (decide (a' > 0) && !(ltOf cf) (rd (ltOf cf) dk a' b' lim wb wp).pi.1[a' - 1]! (rd (ltOf cf) dk a' b' lim wb wp).pi.1[(rd (ltOf cf) dk a' b' lim wb wp).pivot]!) = true := by simp [ha0, hlv]
                      have H87 := hide h87
                      clear h87
                      have zp0 : (0 : Int) ≤ ((rd (ltOf cf) dk a' b' lim wb wp).pivot : Int) := by omega
                      have zp1 : ((rd (ltOf cf) dk a' b' lim wb wp).pivot : Int) < (d.size : Int) := by omega
                      have za0 : (0 : Int) ≤ (aq : Int) := by omega
                      have za1 : (aq : Int) < (d.size : Int) := by omega
                      have za2 : IntKind.i64.wrap (aq : Int) = (aq : Int) := by rw [IntKind.wrap_i64]; omega
                      have lx := fun n os => SP.cells SJ.out R (by omega) (a' - 1) (by omega) n os
                      have ly := fun n os => SP.cells SJ.out R (by omega) (rd (ltOf cf) dk a' b' lim wb wp).pivot (by omega) n os
                      have hc := fun n os => SP.cmp (d0 := d0) SJ.out HC.out (by omega) (rd (ltOf cf) dk a' b' lim wb wp).pi.1[a' - 1]! (rd (ltOf cf) dk a' b' lim wb wp).pi.1[(rd (ltOf cf) dk a' b' lim wb wp).pivot]! n os
                      have hv : ¬ cf (rd (ltOf cf) dk a' b' lim wb wp).pi.1[a' - 1]! (rd (ltOf cf) dk a' b' lim wb wp).pi.1[(rd (ltOf cf) dk a' b' lim wb wp).pivot]! < 0 := of_decide_eq_false hlv
                      generalize (rd (ltOf cf) dk a' b' lim wb wp).pi.1[a' - 1]! = x at lx hc hv
                      generalize (rd (ltOf cf) dk a' b' lim wb wp).pi.1[(rd (ltOf cf) dk a' b' lim wb wp).pivot]! = y at ly hc hv
                      rw [eaq] at lx
                      have hd : decide (cf x y < 0) = false := decide_eq_false hv
                      have HL := hide hlv
                      clear hlv
                      go_wp2_with fail
                      go_quiet_grown (first | (go_at_call 63; refine Calls.grown_of (hc _ _)))
                      have S6 := hide (SW.grown SJ.out nq osq)
                      clear lx ly hc hv hd SJ
                      generalize grow (wc.drewN nq) osq = w6 at S6 ⊢
                      simp only [← zaq]
                      clear zaq haq ha0d eaq
                      have h87 := H87.out
                      obtain ⟨mid, d4, hx⟩ : ∃ mid d4, Go.Sort.partitionEqual (ltOf cf) (rd (ltOf cf) dk a' b' lim wb wp).pi.1 a' b' (rd (ltOf cf) dk a' b' lim wb wp).pivot = (mid, d4) := ⟨_, _, rfl⟩
                      obtain ⟨r1, r2, r3, r4, _⟩ := round_eq hO (partitionEqual_holds (ltOf cf)) ha0 hpv.1 hpv.2 (show b' ≤ (rd (ltOf cf) dk a' b' lim wb wp).pi.1.size by omega) B3 HL.out hx
                      have hc := partEq_any r cf blk cap d0 (rd (ltOf cf) dk a' b' lim wb wp).pi.1 w0 w6 HC.out R (by omega) S6.out (by omega) a' b' (rd (ltOf cf) dk a' b' lim wb wp).pivot hpv.1 hpv.2 (by omega)
                      rw [hx, show (rd (ltOf cf) dk a' b' lim wb wp).pi.1.size = d.size from s3.trans hds] at hc
                      have X := hide hx
                      clear hx
                      go_wp2_with (go_at_call 84; refine hc.mono ?_; rintro e w7 ⟨rfl, hw7⟩)
                      go_roundg (b' - mid)
                      case measure => omega
                      case rel =>
                        have hx := X.out
                        exact ⟨mid, b', (rd (ltOf cf) dk a' b' lim wb wp).lim, wb, wp, d4, rfl, rfl, rfl, rfl, rfl, r2, hb', Nat.le_refl _, by omega, Nat.le_trans rd_lim_le hlim, by rw [r3, s3, hds], r4, hw7, by rw [← A.out, pdq_eq h12 hl0 hp2 h87 (by rw [hx]; exact ⟨r1, r2⟩), hx]⟩

end Go.Proofs.YtcmdglmcmifflaaDoor.Rs
