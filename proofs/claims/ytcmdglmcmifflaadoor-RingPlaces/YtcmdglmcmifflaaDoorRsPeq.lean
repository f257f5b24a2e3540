/- Walks over the library's sort by a comparison that is a method's value: partitionEqual. -/
import Derived.Test.YtcmdglmcmifflaaDoorRsKit
import Derived.Sort.WalkC
import Derived.Sort.LotC
namespace Go.Proofs.YtcmdglmcmifflaaDoor.Rs
open Go.RowKit Go.Joins Go.Sort Gk
variable {N : Nat}

set_option maxHeartbeats 25600000 in
set_option maxRecDepth 1000000 in
theorem partEq_any (r : Value) (cf : Pl N → Pl N → Int) (blk cap : Nat) (d0 d : Array (Pl N)) (w0 w : World) (hcmp : CL r cf blk d0.size w0) (R : Row1 ec w0 blk 0 d0) (hs : d0.size = d.size) (S : SP w0 blk d w) (hsz : d.size < 4611686018427387904) (a b pivot : Nat) (hap : a ≤ pivot) (hpb : pivot < b) (hb : b ≤ d.size) :
    Calls Tryd.prog 84 #[.slice (some ⟨blk, 0, none⟩) d.size cap, .int .i64 a, .int .i64 b, .int .i64 pivot, fv r] w fun e w' => e = .returned (.int .i64 ((Go.Sort.partitionEqual (ltOf cf) d a b pivot).1 : Int)) ∧ SP w0 blk (Go.Sort.partitionEqual (ltOf cf) d a b pivot).2 w' := by
  have mixed : Tryd.prog.follows .mixedOrders = true := by kernel_rfl
  obtain ⟨B, hB⟩ : ∃ B, b = B + 1 := ⟨b - 1, by omega⟩
  have HR := hide (show Go.Sort.partitionEqual (ltOf cf) d a b pivot = partEqLoop (ltOf cf) a (a + 1) B (swp d a pivot) by rw [hB]; rfl)
  obtain ⟨D, hD⟩ : ∃ D, D = swp d a pivot := ⟨_, rfl⟩
  rw [HR.out, ← hD]
  have hsD : D.size = d.size := by rw [hD, size_swp]
  have HG := hide hD
  clear hD
  have HC := hide hcmp
  have SJ := hide S
  clear hcmp S
  obtain ⟨dj, hdj⟩ : ∃ dj, dj = d := ⟨_, rfl⟩
  have hsj : dj.size = d.size := by rw [hdj]
  have HDJ := hide hdj
  rw [← hdj] at SJ
  clear hdj
  have pa0 : (0 : Int) ≤ (a : Int) := by omega
  have pa1 : (a : Int) < (d.size : Int) := by omega
  have pa2 : (a : Int) ≤ 4611686018427387904 := by omega
  have pp0 : (0 : Int) ≤ (pivot : Int) := by omega
  have pp1 : (pivot : Int) < (d.size : Int) := by omega
  have pp2 : (pivot : Int) ≤ 4611686018427387904 := by omega
  have pb0 : (0 : Int) ≤ (b : Int) := by omega
  have pb1 : (1 : Int) ≤ (b : Int) := by omega
  have pb2 : (b : Int) ≤ 4611686018427387904 := by omega
  have hpB : pivot ≤ B := by omega
  have hBd : B < d.size := by omega
  have HB := hide (show (b : Int) - 1 = (B : Int) by omega)
  clear hpb hb hB
  go_enter Tryd.func84, Tryd.ntmps84
  have ca := SP.cell SJ.out R (by omega) (a) (by omega)
  have cb := SP.cell SJ.out R (by omega) (pivot) (by omega)
  have fa := SP.free SJ.out R (by omega) (a) (by omega)
  have fb := SP.free SJ.out R (by omega) (pivot) (by omega)
  obtain ⟨u, cc⟩ := SP.other SJ.out R (by omega) (a) (pivot) (by omega) (by omega) (.int .i64 (dj[pivot]!.val : Int))
  have hE := SP.swap SJ.out R (a) (pivot) (by omega) (by omega)
  generalize dj[a]! = x at ca cb cc hE
  generalize dj[pivot]! = y at ca cb cc hE
  go_wp2_with fail
  go_big_region_o
  replace SJ := hide hE
  clear ca cb cc fa fb hE
  generalize ((w.setCell ⟨blk, a, none⟩ (.int .i64 (y.val : Int))).setCell ⟨blk, pivot, none⟩ (.int .i64 (x.val : Int))).drew = w3 at SJ ⊢
  replace SJ := hide (show SP w0 blk D w3 by rw [HG.out, ← HDJ.out]; exact SJ.out)
  clear hsj
  go_wp2
  go_loopw [11, 12] (fun vi vj wr => ∃ (i j : Nat) (dj : Array (Pl N)), vi = .int .i64 i ∧ vj = .int .i64 j ∧ a < i ∧ i ≤ j + 1 ∧ j ≤ B ∧ dj.size = d.size ∧ Hid (SP w0 blk dj wr) ∧ Hid (partEqLoop (ltOf cf) a i j dj = partEqLoop (ltOf cf) a (a + 1) B D)) (fun vi vj _ => (intOf vj).toNat + 1 - (intOf vi).toNat)
  case atStart => exact ⟨a + 1, B, D, by go_num, by rw [← HB.out], by omega, by omega, Nat.le_refl _, hsD, SJ, rfl⟩
  case round =>
    clear SJ
    obtain ⟨i, j, dj, rfl, rfl, hai, hij0, hjB, hsj, SJ, HO⟩ := hrel
    obtain ⟨pu, hpu⟩ : ∃ pu : Pl N → Bool, pu = fun x => !(ltOf cf) dj[a]! x := ⟨_, rfl⟩
    obtain ⟨pd, hpd⟩ : ∃ pd : Pl N → Bool, pd = fun x => (ltOf cf) dj[a]! x := ⟨_, rfl⟩
    have Hpu := hide (show ∀ x, pu x = !(ltOf cf) dj[a]! x from fun x => by rw [hpu])
    have Hpd := hide (show ∀ x, pd x = (ltOf cf) dj[a]! x from fun x => by rw [hpd])
    have HP := hide (show partEqLoop (ltOf cf) a i j dj = if scanUp pu dj j i > scanDown pd dj (scanUp pu dj j i) j then (scanUp pu dj j i, dj) else partEqLoop (ltOf cf) a (scanUp pu dj j i + 1) (scanDown pd dj (scanUp pu dj j i) j - 1) (swp dj (scanUp pu dj j i) (scanDown pd dj (scanUp pu dj j i) j)) by rw [hpu, hpd]; exact partEqLoop_eq (ltOf cf) a i j dj)
    clear hpu hpd
    go_wp2
    go_loopw [11] (fun vi wr2 => ∃ (i2 : Nat), vi = .int .i64 i2 ∧ i ≤ i2 ∧ i2 ≤ j + 1 ∧ Hid (SP w0 blk dj wr2) ∧ Hid (scanUp pu dj j i2 = scanUp pu dj j i)) (fun vi _ => j + 1 - (intOf vi).toNat)
    case atStart => exact ⟨i, by first | rfl | go_num, Nat.le_refl _, by omega, SJ, rfl⟩
    case round =>
      clear SJ
      obtain ⟨i2, rfl, hi1, hi2, SJ, HU⟩ := hrel
      by_cases hij : i2 ≤ j
      · have g0 : (i2 : Int) ≤ (j : Int) := by omega
        have g0d : decide ((i2 : Int) ≤ (j : Int)) = true := decide_eq_true g0
        have x0 : (0 : Int) ≤ (i2 : Int) := by omega
        have x1 : (i2 : Int) < (d.size : Int) := by omega
        have x2 : (i2 : Int) ≤ 4611686018427387904 := by omega
        have y0 : (0 : Int) ≤ (a : Int) := by omega
        have y1 : (a : Int) < (d.size : Int) := by omega
        have y2 : (a : Int) ≤ 4611686018427387904 := by omega
        cases hlv : (ltOf cf) dj[a]! dj[i2]! with
        | true =>
          have HI2 := hide (show scanUp pu dj j i = i2 from HU.out.symm.trans (scanUp_end pu dj j i2 (Or.inr (by rw [Hpu.out]; rw [hlv]; rfl))))
          have lx := fun n os => SP.cells SJ.out R (by omega) (a) (by omega) n os
          have ly := fun n os => SP.cells SJ.out R (by omega) (i2) (by omega) n os
          have hc := fun n os => SP.cmp (d0 := d0) SJ.out HC.out (by omega) dj[a]! dj[i2]! n os
          have hv : cf dj[a]! dj[i2]! < 0 := of_decide_eq_true hlv
          generalize dj[a]! = x at lx hc hv
          generalize dj[i2]! = y at ly hc hv
          have hd : decide (cf x y < 0) = true := decide_eq_true hv
          have hE := fun n os => SW.grown SJ.out n os
          go_wp2_with fail
          go_quiet_grown (first | (go_at_call 63; refine Calls.grown_of (hc _ _)))
          replace SJ := hide (hE nq osq)
          clear lx ly hc hv hd hE
          generalize grow (wr.drewN nq) osq = w2 at SJ ⊢
          go_wp2
          have HST := hide hlv
          go_loopw [12] (fun vj wr2 => ∃ (j2 : Nat), vj = .int .i64 j2 ∧ j2 ≤ j ∧ i2 ≤ j2 + 1 ∧ Hid (SP w0 blk dj wr2) ∧ Hid (scanDown pd dj i2 j2 = scanDown pd dj i2 j)) (fun vj _ => (intOf vj).toNat)
          case atStart => exact ⟨j, by first | rfl | go_num, Nat.le_refl _, by omega, SJ, rfl⟩
          case round =>
            clear SJ
            obtain ⟨j2, rfl, hj1, hj2, SJ, HD⟩ := hrel
            by_cases hij2 : i2 ≤ j2
            · obtain ⟨q, rfl⟩ : ∃ q, j2 = q + 1 := ⟨j2 - 1, by omega⟩
              have k0 : (i2 : Int) ≤ (q : Int) + 1 := by omega
              have k0d : decide ((i2 : Int) ≤ (q : Int) + 1) = true := decide_eq_true k0
              have z0 : (0 : Int) ≤ (q : Int) + 1 := by omega
              have z1 : (q : Int) + 1 < (d.size : Int) := by omega
              have z2 : (q : Int) + 1 ≤ 4611686018427387904 := by omega
              have zt : ((q : Int) + 1).toNat = q + 1 := by omega
              cases hlv : (ltOf cf) dj[a]! dj[q + 1]! with
              | true =>
                have HD' := hide ((scanDown_go pd dj i2 (q + 1) hij2 (by omega) (by rw [Hpd.out]; exact hlv)).symm.trans HD.out)
                have lx := fun n os => SP.cells SJ.out R (by omega) (a) (by omega) n os
                have ly := fun n os => SP.cells SJ.out R (by omega) (q + 1) (by omega) n os
                have hc := fun n os => SP.cmp (d0 := d0) SJ.out HC.out (by omega) dj[a]! dj[q + 1]! n os
                have hv : cf dj[a]! dj[q + 1]! < 0 := of_decide_eq_true hlv
                generalize dj[a]! = x at lx hc hv
                generalize dj[q + 1]! = y at ly hc hv
                have hd : decide (cf x y < 0) = true := decide_eq_true hv
                have hE := fun n os => SW.grown SJ.out n os
                go_wp2_with fail
                go_quiet_grown (first | (go_at_call 63; refine Calls.grown_of (hc _ _)))
                replace SJ := hide (hE nq osq)
                clear lx ly hc hv hd hE
                generalize grow (wr.drewN nq) osq = w2 at SJ ⊢
                go_wp2
                go_roundw
                case rel => exact ⟨q, by first | rfl | go_num, by omega, by omega, SJ, HD'⟩
                case measure => simp [intOf]
              | false =>
                have HJ2 := hide (show scanDown pd dj i2 j = q + 1 from HD.out.symm.trans (scanDown_end pd dj i2 (q + 1) (Or.inr (by rw [Hpd.out]; exact hlv))))
                have lx := fun n os => SP.cells SJ.out R (by omega) (a) (by omega) n os
                have ly := fun n os => SP.cells SJ.out R (by omega) (q + 1) (by omega) n os
                have hc := fun n os => SP.cmp (d0 := d0) SJ.out HC.out (by omega) dj[a]! dj[q + 1]! n os
                have hv : ¬ cf dj[a]! dj[q + 1]! < 0 := of_decide_eq_false hlv
                generalize dj[a]! = x at lx hc hv
                generalize dj[q + 1]! = y at ly hc hv
                have hd : decide (cf x y < 0) = false := decide_eq_false hv
                have hE := fun n os => SW.grown SJ.out n os
                go_wp2_with fail
                go_quiet_grown (first | (go_at_call 63; refine Calls.grown_of (hc _ _)))
                replace SJ := hide (hE nq osq)
                clear lx ly hc hv hd hE
                generalize grow (wr.drewN nq) osq = w2 at SJ ⊢
                have hne : i2 ≠ q + 1 := fun e => by have h1 := HST.out; rw [e, hlv] at h1; cases h1
                have m0 : ¬ (q : Int) + 1 < (i2 : Int) := by omega
                have ca := SP.cell SJ.out R (by omega) (i2) (by omega)
                have cb := SP.cell SJ.out R (by omega) (q + 1) (by omega)
                have fa := SP.free SJ.out R (by omega) (i2) (by omega)
                have fb := SP.free SJ.out R (by omega) (q + 1) (by omega)
                obtain ⟨u, cc⟩ := SP.other SJ.out R (by omega) (i2) (q + 1) (by omega) (by omega) (.int .i64 (dj[q + 1]!.val : Int))
                have hE := SP.swap SJ.out R (i2) (q + 1) (by omega) (by omega)
                generalize dj[i2]! = x at ca cb cc hE
                generalize dj[q + 1]! = y at ca cb cc hE
                go_wp2_with fail
                go_big_region_o
                replace SJ := hide hE
                clear ca cb cc fa fb hE
                generalize ((w2.setCell ⟨blk, i2, none⟩ (.int .i64 (y.val : Int))).setCell ⟨blk, q + 1, none⟩ (.int .i64 (x.val : Int))).drew = w5 at SJ ⊢
                go_wp2
                go_roundw
                case rel => exact ⟨i2 + 1, q, swp dj i2 (q + 1), by go_num, by first | rfl | go_num, by omega, by omega, by omega, by rw [size_swp]; exact hsj, SJ, (show Hid _ from by rw [← HO.out, HP.out, HI2.out, HJ2.out, if_neg (by omega)]; exact rfl)⟩
                case measure => simp [intOf]; omega
            · have k0 : ¬ (i2 : Int) ≤ (j2 : Int) := by omega
              have k0d : decide ((i2 : Int) ≤ (j2 : Int)) = false := decide_eq_false k0
              have HJ2 := hide (show scanDown pd dj i2 j = j2 from HD.out.symm.trans (scanDown_end pd dj i2 j2 (Or.inl hij2)))
              go_wp2_with fail
              go_big_region_o
              replace SJ := hide (SW.drew SJ.out)
              generalize wr.drew = w2 at SJ ⊢
              have m0 : (j2 : Int) < (i2 : Int) := by omega
              go_wp2
              go_ret
              exact ⟨ret_int (by rw [← HO.out, HP.out, HI2.out, HJ2.out, if_pos (by omega)]), by rw [← HO.out, HP.out, HI2.out, HJ2.out, if_pos (by omega)]; exact SJ.out⟩
        | false =>
          have HU' := hide ((scanUp_go pu dj j i2 hij (by rw [Hpu.out]; rw [hlv]; rfl)).symm.trans HU.out)
          have lx := fun n os => SP.cells SJ.out R (by omega) (a) (by omega) n os
          have ly := fun n os => SP.cells SJ.out R (by omega) (i2) (by omega) n os
          have hc := fun n os => SP.cmp (d0 := d0) SJ.out HC.out (by omega) dj[a]! dj[i2]! n os
          have hv : ¬ cf dj[a]! dj[i2]! < 0 := of_decide_eq_false hlv
          generalize dj[a]! = x at lx hc hv
          generalize dj[i2]! = y at ly hc hv
          have hd : decide (cf x y < 0) = false := decide_eq_false hv
          have hE := fun n os => SW.grown SJ.out n os
          go_wp2_with fail
          go_quiet_grown (first | (go_at_call 63; refine Calls.grown_of (hc _ _)))
          replace SJ := hide (hE nq osq)
          clear lx ly hc hv hd hE
          generalize grow (wr.drewN nq) osq = w2 at SJ ⊢
          go_wp2
          go_roundw
          case rel => exact ⟨i2 + 1, by go_num, by omega, by omega, SJ, HU'⟩
          case measure => simp [intOf]; omega
      · have g0 : ¬ (i2 : Int) ≤ (j : Int) := by omega
        have g0d : decide ((i2 : Int) ≤ (j : Int)) = false := decide_eq_false g0
        have HI2 := hide (show scanUp pu dj j i = i2 from HU.out.symm.trans (scanUp_end pu dj j i2 (Or.inl hij)))
        have HJ2 := hide (show scanDown pd dj i2 j = j from scanDown_end pd dj i2 j (Or.inl hij))
        go_wp2_with fail
        go_big_region_o
        replace SJ := hide (SW.drew SJ.out)
        generalize wr.drew = w2 at SJ ⊢
        go_wp2
        go_loopw [12] (fun vj wr2 => vj = .int .i64 j ∧ Hid (SP w0 blk dj wr2)) (fun _ _ => 0)
        case atStart => exact ⟨by first | rfl | go_num, SJ⟩
        case round =>
          clear SJ
          obtain ⟨rfl, SJ⟩ := hrel
          go_wp2_with fail
          go_big_region_o
          replace SJ := hide (SW.drew SJ.out)
          generalize wr.drew = w3 at SJ ⊢
          have m0 : (j : Int) < (i2 : Int) := by omega
          go_wp2
          go_ret
          exact ⟨ret_int (by rw [← HO.out, HP.out, HI2.out, HJ2.out, if_pos (by omega)]), by rw [← HO.out, HP.out, HI2.out, HJ2.out, if_pos (by omega)]; exact SJ.out⟩

end Go.Proofs.YtcmdglmcmifflaaDoor.Rs
