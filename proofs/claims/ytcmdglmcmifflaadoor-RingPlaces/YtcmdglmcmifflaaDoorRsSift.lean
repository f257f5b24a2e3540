/- Walks over the library's sort by a comparison that is a method's value: siftDown, heapSort. -/
import Derived.Test.YtcmdglmcmifflaaDoorRsKit
namespace Go.Proofs.YtcmdglmcmifflaaDoor.Rs
open Go.RowKit Go.Joins Go.Sort Gk
variable {N : Nat}

set_option maxHeartbeats 12800000 in
set_option maxRecDepth 1000000 in
theorem sift_any (r : Value) (cf : Pl N → Pl N → Int) (blk cap : Nat) (d0 d : Array (Pl N)) (w0 w : World) (hcmp : CL r cf blk d0.size w0) (R : Row1 ec w0 blk 0 d0) (hs : d0.size = d.size) (S : SP w0 blk d w) (hsz : d.size < 4611686018427387904) (lo hi first : Nat) (hlo : lo ≤ hi) (hb : first + hi ≤ d.size) :
    Calls Tryd.prog 96 #[.slice (some ⟨blk, 0, none⟩) d.size cap, .int .i64 lo, .int .i64 hi, .int .i64 first, fv r] w fun e w' => e = .returned (.tuple #[]) ∧ SP w0 blk (siftDown (ltOf cf) hi first lo d) w' := by
  have mixed : Tryd.prog.follows .mixedOrders = true := by kernel_rfl
  have HC := hide hcmp
  have S0 := hide S
  clear hcmp S
  go_enter Tryd.func96, Tryd.ntmps96
  go_wp2
  go_loopw [10] (fun vr wr => ∃ (rt : Nat) (dj : Array (Pl N)), vr = .int .i64 rt ∧ rt ≤ hi ∧ dj.size = d.size ∧ Hid (SP w0 blk dj wr) ∧ Hid (siftDown (ltOf cf) hi first rt dj = siftDown (ltOf cf) hi first lo d)) (fun vr _ => hi - (intOf vr).toNat)
  case atStart => exact ⟨lo, d, rfl, hlo, rfl, S0, rfl⟩
  case round =>
    clear S0
    obtain ⟨rt, dj, rfl, hrh, hsj, SJ, HI⟩ := hrel
    have b0 : (0 : Int) ≤ (rt : Int) := by omega
    have b1 : (rt : Int) ≤ 4611686018427387904 := by omega
    have b2 : IntKind.i64.wrap (2 * (rt : Int)) = 2 * (rt : Int) := by rw [IntKind.wrap_i64]; omega
    have b3 : IntKind.i64.wrap (2 * (rt : Int) + 1) = 2 * (rt : Int) + 1 := by rw [IntKind.wrap_i64]; omega
    obtain ⟨c, hc⟩ : ∃ c, c = 2 * rt + 1 := ⟨_, rfl⟩
    have hcz := hide (show 2 * (rt : Int) + 1 = (c : Int) by omega)
    have HP := hide (show siftDown (ltOf cf) hi first rt dj = if c ≥ hi then dj else if c + 1 < hi && (ltOf cf) dj[first + c]! dj[first + c + 1]! then (if !(ltOf cf) dj[first + rt]! dj[first + (c + 1)]! then dj else if c + 1 < hi then siftDown (ltOf cf) hi first (c + 1) (swp dj (first + rt) (first + (c + 1))) else dj) else (if !(ltOf cf) dj[first + rt]! dj[first + c]! then dj else siftDown (ltOf cf) hi first c (swp dj (first + rt) (first + c))) by
      subst hc; rw [siftDown]; rfl)
    have HC1 := hide hc
    by_cases hend : hi ≤ c
    · have g0 : (hi : Int) ≤ 2 * (rt : Int) + 1 := by omega
      go_wp2
      go_end0
      exact ⟨rfl, by rw [← HI.out, HP.out, if_pos hend]; exact SJ.out⟩
    · have g0 : ¬ (hi : Int) ≤ 2 * (rt : Int) + 1 := by omega
      have HP' := hide (HP.out.trans (if_neg hend))
      have hrc : rt < c := by omega
      clear hc HP
      have rw : IntKind.i64.wrap ((first : Int) + (rt : Int)) = (first : Int) + (rt : Int) := by rw [IntKind.wrap_i64]; omega
      have r0 : (0 : Int) ≤ (first : Int) + (rt : Int) := by omega
      have r1 : (first : Int) + (rt : Int) < (d.size : Int) := by omega
      have r2 : ((first : Int) + (rt : Int)).toNat = first + rt := by omega
      have cw : IntKind.i64.wrap ((first : Int) + (c : Int)) = (first : Int) + (c : Int) := by rw [IntKind.wrap_i64]; omega
      have c0 : (0 : Int) ≤ (first : Int) + (c : Int) := by omega
      have c1 : (first : Int) + (c : Int) < (d.size : Int) := by omega
      have c2 : ((first : Int) + (c : Int)).toNat = first + c := by omega
      by_cases hsec : c + 1 < hi
      · have g1 : (c : Int) + 1 < (hi : Int) := by omega
        have g1d : decide ((c : Int) + 1 < (hi : Int)) = true := decide_eq_true g1
        have b4 : IntKind.i64.wrap ((c : Int) + 1) = (c : Int) + 1 := by rw [IntKind.wrap_i64]; omega
        have sw : IntKind.i64.wrap ((first : Int) + (c : Int) + 1) = (first : Int) + (c : Int) + 1 := by rw [IntKind.wrap_i64]; omega
        have s0 : (0 : Int) ≤ (first : Int) + (c : Int) + 1 := by omega
        have s1 : (first : Int) + (c : Int) + 1 < (d.size : Int) := by omega
        have s2 : ((first : Int) + (c : Int) + 1).toNat = first + c + 1 := by omega
        have tw : IntKind.i64.wrap ((first : Int) + ((c : Int) + 1)) = (first : Int) + ((c : Int) + 1) := by rw [IntKind.wrap_i64]; omega
        have t0 : (0 : Int) ≤ (first : Int) + ((c : Int) + 1) := by omega
        have t1 : (first : Int) + ((c : Int) + 1) < (d.size : Int) := by omega
        have t2 : ((first : Int) + ((c : Int) + 1)).toNat = first + (c + 1) := by omega
        cases hl1 : (ltOf cf) dj[first + c]! dj[first + c + 1]! with
        | true =>
          have hlv := hl1
          go_wp2_with fail
          rw [hcz.out]
          have lx := fun n os => SP.cells SJ.out R (by omega) (first + c) (by omega) n os
          have ly := fun n os => SP.cells SJ.out R (by omega) (first + c + 1) (by omega) n os
          have hc := fun n os => SP.cmp (d0 := d0) SJ.out HC.out (by omega) dj[first + c]! dj[first + c + 1]! n os
          have hv : cf dj[first + c]! dj[first + c + 1]! < 0 := of_decide_eq_true hlv
          generalize dj[first + c]! = x at lx hc hv
          generalize dj[first + c + 1]! = y at ly hc hv
          have hd : decide (cf x y < 0) = true := decide_eq_true hv
          have hE := fun n os => SW.grown SJ.out n os
          go_wp2_with fail
          go_quiet_grown (first | (go_at_call 63; refine Calls.grown_of (hc _ _)))
          replace SJ := hide (hE nq osq)
          clear lx ly hc hv hd hE
          generalize grow (wr.drewN nq) osq = w2 at SJ ⊢
          clear hlv
          cases hlv : (ltOf cf) dj[first + rt]! dj[first + (c + 1)]! with
          | true =>
            have lx := fun n os => SP.cells SJ.out R (by omega) (first + rt) (by omega) n os
            have ly := fun n os => SP.cells SJ.out R (by omega) (first + (c + 1)) (by omega) n os
            have hc := fun n os => SP.cmp (d0 := d0) SJ.out HC.out (by omega) dj[first + rt]! dj[first + (c + 1)]! n os
            have hv : cf dj[first + rt]! dj[first + (c + 1)]! < 0 := of_decide_eq_true hlv
            generalize dj[first + rt]! = x at lx hc hv
            generalize dj[first + (c + 1)]! = y at ly hc hv
            have hd : decide (cf x y < 0) = true := decide_eq_true hv
            have hE := fun n os => SW.grown SJ.out n os
            go_wp2_with fail
            go_quiet_grown (first | (go_at_call 63; refine Calls.grown_of (hc _ _)))
            replace SJ := hide (hE nq osq)
            clear lx ly hc hv hd hE
            generalize grow (w2.drewN nq) osq = w3 at SJ ⊢
            have ca := SP.cell SJ.out R (by omega) (first + rt) (by omega)
            have cb := SP.cell SJ.out R (by omega) (first + (c + 1)) (by omega)
            have fa := SP.free SJ.out R (by omega) (first + rt) (by omega)
            have fb := SP.free SJ.out R (by omega) (first + (c + 1)) (by omega)
            obtain ⟨u, cc⟩ := SP.other SJ.out R (by omega) (first + rt) (first + (c + 1)) (by omega) (by omega) (.int .i64 (dj[first + (c + 1)]!.val : Int))
            have hE := SP.swap SJ.out R (first + rt) (first + (c + 1)) (by omega) (by omega)
            generalize dj[first + rt]! = x at ca cb cc hE
            generalize dj[first + (c + 1)]! = y at ca cb cc hE
            go_wp2_with fail
            go_big_region_o
            replace SJ := hide hE
            clear ca cb cc fa fb hE
            generalize ((w3.setCell ⟨blk, first + rt, none⟩ (.int .i64 (y.val : Int))).setCell ⟨blk, first + (c + 1), none⟩ (.int .i64 (x.val : Int))).drew = w4 at SJ ⊢
            go_wp2
            go_roundw
            case rel => exact ⟨c + 1, swp dj (first + rt) (first + (c + 1)), by first | rfl | go_num, by omega, by rw [size_swp]; exact hsj, SJ, (show Hid _ from by rw [← HI.out, HP'.out, hl1, show (decide (c + 1 < hi) && true) = true by simp [hsec], if_pos rfl, hlv]; first | exact rfl | (simp only [Bool.not_true, Bool.false_eq_true, if_false]; rw [if_pos hsec]; exact rfl))⟩
            case measure => simp [intOf]; omega
          | false =>
            have lx := fun n os => SP.cells SJ.out R (by omega) (first + rt) (by omega) n os
            have ly := fun n os => SP.cells SJ.out R (by omega) (first + (c + 1)) (by omega) n os
            have hc := fun n os => SP.cmp (d0 := d0) SJ.out HC.out (by omega) dj[first + rt]! dj[first + (c + 1)]! n os
            have hv : ¬ cf dj[first + rt]! dj[first + (c + 1)]! < 0 := of_decide_eq_false hlv
            generalize dj[first + rt]! = x at lx hc hv
            generalize dj[first + (c + 1)]! = y at ly hc hv
            have hd : decide (cf x y < 0) = false := decide_eq_false hv
            have hE := fun n os => SW.grown SJ.out n os
            go_wp2_with fail
            go_quiet_grown (first | (go_at_call 63; refine Calls.grown_of (hc _ _)))
            replace SJ := hide (hE nq osq)
            clear lx ly hc hv hd hE
            generalize grow (w2.drewN nq) osq = w3 at SJ ⊢
            go_wp2
            refine bodyPost_ret (results_none rfl _ _ _) rfl ?_
            exact ⟨rfl, by rw [← HI.out, HP'.out, hl1, show (decide (c + 1 < hi) && true) = true by simp [hsec], if_pos rfl, hlv]; exact SJ.out⟩
        | false =>
          have hlv := hl1
          go_wp2_with fail
          rw [hcz.out]
          have lx := fun n os => SP.cells SJ.out R (by omega) (first + c) (by omega) n os
          have ly := fun n os => SP.cells SJ.out R (by omega) (first + c + 1) (by omega) n os
          have hc := fun n os => SP.cmp (d0 := d0) SJ.out HC.out (by omega) dj[first + c]! dj[first + c + 1]! n os
          have hv : ¬ cf dj[first + c]! dj[first + c + 1]! < 0 := of_decide_eq_false hlv
          generalize dj[first + c]! = x at lx hc hv
          generalize dj[first + c + 1]! = y at ly hc hv
          have hd : decide (cf x y < 0) = false := decide_eq_false hv
          have hE := fun n os => SW.grown SJ.out n os
          go_wp2_with fail
          go_quiet_grown (first | (go_at_call 63; refine Calls.grown_of (hc _ _)))
          replace SJ := hide (hE nq osq)
          clear lx ly hc hv hd hE
          generalize grow (wr.drewN nq) osq = w2 at SJ ⊢
          clear hlv
          cases hlv : (ltOf cf) dj[first + rt]! dj[first + c]! with
          | true =>
            have lx := fun n os => SP.cells SJ.out R (by omega) (first + rt) (by omega) n os
            have ly := fun n os => SP.cells SJ.out R (by omega) (first + c) (by omega) n os
            have hc := fun n os => SP.cmp (d0 := d0) SJ.out HC.out (by omega) dj[first + rt]! dj[first + c]! n os
            have hv : cf dj[first + rt]! dj[first + c]! < 0 := of_decide_eq_true hlv
            generalize dj[first + rt]! = x at lx hc hv
            generalize dj[first + c]! = y at ly hc hv
            have hd : decide (cf x y < 0) = true := decide_eq_true hv
            have hE := fun n os => SW.grown SJ.out n os
            go_wp2_with fail
            go_quiet_grown (first | (go_at_call 63; refine Calls.grown_of (hc _ _)))
            replace SJ := hide (hE nq osq)
            clear lx ly hc hv hd hE
            generalize grow (w2.drewN nq) osq = w3 at SJ ⊢
            have ca := SP.cell SJ.out R (by omega) (first + rt) (by omega)
            have cb := SP.cell SJ.out R (by omega) (first + c) (by omega)
            have fa := SP.free SJ.out R (by omega) (first + rt) (by omega)
            have fb := SP.free SJ.out R (by omega) (first + c) (by omega)
            obtain ⟨u, cc⟩ := SP.other SJ.out R (by omega) (first + rt) (first + c) (by omega) (by omega) (.int .i64 (dj[first + c]!.val : Int))
            have hE := SP.swap SJ.out R (first + rt) (first + c) (by omega) (by omega)
            generalize dj[first + rt]! = x at ca cb cc hE
            generalize dj[first + c]! = y at ca cb cc hE
            go_wp2_with fail
            go_big_region_o
            replace SJ := hide hE
            clear ca cb cc fa fb hE
            generalize ((w3.setCell ⟨blk, first + rt, none⟩ (.int .i64 (y.val : Int))).setCell ⟨blk, first + c, none⟩ (.int .i64 (x.val : Int))).drew = w4 at SJ ⊢
            go_wp2
            go_roundw
            case rel => exact ⟨c, swp dj (first + rt) (first + c), by first | rfl | go_num, by omega, by rw [size_swp]; exact hsj, SJ, (show Hid _ from by rw [← HI.out, HP'.out, hl1, show (decide (c + 1 < hi) && false) = false by simp, if_neg (by decide), hlv]; rfl)⟩
            case measure => simp [intOf]; omega
          | false =>
            have lx := fun n os => SP.cells SJ.out R (by omega) (first + rt) (by omega) n os
            have ly := fun n os => SP.cells SJ.out R (by omega) (first + c) (by omega) n os
            have hc := fun n os => SP.cmp (d0 := d0) SJ.out HC.out (by omega) dj[first + rt]! dj[first + c]! n os
            have hv : ¬ cf dj[first + rt]! dj[first + c]! < 0 := of_decide_eq_false hlv
            generalize dj[first + rt]! = x at lx hc hv
            generalize dj[first + c]! = y at ly hc hv
            have hd : decide (cf x y < 0) = false := decide_eq_false hv
            have hE := fun n os => SW.grown SJ.out n os
            go_wp2_with fail
            go_quiet_grown (first | (go_at_call 63; refine Calls.grown_of (hc _ _)))
            replace SJ := hide (hE nq osq)
            clear lx ly hc hv hd hE
            generalize grow (w2.drewN nq) osq = w3 at SJ ⊢
            go_wp2
            refine bodyPost_ret (results_none rfl _ _ _) rfl ?_
            exact ⟨rfl, by rw [← HI.out, HP'.out, hl1, show (decide (c + 1 < hi) && false) = false by simp, if_neg (by decide), hlv]; exact SJ.out⟩
      · have g1 : ¬ (c : Int) + 1 < (hi : Int) := by omega
        have g1d : decide ((c : Int) + 1 < (hi : Int)) = false := decide_eq_false g1
        have b4 : IntKind.i64.wrap ((c : Int) + 1) = (c : Int) + 1 := by rw [IntKind.wrap_i64]; omega
        go_wp2_with fail
        rw [hcz.out]
        go_big_region_o
        replace SJ := hide (SW.drew SJ.out)
        generalize wr.drew = w2 at SJ ⊢
        cases hlv : (ltOf cf) dj[first + rt]! dj[first + c]! with
        | true =>
          have lx := fun n os => SP.cells SJ.out R (by omega) (first + rt) (by omega) n os
          have ly := fun n os => SP.cells SJ.out R (by omega) (first + c) (by omega) n os
          have hc := fun n os => SP.cmp (d0 := d0) SJ.out HC.out (by omega) dj[first + rt]! dj[first + c]! n os
          have hv : cf dj[first + rt]! dj[first + c]! < 0 := of_decide_eq_true hlv
          generalize dj[first + rt]! = x at lx hc hv
          generalize dj[first + c]! = y at ly hc hv
          have hd : decide (cf x y < 0) = true := decide_eq_true hv
          have hE := fun n os => SW.grown SJ.out n os
          go_wp2_with fail
          go_quiet_grown (first | (go_at_call 63; refine Calls.grown_of (hc _ _)))
          replace SJ := hide (hE nq osq)
          clear lx ly hc hv hd hE
          generalize grow (w2.drewN nq) osq = w3 at SJ ⊢
          have ca := SP.cell SJ.out R (by omega) (first + rt) (by omega)
          have cb := SP.cell SJ.out R (by omega) (first + c) (by omega)
          have fa := SP.free SJ.out R (by omega) (first + rt) (by omega)
          have fb := SP.free SJ.out R (by omega) (first + c) (by omega)
          obtain ⟨u, cc⟩ := SP.other SJ.out R (by omega) (first + rt) (first + c) (by omega) (by omega) (.int .i64 (dj[first + c]!.val : Int))
          have hE := SP.swap SJ.out R (first + rt) (first + c) (by omega) (by omega)
          generalize dj[first + rt]! = x at ca cb cc hE
          generalize dj[first + c]! = y at ca cb cc hE
          go_wp2_with fail
          go_big_region_o
          replace SJ := hide hE
          clear ca cb cc fa fb hE
          generalize ((w3.setCell ⟨blk, first + rt, none⟩ (.int .i64 (y.val : Int))).setCell ⟨blk, first + c, none⟩ (.int .i64 (x.val : Int))).drew = w4 at SJ ⊢
          go_wp2
          go_roundw
          case rel => exact ⟨c, swp dj (first + rt) (first + c), by first | rfl | go_num, by omega, by rw [size_swp]; exact hsj, SJ, (show Hid _ from by rw [← HI.out, HP'.out, show (decide (c + 1 < hi)) = false by simp [hsec], Bool.false_and, if_neg (by decide), hlv]; rfl)⟩
          case measure => simp [intOf]; omega
        | false =>
          have lx := fun n os => SP.cells SJ.out R (by omega) (first + rt) (by omega) n os
          have ly := fun n os => SP.cells SJ.out R (by omega) (first + c) (by omega) n os
          have hc := fun n os => SP.cmp (d0 := d0) SJ.out HC.out (by omega) dj[first + rt]! dj[first + c]! n os
          have hv : ¬ cf dj[first + rt]! dj[first + c]! < 0 := of_decide_eq_false hlv
          generalize dj[first + rt]! = x at lx hc hv
          generalize dj[first + c]! = y at ly hc hv
          have hd : decide (cf x y < 0) = false := decide_eq_false hv
          have hE := fun n os => SW.grown SJ.out n os
          go_wp2_with fail
          go_quiet_grown (first | (go_at_call 63; refine Calls.grown_of (hc _ _)))
          replace SJ := hide (hE nq osq)
          clear lx ly hc hv hd hE
          generalize grow (w2.drewN nq) osq = w3 at SJ ⊢
          go_wp2
          refine bodyPost_ret (results_none rfl _ _ _) rfl ?_
          exact ⟨rfl, by rw [← HI.out, HP'.out, show (decide (c + 1 < hi)) = false by simp [hsec], Bool.false_and, if_neg (by decide), hlv]; exact SJ.out⟩

end Go.Proofs.YtcmdglmcmifflaaDoor.Rs
