/- Walks over the library's sort by a comparison that is a method's value: partialInsertionSort. -/
import Derived.Test.YtcmdglmcmifflaaDoorRsKit
import Derived.Sort.WalkA6
namespace Go.Proofs.YtcmdglmcmifflaaDoor.Rs
open Go.RowKit Go.Joins Go.Sort Gk
variable {N : Nat}

set_option maxHeartbeats 51200000 in
set_option maxRecDepth 1000000 in
theorem partIns_any (r : Value) (cf : Pl N → Pl N → Int) (blk cap : Nat) (d0 d : Array (Pl N)) (w0 w : World) (hcmp : CL r cf blk d0.size w0) (R : Row1 ec w0 blk 0 d0) (hs : d0.size = d.size) (S : SP w0 blk d w) (hsz : d.size < 4611686018427387904) (a b : Nat) (hab : a < b) (hb : b ≤ d.size) :
    Calls Tryd.prog 83 #[.slice (some ⟨blk, 0, none⟩) d.size cap, .int .i64 a, .int .i64 b, fv r] w fun e w' => e = .returned (.bool (Go.Sort.partialInsertionSort (ltOf cf) d a b).2) ∧ SP w0 blk (Go.Sort.partialInsertionSort (ltOf cf) d a b).1 w' := by
  have mixed : Tryd.prog.follows .mixedOrders = true := by kernel_rfl
  have HC := hide hcmp
  have SJ := hide S
  clear hcmp S
  obtain ⟨P, hP⟩ : ∃ P, P = Go.Sort.partialInsertionSort (ltOf cf) d a b := ⟨_, rfl⟩
  rw [← hP]
  have HP := hide (show partialIns (ltOf cf) a b 5 (a + 1) d = P from hP.symm)
  clear hP
  have pa0 : (0 : Int) ≤ (a : Int) := by omega
  have pa2 : (a : Int) ≤ 4611686018427387904 := by omega
  have pb0 : (0 : Int) ≤ (b : Int) := by omega
  have pb2 : (b : Int) ≤ 4611686018427387904 := by omega
  have ew : IntKind.i64.wrap ((b : Int) - (a : Int)) = (b : Int) - (a : Int) := by rw [IntKind.wrap_i64]; omega
  go_enter Tryd.func83, Tryd.ntmps83
  go_wp2
  go_loopw [9, 10] (fun vi vs wr => ∃ (i s : Nat) (dk : Array (Pl N)), vi = .int .i64 i ∧ vs = .int .i64 s ∧ s ≤ 5 ∧ a < i ∧ i ≤ b ∧ dk.size = d.size ∧ Hid (SP w0 blk dk wr) ∧ Hid (partialIns (ltOf cf) a b (5 - s) i dk = P)) (fun _ vs _ => 5 - (intOf vs).toNat)
  case atStart => exact ⟨a + 1, 0, d, by go_num, by first | rfl | go_num, by omega, by omega, by omega, rfl, SJ, HP⟩
  case round =>
    clear SJ HP
    obtain ⟨i, s, dk, rfl, rfl, hs5, hai, hib, hsk, SJ, HO⟩ := hrel
    by_cases hs : s < 5
    · have s0 : (s : Int) < 5 := by omega
      go_wp2
      go_loopw [9] (fun vi wr2 => ∃ (k : Nat), vi = .int .i64 k ∧ i ≤ k ∧ k ≤ b ∧ Hid (SP w0 blk dk wr2) ∧ Hid (scanSorted (ltOf cf) dk b k = scanSorted (ltOf cf) dk b i)) (fun vi _ => b - (intOf vi).toNat)
      case atStart => exact ⟨i, by first | rfl | go_num, Nat.le_refl _, hib, SJ, rfl⟩
      case round =>
        clear SJ
        obtain ⟨k, rfl, hik, hkb, SJ, HS⟩ := hrel
        by_cases hkb' : k < b
        · have k0 : (k : Int) < (b : Int) := by omega
          have k0d : decide ((k : Int) < (b : Int)) = true := decide_eq_true k0
          obtain ⟨q, kq0⟩ : ∃ q, k = q + 1 := ⟨k - 1, by omega⟩
          have kq1 : (k : Int) - 1 = (q : Int) := by omega
          have kq2 : (0 : Int) ≤ (q : Int) := by omega
          have kq3 : (q : Int) < (d.size : Int) := by omega
          have kq4 : (0 : Int) ≤ (k : Int) := by omega
          have kq5 : (k : Int) < (d.size : Int) := by omega
          have kq6 : IntKind.i64.wrap (q : Int) = (q : Int) := by rw [IntKind.wrap_i64]; omega
          have kq7 : k - 1 = q := by omega
          have kqH := hide kq7
          clear kq0 kq7
          cases hlv : (ltOf cf) dk[k]! dk[q]! with
          | false =>
            have HS' := hide ((scanSorted_go (ltOf cf) dk b k hkb' (by rw [kqH.out]; exact hlv)).symm.trans HS.out)
            have lx := fun n os => SP.cells SJ.out R (by omega) (k) (by omega) n os
            have ly := fun n os => SP.cells SJ.out R (by omega) (q) (by omega) n os
            have hc := fun n os => SP.cmp (d0 := d0) SJ.out HC.out (by omega) dk[k]! dk[q]! n os
            have hv : ¬ cf dk[k]! dk[q]! < 0 := of_decide_eq_false hlv
            generalize dk[k]! = x at lx hc hv
            generalize dk[q]! = y at ly hc hv
            have hd : decide (cf x y < 0) = false := decide_eq_false hv
            have hE := fun n os => SW.grown SJ.out n os
            go_wp2_with fail
            go_quiet_grown (first | (go_at_call 63; refine Calls.grown_of (hc _ _)))
            replace SJ := hide (hE nq osq)
            clear lx ly hc hv hd hE
            generalize grow (wr.drewN nq) osq = w2 at SJ ⊢
            go_wp2
            go_roundw
            case rel => exact ⟨k + 1, by go_num, by omega, by omega, SJ, HS'⟩
            case measure => simp [intOf]; omega
          | true =>
            have HK := hide (show scanSorted (ltOf cf) dk b i = k from HS.out.symm.trans (scanSorted_stop (ltOf cf) dk b k (Or.inr (by rw [kqH.out]; exact hlv))))
            have lx := fun n os => SP.cells SJ.out R (by omega) (k) (by omega) n os
            have ly := fun n os => SP.cells SJ.out R (by omega) (q) (by omega) n os
            have hc := fun n os => SP.cmp (d0 := d0) SJ.out HC.out (by omega) dk[k]! dk[q]! n os
            have hv : cf dk[k]! dk[q]! < 0 := of_decide_eq_true hlv
            generalize dk[k]! = x at lx hc hv
            generalize dk[q]! = y at ly hc hv
            have hd : decide (cf x y < 0) = true := decide_eq_true hv
            have hE := fun n os => SW.grown SJ.out n os
            go_wp2_with fail
            go_quiet_grown (first | (go_at_call 63; refine Calls.grown_of (hc _ _)))
            replace SJ := hide (hE nq osq)
            clear lx ly hc hv hd hE
            generalize grow (wr.drewN nq) osq = w2 at SJ ⊢
            have k1 : ¬ (k : Int) = (b : Int) := by omega
            by_cases h50 : b - a < 50
            · have h5 : (b : Int) - (a : Int) < 50 := by omega
              have HPe := hide (show P = (dk, false) by rw [← HO.out, pi_short (ltOf cf) a b s i dk hs (by rw [HK.out]; omega) h50])
              go_wp2
              go_ret
              exact ⟨by first | (rw [HPe.out]; done) | (rw [HPe.out]; rfl), by rw [HPe.out]; exact SJ.out⟩
            · have h5 : ¬ (b : Int) - (a : Int) < 50 := by omega
              have ew2 : IntKind.i64.wrap ((k : Int) - (a : Int)) = (k : Int) - (a : Int) := by rw [IntKind.wrap_i64]; omega
              have ew3 : IntKind.i64.wrap ((b : Int) - (k : Int)) = (b : Int) - (k : Int) := by rw [IntKind.wrap_i64]; omega
              have ca := SP.cell SJ.out R (by omega) (k) (by omega)
              have cb := SP.cell SJ.out R (by omega) (q) (by omega)
              have fa := SP.free SJ.out R (by omega) (k) (by omega)
              have fb := SP.free SJ.out R (by omega) (q) (by omega)
              obtain ⟨u, cc⟩ := SP.other SJ.out R (by omega) (k) (q) (by omega) (by omega) (.int .i64 (dk[q]!.val : Int))
              have hE := SP.swap SJ.out R (k) (q) (by omega) (by omega)
              generalize dk[k]! = x at ca cb cc hE
              generalize dk[q]! = y at ca cb cc hE
              go_wp2_with fail
              go_big_region_o
              replace SJ := hide hE
              clear ca cb cc fa fb hE
              generalize ((w2.setCell ⟨blk, k, none⟩ (.int .i64 (y.val : Int))).setCell ⟨blk, q, none⟩ (.int .i64 (x.val : Int))).drew = w3 at SJ ⊢
              obtain ⟨dn, hdn⟩ : ∃ dn, dn = swp dk k q := ⟨_, rfl⟩
              have hsn : dn.size = d.size := by rw [hdn, size_swp]; exact hsk
              rw [← hdn] at SJ
              have HN := hide hdn.symm
              clear hdn
              by_cases hd2 : k - a ≥ 2
              · have d2 : (2 : Int) ≤ (k : Int) - (a : Int) := by omega
                go_wp2
                go_loopw [11] (fun vj wr2 => ∃ (j : Nat) (dj : Array (Pl N)), vj = .int .i64 j ∧ j ≤ q ∧ dj.size = d.size ∧ Hid (SP w0 blk dj wr2) ∧ Hid (shiftDown (ltOf cf) j dj = shiftDown (ltOf cf) q dn)) (fun vj _ => (intOf vj).toNat)
                case atStart => exact ⟨q, dn, by first | rfl | go_num, Nat.le_refl _, hsn, SJ, rfl⟩
                case round =>
                  clear SJ
                  obtain ⟨j, dj, rfl, hjq, hsj, SJ, HDn⟩ := hrel
                  by_cases hj1 : 1 ≤ j
                  · have j0 : (1 : Int) ≤ (j : Int) := by omega
                    obtain ⟨z9, jq0⟩ : ∃ z9, j = z9 + 1 := ⟨j - 1, by omega⟩
                    have jq1 : (j : Int) - 1 = (z9 : Int) := by omega
                    have jq2 : (0 : Int) ≤ (z9 : Int) := by omega
                    have jq3 : (z9 : Int) < (d.size : Int) := by omega
                    have jq4 : (0 : Int) ≤ (j : Int) := by omega
                    have jq5 : (j : Int) < (d.size : Int) := by omega
                    have jq6 : IntKind.i64.wrap (z9 : Int) = (z9 : Int) := by rw [IntKind.wrap_i64]; omega
                    have jq7 : j - 1 = z9 := by omega
                    have jqH := hide jq7
                    clear jq0 jq7
                    cases hlv : (ltOf cf) dj[j]! dj[z9]! with
                    | true =>
                      have HD2 := hide ((shiftDown_go (ltOf cf) j dj hj1 (by rw [jqH.out]; exact hlv)).symm.trans HDn.out)
                      rw [jqH.out] at HD2
                      have lx := fun n os => SP.cells SJ.out R (by omega) (j) (by omega) n os
                      have ly := fun n os => SP.cells SJ.out R (by omega) (z9) (by omega) n os
                      have hc := fun n os => SP.cmp (d0 := d0) SJ.out HC.out (by omega) dj[j]! dj[z9]! n os
                      have hv : cf dj[j]! dj[z9]! < 0 := of_decide_eq_true hlv
                      generalize dj[j]! = x at lx hc hv
                      generalize dj[z9]! = y at ly hc hv
                      have hd : decide (cf x y < 0) = true := decide_eq_true hv
                      have hE := fun n os => SW.grown SJ.out n os
                      go_wp2_with fail
                      go_quiet_grown (first | (go_at_call 63; refine Calls.grown_of (hc _ _)))
                      replace SJ := hide (hE nq osq)
                      clear lx ly hc hv hd hE
                      generalize grow (wr.drewN nq) osq = w2 at SJ ⊢
                      have ca := SP.cell SJ.out R (by omega) (j) (by omega)
                      have cb := SP.cell SJ.out R (by omega) (z9) (by omega)
                      have fa := SP.free SJ.out R (by omega) (j) (by omega)
                      have fb := SP.free SJ.out R (by omega) (z9) (by omega)
                      obtain ⟨u, cc⟩ := SP.other SJ.out R (by omega) (j) (z9) (by omega) (by omega) (.int .i64 (dj[z9]!.val : Int))
                      have hE := SP.swap SJ.out R (j) (z9) (by omega) (by omega)
                      generalize dj[j]! = x at ca cb cc hE
                      generalize dj[z9]! = y at ca cb cc hE
                      go_wp2_with fail
                      go_big_region_o
                      replace SJ := hide hE
                      clear ca cb cc fa fb hE
                      generalize ((w2.setCell ⟨blk, j, none⟩ (.int .i64 (y.val : Int))).setCell ⟨blk, z9, none⟩ (.int .i64 (x.val : Int))).drew = w6 at SJ ⊢
                      go_wp2
                      go_roundw
                      case rel => exact ⟨z9, swp dj j z9, by first | rfl | go_num, by omega, by rw [size_swp]; exact hsj, SJ, HD2⟩
                      case measure => simp [intOf]; omega
                    | false =>
                      have HFD := hide (show fixDown (ltOf cf) a k (swp dk k q) = dj by rw [HN.out]; unfold fixDown; rw [if_pos hd2, kqH.out, ← HDn.out]; exact shiftDown_stop (ltOf cf) j dj (Or.inr (by rw [jqH.out]; exact hlv)))
                      have lx := fun n os => SP.cells SJ.out R (by omega) (j) (by omega) n os
                      have ly := fun n os => SP.cells SJ.out R (by omega) (z9) (by omega) n os
                      have hc := fun n os => SP.cmp (d0 := d0) SJ.out HC.out (by omega) dj[j]! dj[z9]! n os
                      have hv : ¬ cf dj[j]! dj[z9]! < 0 := of_decide_eq_false hlv
                      generalize dj[j]! = x at lx hc hv
                      generalize dj[z9]! = y at ly hc hv
                      have hd : decide (cf x y < 0) = false := decide_eq_false hv
                      have hE := fun n os => SW.grown SJ.out n os
                      go_wp2_with fail
                      go_quiet_grown (first | (go_at_call 63; refine Calls.grown_of (hc _ _)))
                      replace SJ := hide (hE nq osq)
                      clear lx ly hc hv hd hE
                      generalize grow (wr.drewN nq) osq = w2 at SJ ⊢
                      by_cases hu2 : b - k ≥ 2
                      · have u2 : (2 : Int) ≤ (b : Int) - (k : Int) := by omega
                        go_wp2
                        go_loopw [12] (fun vj wr2 => ∃ (j : Nat) (dm : Array (Pl N)), vj = .int .i64 j ∧ k + 1 ≤ j ∧ j ≤ b ∧ dm.size = d.size ∧ Hid (SP w0 blk dm wr2) ∧ Hid (shiftUp (ltOf cf) b j dm = shiftUp (ltOf cf) b (k + 1) dj)) (fun vj _ => b - (intOf vj).toNat)
                        case atStart => exact ⟨k + 1, dj, by go_num, Nat.le_refl _, by omega, hsj, SJ, rfl⟩
                        case round =>
                          clear SJ
                          obtain ⟨t, dm, rfl, ht1, ht2, hsm, SJ, HUp⟩ := hrel
                          by_cases htb : t < b
                          · have t0 : (t : Int) < (b : Int) := by omega
                            obtain ⟨y9, tq0⟩ : ∃ y9, t = y9 + 1 := ⟨t - 1, by omega⟩
                            have tq1 : (t : Int) - 1 = (y9 : Int) := by omega
                            have tq2 : (0 : Int) ≤ (y9 : Int) := by omega
                            have tq3 : (y9 : Int) < (d.size : Int) := by omega
                            have tq4 : (0 : Int) ≤ (t : Int) := by omega
                            have tq5 : (t : Int) < (d.size : Int) := by omega
                            have tq6 : IntKind.i64.wrap (y9 : Int) = (y9 : Int) := by rw [IntKind.wrap_i64]; omega
                            have tq7 : t - 1 = y9 := by omega
                            have tqH := hide tq7
                            clear tq0 tq7
                            cases hlv : (ltOf cf) dm[t]! dm[y9]! with
                            | true =>
                              have HU2 := hide ((shiftUp_go (ltOf cf) b t dm htb (by rw [tqH.out]; exact hlv)).symm.trans HUp.out)
                              rw [tqH.out] at HU2
                              have lx := fun n os => SP.cells SJ.out R (by omega) (t) (by omega) n os
                              have ly := fun n os => SP.cells SJ.out R (by omega) (y9) (by omega) n os
                              have hc := fun n os => SP.cmp (d0 := d0) SJ.out HC.out (by omega) dm[t]! dm[y9]! n os
                              have hv : cf dm[t]! dm[y9]! < 0 := of_decide_eq_true hlv
                              generalize dm[t]! = x at lx hc hv
                              generalize dm[y9]! = y at ly hc hv
                              have hd : decide (cf x y < 0) = true := decide_eq_true hv
                              have hE := fun n os => SW.grown SJ.out n os
                              go_wp2_with fail
                              go_quiet_grown (first | (go_at_call 63; refine Calls.grown_of (hc _ _)))
                              replace SJ := hide (hE nq osq)
                              clear lx ly hc hv hd hE
                              generalize grow (wr.drewN nq) osq = w2 at SJ ⊢
                              have ca := SP.cell SJ.out R (by omega) (t) (by omega)
                              have cb := SP.cell SJ.out R (by omega) (y9) (by omega)
                              have fa := SP.free SJ.out R (by omega) (t) (by omega)
                              have fb := SP.free SJ.out R (by omega) (y9) (by omega)
                              obtain ⟨u, cc⟩ := SP.other SJ.out R (by omega) (t) (y9) (by omega) (by omega) (.int .i64 (dm[y9]!.val : Int))
                              have hE := SP.swap SJ.out R (t) (y9) (by omega) (by omega)
                              generalize dm[t]! = x at ca cb cc hE
                              generalize dm[y9]! = y at ca cb cc hE
                              go_wp2_with fail
                              go_big_region_o
                              replace SJ := hide hE
                              clear ca cb cc fa fb hE
                              generalize ((w2.setCell ⟨blk, t, none⟩ (.int .i64 (y.val : Int))).setCell ⟨blk, y9, none⟩ (.int .i64 (x.val : Int))).drew = w6 at SJ ⊢
                              go_wp2
                              go_roundw
                              case rel => exact ⟨t + 1, swp dm t y9, by go_num, by omega, by omega, by rw [size_swp]; exact hsm, SJ, HU2⟩
                              case measure => simp [intOf]; omega
                            | false =>
                              have HE := hide (show fixUp (ltOf cf) b k dj = dm by unfold fixUp; rw [if_pos hu2, ← HUp.out]; exact shiftUp_stop (ltOf cf) b t dm (Or.inr (by rw [tqH.out]; exact hlv)))
                              have lx := fun n os => SP.cells SJ.out R (by omega) (t) (by omega) n os
                              have ly := fun n os => SP.cells SJ.out R (by omega) (y9) (by omega) n os
                              have hc := fun n os => SP.cmp (d0 := d0) SJ.out HC.out (by omega) dm[t]! dm[y9]! n os
                              have hv : ¬ cf dm[t]! dm[y9]! < 0 := of_decide_eq_false hlv
                              generalize dm[t]! = x at lx hc hv
                              generalize dm[y9]! = y at ly hc hv
                              have hd : decide (cf x y < 0) = false := decide_eq_false hv
                              have hE := fun n os => SW.grown SJ.out n os
                              go_wp2_with fail
                              go_quiet_grown (first | (go_at_call 63; refine Calls.grown_of (hc _ _)))
                              replace SJ := hide (hE nq osq)
                              clear lx ly hc hv hd hE
                              generalize grow (wr.drewN nq) osq = w2 at SJ ⊢
                              go_wp2
                              go_roundw
                              case rel => exact ⟨k, s + 1, dm, by first | rfl | go_num, by go_num, by omega, by omega, by omega, hsm, SJ, (show Hid _ from by rw [← HO.out, pi_go (ltOf cf) a b s i k dk hs HK.out (by omega) (by omega), kqH.out, HFD.out, HE.out]; exact rfl)⟩
                              case measure => simp [intOf]; omega
                          · have t0 : ¬ (t : Int) < (b : Int) := by omega
                            have HE := hide (show fixUp (ltOf cf) b k dj = dm by unfold fixUp; rw [if_pos hu2, ← HUp.out]; exact shiftUp_stop (ltOf cf) b t dm (Or.inl htb))
                            go_wp2
                            go_roundw
                            case rel => exact ⟨k, s + 1, dm, by first | rfl | go_num, by go_num, by omega, by omega, by omega, hsm, SJ, (show Hid _ from by rw [← HO.out, pi_go (ltOf cf) a b s i k dk hs HK.out (by omega) (by omega), kqH.out, HFD.out, HE.out]; exact rfl)⟩
                            case measure => simp [intOf]; omega
                      · have u2 : ¬ (2 : Int) ≤ (b : Int) - (k : Int) := by omega
                        have HE := hide (show fixUp (ltOf cf) b k dj = dj by unfold fixUp; rw [if_neg hu2])
                        go_wp2
                        go_roundw
                        case rel => exact ⟨k, s + 1, dj, by first | rfl | go_num, by go_num, by omega, by omega, by omega, hsj, SJ, (show Hid _ from by rw [← HO.out, pi_go (ltOf cf) a b s i k dk hs HK.out (by omega) (by omega), kqH.out, HFD.out, HE.out]; exact rfl)⟩
                        case measure => simp [intOf]; omega
                  · have j0 : ¬ (1 : Int) ≤ (j : Int) := by omega
                    have HFD := hide (show fixDown (ltOf cf) a k (swp dk k q) = dj by rw [HN.out]; unfold fixDown; rw [if_pos hd2, kqH.out, ← HDn.out]; exact shiftDown_stop (ltOf cf) j dj (Or.inl (by omega)))
                    by_cases hu2 : b - k ≥ 2
                    · have u2 : (2 : Int) ≤ (b : Int) - (k : Int) := by omega
                      go_wp2
                      go_loopw [12] (fun vj wr2 => ∃ (j : Nat) (dm : Array (Pl N)), vj = .int .i64 j ∧ k + 1 ≤ j ∧ j ≤ b ∧ dm.size = d.size ∧ Hid (SP w0 blk dm wr2) ∧ Hid (shiftUp (ltOf cf) b j dm = shiftUp (ltOf cf) b (k + 1) dj)) (fun vj _ => b - (intOf vj).toNat)
                      case atStart => exact ⟨k + 1, dj, by go_num, Nat.le_refl _, by omega, hsj, SJ, rfl⟩
                      case round =>
                        clear SJ
                        obtain ⟨t, dm, rfl, ht1, ht2, hsm, SJ, HUp⟩ := hrel
                        by_cases htb : t < b
                        · have t0 : (t : Int) < (b : Int) := by omega
                          obtain ⟨y9, tq0⟩ : ∃ y9, t = y9 + 1 := ⟨t - 1, by omega⟩
                          have tq1 : (t : Int) - 1 = (y9 : Int) := by omega
                          have tq2 : (0 : Int) ≤ (y9 : Int) := by omega
                          have tq3 : (y9 : Int) < (d.size : Int) := by omega
                          have tq4 : (0 : Int) ≤ (t : Int) := by omega
                          have tq5 : (t : Int) < (d.size : Int) := by omega
                          have tq6 : IntKind.i64.wrap (y9 : Int) = (y9 : Int) := by rw [IntKind.wrap_i64]; omega
                          have tq7 : t - 1 = y9 := by omega
                          have tqH := hide tq7
                          clear tq0 tq7
                          cases hlv : (ltOf cf) dm[t]! dm[y9]! with
                          | true =>
                            have HU2 := hide ((shiftUp_go (ltOf cf) b t dm htb (by rw [tqH.out]; exact hlv)).symm.trans HUp.out)
                            rw [tqH.out] at HU2
                            have lx := fun n os => SP.cells SJ.out R (by omega) (t) (by omega) n os
                            have ly := fun n os => SP.cells SJ.out R (by omega) (y9) (by omega) n os
                            have hc := fun n os => SP.cmp (d0 := d0) SJ.out HC.out (by omega) dm[t]! dm[y9]! n os
                            have hv : cf dm[t]! dm[y9]! < 0 := of_decide_eq_true hlv
                            generalize dm[t]! = x at lx hc hv
                            generalize dm[y9]! = y at ly hc hv
                            have hd : decide (cf x y < 0) = true := decide_eq_true hv
                            have hE := fun n os => SW.grown SJ.out n os
                            go_wp2_with fail
                            go_quiet_grown (first | (go_at_call 63; refine Calls.grown_of (hc _ _)))
                            replace SJ := hide (hE nq osq)
                            clear lx ly hc hv hd hE
                            generalize grow (wr.drewN nq) osq = w2 at SJ ⊢
                            have ca := SP.cell SJ.out R (by omega) (t) (by omega)
                            have cb := SP.cell SJ.out R (by omega) (y9) (by omega)
                            have fa := SP.free SJ.out R (by omega) (t) (by omega)
                            have fb := SP.free SJ.out R (by omega) (y9) (by omega)
                            obtain ⟨u, cc⟩ := SP.other SJ.out R (by omega) (t) (y9) (by omega) (by omega) (.int .i64 (dm[y9]!.val : Int))
                            have hE := SP.swap SJ.out R (t) (y9) (by omega) (by omega)
                            generalize dm[t]! = x at ca cb cc hE
                            generalize dm[y9]! = y at ca cb cc hE
                            go_wp2_with fail
                            go_big_region_o
                            replace SJ := hide hE
                            clear ca cb cc fa fb hE
                            generalize ((w2.setCell ⟨blk, t, none⟩ (.int .i64 (y.val : Int))).setCell ⟨blk, y9, none⟩ (.int .i64 (x.val : Int))).drew = w6 at SJ ⊢
                            go_wp2
                            go_roundw
                            case rel => exact ⟨t + 1, swp dm t y9, by go_num, by omega, by omega, by rw [size_swp]; exact hsm, SJ, HU2⟩
                            case measure => simp [intOf]; omega
                          | false =>
                            have HE := hide (show fixUp (ltOf cf) b k dj = dm by unfold fixUp; rw [if_pos hu2, ← HUp.out]; exact shiftUp_stop (ltOf cf) b t dm (Or.inr (by rw [tqH.out]; exact hlv)))
                            have lx := fun n os => SP.cells SJ.out R (by omega) (t) (by omega) n os
                            have ly := fun n os => SP.cells SJ.out R (by omega) (y9) (by omega) n os
                            have hc := fun n os => SP.cmp (d0 := d0) SJ.out HC.out (by omega) dm[t]! dm[y9]! n os
                            have hv : ¬ cf dm[t]! dm[y9]! < 0 := of_decide_eq_false hlv
                            generalize dm[t]! = x at lx hc hv
                            generalize dm[y9]! = y at ly hc hv
                            have hd : decide (cf x y < 0) = false := decide_eq_false hv
                            have hE := fun n os => SW.grown SJ.out n os
                            go_wp2_with fail
                            go_quiet_grown (first | (go_at_call 63; refine Calls.grown_of (hc _ _)))
                            replace SJ := hide (hE nq osq)
                            clear lx ly hc hv hd hE
                            generalize grow (wr.drewN nq) osq = w2 at SJ ⊢
                            go_wp2
                            go_roundw
                            case rel => exact ⟨k, s + 1, dm, by first | rfl | go_num, by go_num, by omega, by omega, by omega, hsm, SJ, (show Hid _ from by rw [← HO.out, pi_go (ltOf cf) a b s i k dk hs HK.out (by omega) (by omega), kqH.out, HFD.out, HE.out]; exact rfl)⟩
                            case measure => simp [intOf]; omega
                        · have t0 : ¬ (t : Int) < (b : Int) := by omega
                          have HE := hide (show fixUp (ltOf cf) b k dj = dm by unfold fixUp; rw [if_pos hu2, ← HUp.out]; exact shiftUp_stop (ltOf cf) b t dm (Or.inl htb))
                          go_wp2
                          go_roundw
                          case rel => exact ⟨k, s + 1, dm, by first | rfl | go_num, by go_num, by omega, by omega, by omega, hsm, SJ, (show Hid _ from by rw [← HO.out, pi_go (ltOf cf) a b s i k dk hs HK.out (by omega) (by omega), kqH.out, HFD.out, HE.out]; exact rfl)⟩
                          case measure => simp [intOf]; omega
                    · have u2 : ¬ (2 : Int) ≤ (b : Int) - (k : Int) := by omega
                      have HE := hide (show fixUp (ltOf cf) b k dj = dj by unfold fixUp; rw [if_neg hu2])
                      go_wp2
                      go_roundw
                      case rel => exact ⟨k, s + 1, dj, by first | rfl | go_num, by go_num, by omega, by omega, by omega, hsj, SJ, (show Hid _ from by rw [← HO.out, pi_go (ltOf cf) a b s i k dk hs HK.out (by omega) (by omega), kqH.out, HFD.out, HE.out]; exact rfl)⟩
                      case measure => simp [intOf]; omega
              · have d2 : ¬ (2 : Int) ≤ (k : Int) - (a : Int) := by omega
                obtain ⟨dj, hdj⟩ : ∃ dj, dj = dn := ⟨_, rfl⟩
                have hsj : dj.size = d.size := by rw [hdj]; exact hsn
                rw [← hdj] at SJ
                have HFD := hide (show fixDown (ltOf cf) a k (swp dk k q) = dj by rw [HN.out, hdj]; unfold fixDown; rw [if_neg hd2])
                clear hdj
                by_cases hu2 : b - k ≥ 2
                · have u2 : (2 : Int) ≤ (b : Int) - (k : Int) := by omega
                  go_wp2
                  go_loopw [12] (fun vj wr2 => ∃ (j : Nat) (dm : Array (Pl N)), vj = .int .i64 j ∧ k + 1 ≤ j ∧ j ≤ b ∧ dm.size = d.size ∧ Hid (SP w0 blk dm wr2) ∧ Hid (shiftUp (ltOf cf) b j dm = shiftUp (ltOf cf) b (k + 1) dj)) (fun vj _ => b - (intOf vj).toNat)
                  case atStart => exact ⟨k + 1, dj, by go_num, Nat.le_refl _, by omega, hsj, SJ, rfl⟩
                  case round =>
                    clear SJ
                    obtain ⟨t, dm, rfl, ht1, ht2, hsm, SJ, HUp⟩ := hrel
                    by_cases htb : t < b
                    · have t0 : (t : Int) < (b : Int) := by omega
                      obtain ⟨y9, tq0⟩ : ∃ y9, t = y9 + 1 := ⟨t - 1, by omega⟩
                      have tq1 : (t : Int) - 1 = (y9 : Int) := by omega
                      have tq2 : (0 : Int) ≤ (y9 : Int) := by omega
                      have tq3 : (y9 : Int) < (d.size : Int) := by omega
                      have tq4 : (0 : Int) ≤ (t : Int) := by omega
                      have tq5 : (t : Int) < (d.size : Int) := by omega
                      have tq6 : IntKind.i64.wrap (y9 : Int) = (y9 : Int) := by rw [IntKind.wrap_i64]; omega
                      have tq7 : t - 1 = y9 := by omega
                      have tqH := hide tq7
                      clear tq0 tq7
                      cases hlv : (ltOf cf) dm[t]! dm[y9]! with
                      | true =>
                        have HU2 := hide ((shiftUp_go (ltOf cf) b t dm htb (by rw [tqH.out]; exact hlv)).symm.trans HUp.out)
                        rw [tqH.out] at HU2
                        have lx := fun n os => SP.cells SJ.out R (by omega) (t) (by omega) n os
                        have ly := fun n os => SP.cells SJ.out R (by omega) (y9) (by omega) n os
                        have hc := fun n os => SP.cmp (d0 := d0) SJ.out HC.out (by omega) dm[t]! dm[y9]! n os
                        have hv : cf dm[t]! dm[y9]! < 0 := of_decide_eq_true hlv
                        generalize dm[t]! = x at lx hc hv
                        generalize dm[y9]! = y at ly hc hv
                        have hd : decide (cf x y < 0) = true := decide_eq_true hv
                        have hE := fun n os => SW.grown SJ.out n os
                        go_wp2_with fail
                        go_quiet_grown (first | (go_at_call 63; refine Calls.grown_of (hc _ _)))
                        replace SJ := hide (hE nq osq)
                        clear lx ly hc hv hd hE
                        generalize grow (wr.drewN nq) osq = w2 at SJ ⊢
                        have ca := SP.cell SJ.out R (by omega) (t) (by omega)
                        have cb := SP.cell SJ.out R (by omega) (y9) (by omega)
                        have fa := SP.free SJ.out R (by omega) (t) (by omega)
                        have fb := SP.free SJ.out R (by omega) (y9) (by omega)
                        obtain ⟨u, cc⟩ := SP.other SJ.out R (by omega) (t) (y9) (by omega) (by omega) (.int .i64 (dm[y9]!.val : Int))
                        have hE := SP.swap SJ.out R (t) (y9) (by omega) (by omega)
                        generalize dm[t]! = x at ca cb cc hE
                        generalize dm[y9]! = y at ca cb cc hE
                        go_wp2_with fail
                        go_big_region_o
                        replace SJ := hide hE
                        clear ca cb cc fa fb hE
                        generalize ((w2.setCell ⟨blk, t, none⟩ (.int .i64 (y.val : Int))).setCell ⟨blk, y9, none⟩ (.int .i64 (x.val : Int))).drew = w6 at SJ ⊢
                        go_wp2
                        go_roundw
                        case rel => exact ⟨t + 1, swp dm t y9, by go_num, by omega, by omega, by rw [size_swp]; exact hsm, SJ, HU2⟩
                        case measure => simp [intOf]; omega
                      | false =>
                        have HE := hide (show fixUp (ltOf cf) b k dj = dm by unfold fixUp; rw [if_pos hu2, ← HUp.out]; exact shiftUp_stop (ltOf cf) b t dm (Or.inr (by rw [tqH.out]; exact hlv)))
                        have lx := fun n os => SP.cells SJ.out R (by omega) (t) (by omega) n os
                        have ly := fun n os => SP.cells SJ.out R (by omega) (y9) (by omega) n os
                        have hc := fun n os => SP.cmp (d0 := d0) SJ.out HC.out (by omega) dm[t]! dm[y9]! n os
                        have hv : ¬ cf dm[t]! dm[y9]! < 0 := of_decide_eq_false hlv
                        generalize dm[t]! = x at lx hc hv
                        generalize dm[y9]! = y at ly hc hv
                        have hd : decide (cf x y < 0) = false := decide_eq_false hv
                        have hE := fun n os => SW.grown SJ.out n os
                        go_wp2_with fail
                        go_quiet_grown (first | (go_at_call 63; refine Calls.grown_of (hc _ _)))
                        replace SJ := hide (hE nq osq)
                        clear lx ly hc hv hd hE
                        generalize grow (wr.drewN nq) osq = w2 at SJ ⊢
                        go_wp2
                        go_roundw
                        case rel => exact ⟨k, s + 1, dm, by first | rfl | go_num, by go_num, by omega, by omega, by omega, hsm, SJ, (show Hid _ from by rw [← HO.out, pi_go (ltOf cf) a b s i k dk hs HK.out (by omega) (by omega), kqH.out, HFD.out, HE.out]; exact rfl)⟩
                        case measure => simp [intOf]; omega
                    · have t0 : ¬ (t : Int) < (b : Int) := by omega
                      have HE := hide (show fixUp (ltOf cf) b k dj = dm by unfold fixUp; rw [if_pos hu2, ← HUp.out]; exact shiftUp_stop (ltOf cf) b t dm (Or.inl htb))
                      go_wp2
                      go_roundw
                      case rel => exact ⟨k, s + 1, dm, by first | rfl | go_num, by go_num, by omega, by omega, by omega, hsm, SJ, (show Hid _ from by rw [← HO.out, pi_go (ltOf cf) a b s i k dk hs HK.out (by omega) (by omega), kqH.out, HFD.out, HE.out]; exact rfl)⟩
                      case measure => simp [intOf]; omega
                · have u2 : ¬ (2 : Int) ≤ (b : Int) - (k : Int) := by omega
                  have HE := hide (show fixUp (ltOf cf) b k dj = dj by unfold fixUp; rw [if_neg hu2])
                  go_wp2
                  go_roundw
                  case rel => exact ⟨k, s + 1, dj, by first | rfl | go_num, by go_num, by omega, by omega, by omega, hsj, SJ, (show Hid _ from by rw [← HO.out, pi_go (ltOf cf) a b s i k dk hs HK.out (by omega) (by omega), kqH.out, HFD.out, HE.out]; exact rfl)⟩
                  case measure => simp [intOf]; omega
        · have k0 : ¬ (k : Int) < (b : Int) := by omega
          have k0d : decide ((k : Int) < (b : Int)) = false := decide_eq_false k0
          go_wp2_with fail
          go_big_region_o
          replace SJ := hide (SW.drew SJ.out)
          generalize wr.drew = w2 at SJ ⊢
          have k1 : (k : Int) = (b : Int) := by omega
          have HPe := hide (show P = (dk, true) by rw [← HO.out, pi_true (ltOf cf) a b s i dk hs (HS.out.symm.trans ((scanSorted_stop (ltOf cf) dk b k (Or.inl hkb')).trans (by omega)))])
          go_wp2
          go_ret
          exact ⟨by first | (rw [HPe.out]; done) | (rw [HPe.out]; rfl), by rw [HPe.out]; exact SJ.out⟩
    · have s0 : ¬ (s : Int) < 5 := by omega
      have HPe := hide (show P = (dk, false) by rw [← HO.out, show 5 - s = 0 by omega]; rfl)
      go_wp2
      go_ret
      exact ⟨by first | (rw [HPe.out]; done) | (rw [HPe.out]; rfl), by rw [HPe.out]; exact SJ.out⟩

end Go.Proofs.YtcmdglmcmifflaaDoor.Rs
