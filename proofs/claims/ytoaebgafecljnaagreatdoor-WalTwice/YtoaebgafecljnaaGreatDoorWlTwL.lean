/- WalTwice: for all arguments that can be read the law returns true, and all read as they did. -/
import Derived.Test.YtoaebgafecljnaaGreatDoorWlTwo
import Derived.Test.YtoaebgafecljnaaGreatDoorWlSegsL
import Derived.Deep.CutRange
import Derived.Deep.CutBlock
namespace Go.Proofs.YtoaebgafecljnaaGreatDoor.Wl
open Go.RowKit Go.Joins Go.Proofs.YtoaebgafecljnaaGreatDoor.Gk
open Go.Proofs.YtoaebgafecljnaaGreatDoor.Dk (Bs Fil Fls St St.Ok Held Only)

/-- a number's cell, in worlds that come behind -/
theorem int_cell {w : World} {a : Option Addr} {cap : Nat} {ts : List Int} (h : Gk.IntsAt w a cap ts) (k : Nat) (hk : k < ts.length) : ∃ b off, a = some ⟨b, off, none⟩ ∧ ∀ W, Below w.heap.size w W → W.cell? ⟨b, off + k, none⟩ = some (.int .i64 ts[k]) := by
  obtain ⟨b, off, rfl, hlt, hc⟩ := h.lies.at Gk.ienc_len k hk
  refine ⟨b, off, rfl, fun W hb => ?_⟩
  obtain ⟨b', off', e, _, hc'⟩ := (h.lies.below hb).at Gk.ienc_len k hk
  cases e
  have := hc' 0 _ rfl
  rwa [Nat.mul_one, Nat.add_zero] at this
theorem grew_nil {most : Nat} {S S' : St} {l l' : List Sg} {n m m' c : Nat} {r : Rec} (h : Grew most S S' l l' n m m' r c) (hc : c = 0) : l' ≠ [] := fun e => by
  have := h.recs
  rw [e, if_pos hc] at this
  simp [allRecs] at this

set_option maxRecDepth 100000 in
set_option maxHeartbeats 12800000 in
theorem twice_law (mo : Int) (a : Option Addr) (cap : Nat) (gs : List GoV) (fa : Option Addr) (fc : Nat) (fs : List Int) (w : World) (hmo : (Lit.int .i64 mo).wf = true) (hG : GosAt w a cap gs) (hF : Gk.IntsAt w fa fc fs) (hT : Tab w) :
    Calls Tryz.prog 7 #[.int .i64 mo, .slice a gs.length cap, .slice fa fs.length fc] w fun e w' => e = .returned (.bool true) ∧ Below w.heap.size w w' := by
  have mixed : Tryz.prog.follows .mixedOrders = true := by kernel_rfl
  have hN := Dk.new_ok 262144 w (by omega)
  obtain ⟨m0, m1⟩ : -9223372036854775808 ≤ mo ∧ mo ≤ 9223372036854775807 := bounds_i64 hmo
  have hAm := fun W => Gk.among_any mo 100 W (by omega) (by omega) m0 m1
  obtain ⟨M, hM⟩ : ∃ M : Nat, (M : Int) = mo % 100 := ⟨(mo % 100).toNat, by omega⟩
  have hMb : M < 100 := by omega
  simp only [← hM] at hAm
  clear hM hmo m0 m1
  have hgl : gs.length ≤ 9223372036854775807 := by have := hG.room; have := hG.max; omega
  have hfl : fs.length ≤ 9223372036854775807 := by have := hF.room; have := hF.max; omega
  go_enter Tryz.func7, Tryz.ntmps7
  go_wp2_with fail
  refine hN.mono ?_
  rintro e w1 ⟨bd, rfl, hH1, hb1⟩
  obtain ⟨hD1, hu1⟩ := new_ds hT hH1 hb1
  have hWk := works_any w1 (hT.below hb1)
  clear hN hH1
  go_wp2_with fail
  refine hWk.mono ?_
  rintro e w2 ⟨rfl, hb2⟩
  have hD2 := hD1.below hb1.size hb2
  clear hWk
  obtain ⟨mm, hmm⟩ : ∃ mm : Nat, mm = M + 1 := ⟨_, rfl⟩
  have hmc : (1 : Int) + (M : Int) = (mm : Int) := by omega
  have hm1 : 1 ≤ mm := by omega
  have hm2 : mm ≤ 65536 := by omega
  clear hmm
  go_wp2_with (first | (go_at_call 15; refine (hAm _).mono ?_; rintro e w3 ⟨rfl, rfl⟩))
  clear hAm hD1 hb2 hb1 hMb
  clear hmc
  go_loopw [9] (fun iv wr => ∃ (k : Nat) (O : Nat → Prop) (S : St) (l : List Sg) (n m : Nat), k ≤ gs.length ∧ iv = .int .i64 k ∧ k ≤ 8 ∧ Ds w.heap.size w wr O bd S l n m ∧ Up S ∧ 1 ≤ n ∧ m ≤ 1 + 7 * k ∧ (l = [] → n = 1)) (fun iv _ => gs.length - (intOf iv).toNat)
  case atStart => exact ⟨0, _, _, [], 1, 1, by omega, rfl, by omega, hD2, hu1, by omega, by omega, fun _ => rfl⟩
  case round =>
    obtain ⟨k, O, S, l, n, m, hk, rfl, hk8, hS, hu, hn1, hm, hnil⟩ := hrel
    clear hD2 hu1
    have hz := hS.base.size
    by_cases hlt : k < gs.length
    · by_cases hlt2 : k < 8
      · obtain ⟨b, off, rfl, hcs⟩ := hG.cells k hlt
        have hok := hG.each gs[k] (List.getElem_mem hlt)
        generalize gs[k] = gv at *
        have i1 : (0 : Int) ≤ (k : Int) := by omega
        have i2 : (k : Int) < (gs.length : Int) := by omega
        have i3 : (k : Int) < 8 := by omega
        have hO := hS.open (most := mm) hz hu hn1 (by omega) (fun e => by have := hnil e; subst e; have h2 : n = m := hS.lg.chain; omega) hm1 hm2
        have hS0 := hide hS
        clear hS
        go_wp2_with fail
        refine hO.mono ?_
        rintro e w3 ⟨bw, O3, S3, rfl, hS3, hu3, -, -, -⟩
        have hnil3 : opened l = [] → n = 1 := fun e => hnil (opened_nil.1 e)
        have HS := hide hS3
        have q0 := (hcs w3 hS3.base).1
        have htl : gv.ts.length ≤ 9223372036854775807 := by have := hok.texts.room; have := hok.texts.max; omega
        clear hS3 hO
        go_upto_block 2 with fail
        go_cut [12, 13, 14] from 45 to 277 (fun _ _ _ wc => ∃ (O : Nat → Prop) (S : St) (l : List Sg) (m : Nat), Sn w.heap.size w wc O bd bw mm S l n m ∧ Up S ∧ m ≤ 8 + 7 * k ∧ (l = [] → n = 1))
        case first =>
          as_aux_lemma =>
            go_wp2_with fail
            go_loopw [12] (fun jv wi => ∃ (j : Nat) (O : Nat → Prop) (S : St) (l : List Sg) (m : Nat), j ≤ gv.ts.length ∧ jv = .int .i64 j ∧ j ≤ 7 ∧ Sn w.heap.size w wi O bd bw mm S l n m ∧ Up S ∧ m ≤ 1 + 7 * k + j ∧ (l = [] → n = 1)) (fun jv _ => gv.ts.length - (intOf jv).toNat)
            case atStart => exact ⟨0, O3, S3, _, m, by omega, rfl, by omega, HS.out, hu3, by omega, hnil3⟩
            case round =>
              as_aux_lemma =>
                clear HS hS0 hu hu3 hnil hnil3 hm
                obtain ⟨j, O, S, l, m, hj, rfl, hj10, hS, hu, hm, hnil⟩ := hrel
                have hz := hS.base.size
                have q0 := (hcs wr hS.base).1
                by_cases hin : j < gv.ts.length ∧ j < 7
                · obtain ⟨hjl, hj2⟩ := hin
                  obtain ⟨tb, toff, hla, htc⟩ := text_cell hok.texts j hjl
                  rw [hla] at q0
                  have t0 := htc wr hS.base
                  generalize gv.ts[j] = tx at *
                  have j1 : (0 : Int) ≤ (j : Int) := by omega
                  have j2 : (j : Int) < (gv.ts.length : Int) := by omega
                  have j3 : (j : Int) < 7 := by omega
                  have HS := hide hS
                  by_cases hlong : tx.size ≤ 500
                  · have hl' : ¬ (500 : Int) < (tx.size : Int) := by omega
                    by_cases hemp : tx.toList.isEmpty = true
                    · have hA := hS.sync hz
                      obtain ⟨hup, hs0⟩ := up_sync hu
                      rw [hs0] at hA
                      clear hS hla hs0
                      go_wp2_with fail
                      refine hA.mono ?_
                      rintro e w5 ⟨O5, l5, rfl, hS5, hl5, -⟩
                      have hnil5 : l5 = [] → n = 1 := fun e => by
                        rcases hl5 with ⟨_, h⟩ | ⟨_, h⟩
                        · rw [h] at e; exact hnil (List.map_eq_nil_iff.1 e)
                        · rw [h] at e; exact hnil e
                      clear hA hl5
                      go_wp2
                      go_roundw
                      case rel => exact ⟨j + 1, O5, _, l5, m, by omega, by go_num, by omega, hS5, hup, by omega, hnil5⟩
                      case measure => simp [intOf]; omega
                    · have hemb : tx.toList.isEmpty = false := by simpa using hemp
                      have hA := hS.append hz hm1 (by omega) ⟨1, tx⟩ (rec_may 1 (by omega) tx hlong)
                      clear hS hla
                      go_wp2_with fail
                      refine hA.mono ?_
                      rintro e w5 ⟨O5, S5, l5, m5, c5, hS5, hG5, he5, he5', hst5⟩
                      have hup := hG5.up hu
                      by_cases hc : c5 = 0
                      · rw [he5 hc]
                        have hm5 : m5 = m + 1 := by rw [hG5.nx, if_pos hc]
                        have hne5 := grew_nil hG5 hc
                        clear hA he5 he5' hG5 hst5
                        go_wp2
                        go_roundw
                        case rel => exact ⟨j + 1, O5, S5, l5, m5, by omega, by go_num, by omega, hS5, hup.1, by omega, fun e => absurd e hne5⟩
                        case measure => simp [intOf]; omega
                      · rw [he5' hc]
                        have hc22 : c5 = 22 := by rcases hG5.code with h | h | h; exact absurd h hc; exact absurd h hup.2; exact h
                        subst hc22
                        have hbe := hS5.base
                        clear hA he5 he5' hG5 hst5
                        go_wp2
                        go_ret
                        exact ⟨rfl, hbe⟩
                  · have hl' : (500 : Int) < (tx.size : Int) := by omega
                    clear hS
                    go_wp2
                    go_roundw
                    case rel => exact ⟨j + 1, O, S, l, m, by omega, by go_num, by omega, HS.out, hu, by omega, hnil⟩
                    case measure => simp [intOf]; omega
                · have HS := hide hS
                  clear hS
                  by_cases hjl : j < gv.ts.length
                  · have j1 : (j : Int) < (gv.ts.length : Int) := by omega
                    have j3 : ¬ (j : Int) < 7 := by omega
                    go_wp2
                    go_meet
                    case rel => exact ⟨O, S, l, m, HS.out, hu, by omega, hnil⟩
                  · have j1 : ¬ (j : Int) < (gv.ts.length : Int) := by omega
                    go_wp2
                    go_meet
                    case rel => exact ⟨O, S, l, m, HS.out, hu, by omega, hnil⟩
        case rest =>
          as_aux_lemma =>
            clear HS hS0 hu hu3 hnil hnil3 hm
            obtain ⟨O, S, l, m, hS, hu, hm, hnil⟩ := hcut
            have hz := hS.base.size
            have HS := hide hS
            clear hS q0
            go_upto_if 122 with fail
            go_cut [15, 16, 17] from 45 to 277 (fun _ _ _ wc => ∃ (O : Nat → Prop) (S : St) (l : List Sg) (n : Nat), Sn w.heap.size w wc O bd bw mm S l n m ∧ Up S ∧ 1 ≤ n ∧ (l = [] → n = 1))
            case first =>
              as_aux_lemma =>
                by_cases hfi : k < fs.length
                · have f1 : (k : Int) < (fs.length : Int) := by omega
                  obtain ⟨fb, fo, rfl, hfc⟩ := int_cell hF k hfi
                  have hfr := hF.each fs[k] (List.getElem_mem hfi)
                  have f2 := hfc wc HS.out.base
                  generalize fs[k] = x at *
                  have hle := HS.out.lg.le
                  have hFi : ∀ W, Below wc.heap.size wc W → Calls Tryz.prog 22 #[.pointer (some ⟨bw, 0, none⟩)] W fun e w' => e = .returned (.int .i64 n) ∧ w' = W := fun W hb => ((HS.out.below hz hb).first).mono fun e w' h => ⟨h.1, h.2.symm⟩
                  have hNx : ∀ W, Below wc.heap.size wc W → Calls Tryz.prog 16 #[.pointer (some ⟨bw, 0, none⟩)] W fun e w' => e = .returned (.int .i64 m) ∧ w' = W := fun W hb => ((HS.out.below hz hb).next).mono fun e w' h => ⟨h.1, h.2.symm⟩
                  have hAf : ∀ W, Calls Tryz.prog 15 #[.int .i64 x, .int .i64 ((m : Int) - (n : Int) + 1)] W fun e w' => e = .returned (.int .i64 (x % ((m : Int) - (n : Int) + 1))) ∧ w' = W := fun W => (Gk.among_any x ((m : Int) - (n : Int) + 1) W (by omega) (by omega) hfr.1 hfr.2).mono fun e w' h => ⟨h.1, h.2.symm⟩
                  obtain ⟨seq, hseq⟩ : ∃ seq : Nat, (n : Int) + x % ((m : Int) - (n : Int) + 1) = (seq : Int) := ⟨((n : Int) + x % ((m : Int) - (n : Int) + 1)).toNat, by have := Int.emod_nonneg x (show (m : Int) - (n : Int) + 1 ≠ 0 by omega); omega⟩
                  have hsq : n ≤ seq ∧ seq ≤ m := by
                    have h1 := Int.emod_nonneg x (show (m : Int) - (n : Int) + 1 ≠ 0 by omega)
                    have h2 := Int.emod_lt_of_pos x (show 0 < (m : Int) - (n : Int) + 1 by omega)
                    omega
                  clear hfc
                  have hFg := fun W (hb : Below wc.heap.size wc W) => (HS.out.below hz hb).forget (Nat.le_trans hz hb.size) hu (by omega) seq hsq.1 hsq.2
                  have hfn := forg_first HS.out.lg seq
                  go_wp2_with fail
                  go_quiet (first | (go_at_call 22; exact Calls.quiet_of_same (hFi _ (below_draws _ _ _))) | (go_at_call 16; exact Calls.quiet_of_same (hNx _ (below_draws _ _ _))) | (go_at_call 15; exact Calls.quiet_of_same (hAf _)))
                  go_wp2_with fail
                  refine (hFg _ (below_draws _ _ _)).mono ?_
                  rintro e w5 ⟨O5, S5, rfl, hS5, hu5, -⟩
                  go_wp2
                  go_meet
                  case rel => exact ⟨O5, S5, _, _, hS5, hu5, by omega, fun e => by
                    have h0 := forg_nil.1 e
                    have h1 := hnil h0
                    subst h0
                    have h2 : n = m := HS.out.lg.chain
                    show m = 1
                    omega⟩
                · have f1 : ¬ (k : Int) < (fs.length : Int) := by omega
                  go_wp2
                  go_meet
                  case rel => exact ⟨O, S, l, n, HS.out, hu, hn1, hnil⟩
            case rest =>
              as_aux_lemma =>
                obtain ⟨O4, S4, l4, n4, hS4, hu4, hn4, hnil4⟩ := hcut
                have hz4 := hS4.base.size
                have q2 := (hcs wc hS4.base).2.2
                have hFi := hS4.first
                have HS4 := hide hS4
                have hle4 := hS4.lg.le
                have hdmax : gv.ds.length ≤ 9223372036854775807 := by have := hok.draws.room; have := hok.draws.max; omega
                clear hS4 HS hu hnil hn1
                by_cases hdl : gv.ds.length ≤ 4096
                · have d1 : ¬ (4096 : Int) < (gv.ds.length : Int) := by omega
                  have hC := HS4.out.crash rfl hok.draws hdl
                  go_wp2_with fail
                  refine hFi.mono ?_
                  rintro e w5 ⟨rfl, rfl⟩
                  go_wp2_with fail
                  refine hC.mono ?_
                  rintro e w6 ⟨O6, S6, l6, m6, rfl, hD6, hu6, hs6, hm6, hn6, -⟩
                  have hTw := hD6.twice rfl hT hu6 hn4 (by omega) (fun e => by have h1 := hnil4 (hn6.1 e); subst e; have h2 : n4 = m6 := hD6.lg.chain; omega) hm1 hm2 hs6
                  clear hC hFi q2
                  go_wp2_with fail
                  refine hTw.mono ?_
                  rintro e w7 ⟨ba, rfl, hTw2⟩
                  clear hTw
                  go_wp2_with fail
                  refine hTw2.mono ?_
                  rintro e w8 ⟨bb, Oa, Ob, S8, rfl, hSa, hSb, hu8⟩
                  have hle8 := hSa.lg.le
                  have g1 : ¬ (m6 : Int) < (n4 : Int) := by omega
                  have hz8 : w.heap.size ≤ w8.heap.size := hSa.base.size
                  have HSa := hide hSa
                  have HSb := hide hSb
                  have a1 := hSa.first
                  have a2 := hSa.next
                  have b1 := hSb.first
                  have b2 := hSb.next
                  have hlen6 : (opened l6).length ≤ 64 := hSa.on.len hSa.lg hSa.ok
                  have hRa := hSa.read (fr := n4) (q := 4096) (by omega) (by omega) (by omega) (by omega)
                  obtain ⟨rs, hrs⟩ : ∃ rs, rs = (gat n4 n4 (allRecs (opened l6))).take 4096 := ⟨_, rfl⟩
                  have hrl : rs.length ≤ 4096 := by rw [hrs]; exact List.length_take_le _ _
                  obtain ⟨fl, hfl⟩ : ∃ fl, fl = (opened l6).map (·.first) := ⟨_, rfl⟩
                  have hsl : fl.length ≤ 64 := by rw [hfl, List.length_map]; exact hlen6
                  rw [← hrs] at hRa
                  have HRS := hide hrs
                  have HFL := hide hfl
                  clear hrs hfl
                  clear hSa hSb hTw2 HS4 hs6 hD6
                  go_wp2_with fail
                  refine a1.mono ?_
                  rintro e w9 ⟨rfl, rfl⟩
                  go_wp2_with fail
                  refine a2.mono ?_
                  rintro e w9 ⟨rfl, rfl⟩
                  go_wp2_with fail
                  refine b1.mono ?_
                  rintro e w9 ⟨rfl, rfl⟩
                  go_wp2_with fail
                  refine a2.mono ?_
                  rintro e w9 ⟨rfl, rfl⟩
                  go_wp2_with fail
                  refine b2.mono ?_
                  rintro e w9 ⟨rfl, rfl⟩
                  go_wp2_with fail
                  refine hRa.mono ?_
                  rintro e w9 ⟨u9, rfl, ho9, hb9⟩
                  obtain ⟨xa, xc, rfl, hlx⟩ := own_recs ho9
                  have hRb := (HSb.out.below hz8 hb9).read (fr := n4) (q := 4096) (by omega) (by omega) (by omega) (by omega)
                  rw [← HRS.out] at hRb
                  clear hRa ho9 a1 a2 b1 b2
                  go_wp2_with fail
                  refine hRb.mono ?_
                  rintro e w10 ⟨u10, rfl, ho10, hb10⟩
                  obtain ⟨ya, yc, rfl, hly⟩ := own_recs ho10
                  have hb8 : Below w8.heap.size w8 w10 := hb9.trans (hb10.mono hb9.size)
                  have hSga := (HSa.out.below hz8 hb8).segs
                  rw [← HFL.out] at hSga
                  clear hRb ho10
                  go_wp2_with fail
                  refine hSga.mono ?_
                  rintro e w11 ⟨u11, rfl, ho11, hb11⟩
                  obtain ⟨sa, sc, rfl, hls⟩ := own_nums ho11
                  have hb8' : Below w8.heap.size w8 w11 := hb8.trans (hb11.mono hb8.size)
                  have hSgb := (HSb.out.below hz8 hb8').segs
                  rw [← HFL.out] at hSgb
                  clear hSga ho11
                  go_wp2_with fail
                  refine hSgb.mono ?_
                  rintro e w12 ⟨u12, rfl, ho12, hb12⟩
                  obtain ⟨ta, tc, rfl, hlt12⟩ := own_nums ho12
                  have hbe8 : Below w8.heap.size w8 w12 := hb8'.trans (hb12.mono hb8'.size)
                  have HD := hide (HSb.out.below hz8 hbe8).disk
                  have hbC : Below w11.heap.size w11 w12 := hb12
                  have hbB : Below w10.heap.size w10 w12 := hb11.trans (hb12.mono hb11.size)
                  have hbA : Below w9.heap.size w9 w12 := hb10.trans (hbB.mono hb10.size)
                  have hX := hlx.below hbA
                  have hY := hly.below hbB
                  have hP := hls.below hbC
                  have hQ := hlt12
                  have HX := hide hX
                  have HY := hide hY
                  have HP := hide hP
                  have HQ := hide hQ
                  have hz12 : w.heap.size ≤ w12.heap.size := HD.out.base.size
                  have hnil6 : opened l6 = [] → n4 = 1 := fun e => hnil4 (hn6.1 (opened_nil.1 e))
                  clear HRS HFL hX hY hP hQ hlx hly hls hlt12 hSgb ho12 hbA hbB hbC hbe8 hb8' hb8 hb9 hb10 hb11 hb12 HSa HSb hn6
                  go_wp2
                  go_loopw [250] (fun jv wi => ∃ i : Nat, i ≤ rs.length ∧ jv = .int .i64 i ∧ Below w12.heap.size w12 wi) (fun jv _ => rs.length - (intOf jv).toNat)
                  case atStart => exact ⟨0, by omega, rfl, Below.refl _ _⟩
                  case round =>
                    as_aux_lemma =>
                      obtain ⟨i, hi, rfl, hb⟩ := hrel
                      by_cases hil : i < rs.length
                      · have l1 : (i : Int) < (rs.length : Int) := by omega
                        obtain ⟨b1, o1, rfl, hb1, hc1⟩ := (HX.out.below hb).at recE_len i hil
                        obtain ⟨b2, o2, rfl, hb2, hc2⟩ := (HY.out.below hb).at recE_len i hil
                        have c0 := hc1 0 _ rfl
                        have c1 := hc1 1 _ rfl
                        have c2 := hc1 2 _ rfl
                        have e0 := hc2 0 _ rfl
                        have e1 := hc2 1 _ rfl
                        have e2 := hc2 2 _ rfl
                        generalize rs[i] = x at c0 c1 c2 e0 e1 e2
                        rw [Nat.add_zero] at c0 e0
                        clear hc1 hc2
                        go_wp2_with fail
                        refine wp_region_quiet_lit (by kernel_rfl) (by kernel_rfl) ?_
                        refine QW.out ?_
                        repeat (refine QW.step (fun K hK => ?_); go_simp; refine hK _ ?_; clear hK K)
                        refine QW.nil ?_
                        rintro w7 ⟨nq, rfl⟩
                        have hb7 := hb.trans ((below_draws wr.heap.size wr nq).mono hb.size)
                        clear c0 c1 c2 e0 e1 e2
                        generalize wr.drewN nq = w8 at hb7 ⊢
                        go_wp2
                        go_roundw
                        case rel => exact ⟨i + 1, by omega, by go_num, hb7⟩
                        case measure => simp [intOf]; omega
                      · have l1 : ¬ (i : Int) < (rs.length : Int) := by omega
                        go_wp2
                        go_loopw [265] (fun jv wi => ∃ i : Nat, i ≤ fl.length ∧ jv = .int .i64 i ∧ Below w12.heap.size w12 wi) (fun jv _ => fl.length - (intOf jv).toNat)
                        case atStart => exact ⟨0, by omega, rfl, hb⟩
                        case round =>
                          as_aux_lemma =>
                            clear hb
                            obtain ⟨i, hi, rfl, hb⟩ := hrel
                            by_cases hil : i < fl.length
                            · have l1 : (i : Int) < (fl.length : Int) := by omega
                              obtain ⟨b1, o1, rfl, hb1, hc1⟩ := (HP.out.below hb).at nE_len i hil
                              obtain ⟨b2, o2, rfl, hb2, hc2⟩ := (HQ.out.below hb).at nE_len i hil
                              have c0 := hc1 0 _ rfl
                              have e0 := hc2 0 _ rfl
                              generalize fl[i] = x at c0 e0
                              rw [Nat.mul_one, Nat.add_zero] at c0 e0
                              clear hc1 hc2
                              go_wp2_with fail
                              refine wp_region_quiet_lit (by kernel_rfl) (by kernel_rfl) ?_
                              refine QW.out ?_
                              repeat (refine QW.step (fun K hK => ?_); go_simp; refine hK _ ?_; clear hK K)
                              refine QW.nil ?_
                              rintro w7 ⟨nq, rfl⟩
                              have hb7 := hb.trans ((below_draws wr.heap.size wr nq).mono hb.size)
                              clear c0 e0
                              generalize wr.drewN nq = w8 at hb7 ⊢
                              go_wp2
                              go_roundw
                              case rel => exact ⟨i + 1, by omega, by go_num, hb7⟩
                              case measure => simp [intOf]; omega
                            · have l1 : ¬ (i : Int) < (fl.length : Int) := by omega
                              go_wp2
                              go_roundw
                              case rel => exact ⟨k + 1, Ob, S8, opened l6, n4, m6, by omega, by go_num, by omega, HD.out.below hz12 hb, hu8, hn4, by omega, hnil6⟩
                              case measure => simp [intOf]; omega
                · have d1 : (4096 : Int) < (gv.ds.length : Int) := by omega
                  have hbe := HS4.out.base
                  go_wp2_with (first | (go_at_call 22; refine hFi.mono ?_; rintro e w9 ⟨rfl, rfl⟩))
                  go_ret
                  exact ⟨rfl, hbe⟩
      · have hbe := hS.base
        have i1 : (k : Int) < (gs.length : Int) := by omega
        have i2 : ¬ (k : Int) < 8 := by omega
        go_wp2
        go_ret
        exact ⟨rfl, hbe⟩
    · have hbe := hS.base
      have i2 : ¬ (k : Int) < (gs.length : Int) := by omega
      go_wp2
      go_ret
      exact ⟨rfl, hbe⟩

end Go.Proofs.YtoaebgafecljnaaGreatDoor.Wl
