/- WalSegments: for all arguments that can be read the law returns true, and all read as they did. -/
import Derived.Test.YtoaebgafecljnaaGreatDoorWlWorks
import Derived.Test.YtoaebgafecljnaaGreatDoorWlArgs
import Derived.Test.YtoaebgafecljnaaGreatDoorGAmong
namespace Go.Proofs.YtoaebgafecljnaaGreatDoor.Wl
open Go.RowKit Go.Joins
open Go.Proofs.YtoaebgafecljnaaGreatDoor.Dk (Bs Fil Fls St St.Ok Held Only)

/-- a stretch's cells, in worlds that come behind -/
theorem GosAt.cells {w : World} {a : Option Addr} {cap : Nat} {gs : List GoV} (h : GosAt w a cap gs) (k : Nat) (hk : k < gs.length) : ∃ b off, a = some ⟨b, off, none⟩ ∧ ∀ W, Below w.heap.size w W → W.cell? ⟨b, off + k * 3, none⟩ = some (.slice gs[k].la gs[k].ts.length gs[k].lc) ∧ W.cell? ⟨b, off + k * 3 + 1, none⟩ = some (.int .i64 gs[k].fuse) ∧ W.cell? ⟨b, off + k * 3 + 2, none⟩ = some (.slice gs[k].da gs[k].ds.length gs[k].dc) := by
  obtain ⟨b, off, rfl, hlt, hc⟩ := h.lies.at goE_len k hk
  refine ⟨b, off, rfl, fun W hb => ?_⟩
  obtain ⟨b', off', e, _, hc'⟩ := (h.lies.below hb).at goE_len k hk
  cases e
  exact ⟨hc' 0 _ rfl, hc' 1 _ rfl, hc' 2 _ rfl⟩
/-- a text's cell, in worlds that come behind -/
theorem text_cell {w : World} {a : Option Addr} {cap : Nat} {ts : List ByteArray} (h : Gk.TextsAt w a cap ts) (k : Nat) (hk : k < ts.length) : ∃ b off, a = some ⟨b, off, none⟩ ∧ ∀ W, Below w.heap.size w W → W.cell? ⟨b, off + k, none⟩ = some (.string ts[k]) := by
  obtain ⟨b, off, rfl, hlt, hc⟩ := h.lies.at Gk.tenc_len k hk
  refine ⟨b, off, rfl, fun W hb => ?_⟩
  obtain ⟨b', off', e, _, hc'⟩ := (h.lies.below hb).at Gk.tenc_len k hk
  cases e
  have := hc' 0 _ rfl
  rwa [Nat.mul_one, Nat.add_zero] at this
theorem rec_may (b : Nat) (hb : b < 16) (t : ByteArray) (h : t.size ≤ 500) : (Rec.mk b t).may := ⟨hb, by show t.size ≤ _; omega⟩

set_option maxRecDepth 100000 in
set_option maxHeartbeats 12800000 in
theorem segs_law (mo : Int) (a : Option Addr) (cap : Nat) (gs : List GoV) (w : World) (hmo : (Lit.int .i64 mo).wf = true) (hG : GosAt w a cap gs) (hT : Tab w) :
    Calls Tryz.prog 6 #[.int .i64 mo, .slice a gs.length cap] w fun e w' => e = .returned (.bool true) ∧ Below w.heap.size w w' := by
  have hN := Dk.new_ok 262144 w (by omega)
  obtain ⟨m0, m1⟩ : -9223372036854775808 ≤ mo ∧ mo ≤ 9223372036854775807 := bounds_i64 hmo
  have hAm := fun W => Gk.among_any mo 100 W (by omega) (by omega) m0 m1
  obtain ⟨M, hM⟩ : ∃ M : Nat, (M : Int) = mo % 100 := ⟨(mo % 100).toNat, by omega⟩
  have hMb : M < 100 := by omega
  simp only [← hM] at hAm
  clear hM hmo m0 m1
  have hgl : gs.length ≤ 9223372036854775807 := by have := hG.room; have := hG.max; omega
  go_enter Tryz.func6, Tryz.ntmps6
  go_wp2_with fail
  refine hN.mono ?_
  rintro e w1 ⟨bd, rfl, hH1, hb1⟩
  obtain ⟨hD1, hu1⟩ := new_ds hT hH1 hb1
  have hWk := works_any w1 (hT.below hb1)
  clear hN hH1
  go_wp2_with fail
  refine hWk.mono ?_
  rintro e w2 ⟨rfl, hb2⟩
  have hD2 := hD1.below hb1.size hb2
  have hz2 := hD2.base.size
  have hO0 := fun (mm : Nat) (h1 : 1 ≤ mm) (h2 : mm ≤ 65536) => hD2.open (most := mm) hz2 hu1 (by omega) (by omega) (fun _ => rfl) h1 h2
  clear hWk
  obtain ⟨mm, hmm⟩ : ∃ mm : Nat, mm = M + 1 := ⟨_, rfl⟩
  have hmc : (1 : Int) + (M : Int) = (mm : Int) := by omega
  have hO := hO0 mm (by omega) (by omega)
  have hm1 : 1 ≤ mm := by omega
  have hm2 : mm ≤ 65536 := by omega
  clear hmm
  go_wp2_with (first | (go_at_call 15; refine (hAm _).mono ?_; rintro e w3 ⟨rfl, rfl⟩))
  refine hO.mono ?_
  rintro e w3 ⟨bw, O3, S3, rfl, hS3, hu3, -, -, hst3⟩
  clear hO hO0 hAm hst3 hD2 hD1 hu1 hb2 hb1 hz2 hmc hMb
  go_wp2
  go_loopw [7, 8] (fun p i wr => ∃ (k bw : Nat) (O : Nat → Prop) (S : St) (l : List Sg) (m : Nat), k ≤ gs.length ∧ i = .int .i64 k ∧ p = .pointer (some ⟨bw, 0, none⟩) ∧ k ≤ 10 ∧ Sn w.heap.size w wr O bd bw mm S l 1 m ∧ Up S ∧ m ≤ 1 + 10 * k ∧ (∀ s ∈ l, s.recs ≠ [])) (fun _ i _ => gs.length - (intOf i).toNat)
  case atStart => exact ⟨0, bw, O3, S3, _, 1, by omega, rfl, rfl, by omega, hS3, hu3, by omega, by simp [opened]⟩
  case round =>
    obtain ⟨k, bw, O, S, l, m, hk, rfl, rfl, hk10, hS, hu, hm, hne⟩ := hrel
    by_cases hlt : k < gs.length
    · by_cases hlt2 : k < 10
      · obtain ⟨b, off, rfl, hcs⟩ := hG.cells k hlt
        have hok := hG.each gs[k] (List.getElem_mem hlt)
        generalize gs[k] = gv at *
        have HS := hide hS
        have hz := hS.base.size
        have q0 := (hcs wr hS.base).1
        have i1 : (0 : Int) ≤ (k : Int) := by omega
        have i2 : (k : Int) < (gs.length : Int) := by omega
        have i3 : (k : Int) < 10 := by omega
        have htl : gv.ts.length ≤ 9223372036854775807 := by have := hok.texts.room; have := hok.texts.max; omega
        clear hS
        go_wp2
        go_loopw [9] (fun jv wi => ∃ (j : Nat) (O : Nat → Prop) (S : St) (l : List Sg) (m : Nat), j ≤ gv.ts.length ∧ jv = .int .i64 j ∧ j ≤ 10 ∧ Sn w.heap.size w wi O bd bw mm S l 1 m ∧ Up S ∧ m ≤ 1 + 10 * k + j ∧ (∀ s ∈ l, s.recs ≠ [])) (fun jv _ => gv.ts.length - (intOf jv).toNat)
        case atStart => exact ⟨0, O, S, l, m, by omega, rfl, by omega, HS.out, hu, by omega, hne⟩
        case round =>
          obtain ⟨j, O, S, l, m, hj, rfl, hj10, hS, hu, hm, hne⟩ := hrel
          have hz := hS.base.size
          have q0 := (hcs wr hS.base).1
          by_cases hin : j < gv.ts.length ∧ j < 10
          · obtain ⟨hjl, hj2⟩ := hin
            · obtain ⟨tb, toff, hla, htc⟩ := text_cell hok.texts j hjl
              rw [hla] at q0
              have t0 := htc wr hS.base
              have hts := hok.texts.each gv.ts[j] (List.getElem_mem hjl)
              generalize gv.ts[j] = tx at *
              have j1 : (0 : Int) ≤ (j : Int) := by omega
              have j2 : (j : Int) < (gv.ts.length : Int) := by omega
              have j3 : (j : Int) < 10 := by omega
              have HS := hide hS
              by_cases hlong : tx.size ≤ 500
              · have hl' : ¬ (500 : Int) < (tx.size : Int) := by omega
                have hA := hS.append hz hm1 (by omega) ⟨0, tx⟩ (rec_may 0 (by omega) tx hlong)
                clear hS hla
                go_wp2_with fail
                refine hA.mono ?_
                rintro e w5 ⟨O5, S5, l5, m5, c5, hS5, hG5, he5, he5', hst5⟩
                have hup := hG5.up hu
                by_cases hc : c5 = 0
                · rw [he5 hc]
                  have hm5 : m5 = m + 1 := by rw [hG5.nx, if_pos hc]
                  have hne5 := hG5.ne hne
                  clear hA he5 he5' hG5 hst5
                  go_wp2
                  go_roundw
                  case rel => exact ⟨j + 1, O5, S5, l5, m5, by omega, by go_num, by omega, hS5, hup.1, by omega, hne5⟩
                  case measure => simp [intOf]; omega
                · rw [he5' hc]
                  have hc22 : c5 = 22 := by rcases hG5.code with h | h | h; exact absurd h hc; exact absurd h hup.2; exact h
                  subst hc22
                  have hbe := hS5.base
                  clear hA he5 he5' hG5 hst5
                  go_wp2
                  go_ret
                  exact ⟨rfl, hbe⟩
              · have hl' : (500 : Int) < (tx.size : Int) := by omega
                clear hS
                go_wp2
                go_roundw
                case rel => exact ⟨j + 1, O, S, l, m, by omega, by go_num, by omega, HS.out, hu, by omega, hne⟩
                case measure => simp [intOf]; omega
          · have HS := hide hS
            have hSg := hS.segs
            have hlg := hS.lg
            have hFlen : (l.map (·.first)).length ≤ 64 := by rw [List.length_map]; exact hS.on.len hlg hS.ok
            have hml : m ≤ 1048576 := by omega
            clear hS
            by_cases hjl : j < gv.ts.length
            case' pos =>
              have j1 : (j : Int) < (gv.ts.length : Int) := by omega
              have j3 : ¬ (j : Int) < 10 := by omega
              go_wp2_with fail
            case' neg =>
              have j1 : ¬ (j : Int) < (gv.ts.length : Int) := by omega
              go_wp2_with fail
            all_goals
              refine hSg.mono ?_
              rintro e w6 ⟨u6, rfl, ho6, hb6⟩
              have hS6 := HS.out.below hz hb6
              have hz6 := hS6.base.size
              obtain ⟨a6, c6, rfl, hl6⟩ := own_nums ho6
              clear hSg q0 ho6
              by_cases hl0 : l = []
              · subst hl0
                have hm1' : m = 1 := (show 1 = m from hlg.chain).symm
                subst hm1'
                simp only [List.map_nil, List.length_nil]
                go_wp2_with (first | (go_at_call 16; refine hS6.next.mono ?_; rintro e w7 ⟨rfl, rfl⟩) | (go_at_call 22; refine hS6.first.mono ?_; rintro e w7 ⟨rfl, rfl⟩))
                go_roundw
                case rel => exact ⟨k + 1, bw, O, S, [], 1, by omega, by go_num, rfl, by omega, hS6, hu, by omega, by simp⟩
                case measure => simp [intOf]; omega
              · obtain ⟨FL, hFL⟩ : ∃ FL, FL = (l.map (·.first)).length := ⟨_, rfl⟩
                have hpos : 0 < FL := by rw [hFL, List.length_map]; exact List.length_pos_iff.2 hl0
                have hlb := hlg.rise
                have hcell : ∀ i (h : i < l.length), ∃ b o, a6 = some ⟨b, o, none⟩ ∧ w6.cell? ⟨b, o + i, none⟩ = some (.int .i64 l[i].first) := fun i h => by
                  obtain ⟨b, o, e, _, hc⟩ := hl6.at nE_len i (by rw [List.length_map]; exact h)
                  have h2 := hc 0 _ rfl
                  rw [Nat.mul_one, Nat.add_zero] at h2
                  exact ⟨b, o, e, by rw [h2]; simp⟩
                have hltm : ∀ i (h : i < l.length), l[i].first < m := fun i h => by
                  have h1 : l[i].first + l[i].recs.length ≤ m := hlg.chain.last_le l[i] (List.getElem_mem h)
                  have := List.length_pos_iff.2 (hne l[i] (List.getElem_mem h))
                  omega
                have hFLl : FL = l.length := by rw [hFL, List.length_map]
                rw [← hFL] at hFlen
                have HS6 := hide hS6
                have hn6 := hS6.next
                have hf6 := hS6.first
                rw [← hFL]
                have f0 : ((FL : Int) == 0) = false := by rw [beq_eq_false_iff_ne]; omega
                have HFL := hide hFLl
                clear hFL hFLl hl6 hS6
                go_wp2
                go_loopw [109] (fun jv wi => ∃ j : Nat, j ≤ FL ∧ jv = .int .i64 j ∧ wi = w6) (fun jv _ => FL - (intOf jv).toNat)
                case atStart => exact ⟨0, by omega, rfl, rfl⟩
                case round =>
                  obtain ⟨i, hi, rfl, rfl⟩ := hrel
                  by_cases hil : i < FL
                  · have hil' : i < l.length := by have := HFL.out; omega
                    obtain ⟨b6, o6, rfl, hc6⟩ := hcell i hil'
                    have hlt6 := hltm i hil'
                    have l1 : (0 : Int) ≤ (i : Int) := by omega
                    have l2 : (i : Int) < (FL : Int) := by omega
                    have l3 : ¬ (m : Int) ≤ (l[i].first : Int) := by omega
                    by_cases hi0 : i = 0
                    · subst hi0
                      have hfe : l[0].first = 1 := hlg.chain.step.1 hil'
                      rw [hfe] at hc6 l3
                      simp only [Nat.add_zero] at hc6
                      go_wp2_with (first | (go_at_call 16; refine hn6.mono ?_; rintro e w7 ⟨rfl, rfl⟩) | (go_at_call 22; refine hf6.mono ?_; rintro e w7 ⟨rfl, rfl⟩))
                      go_roundw
                      case rel => exact ⟨1, by omega, by go_num, by trivial⟩
                      case measure => simp [intOf]; omega
                    · obtain ⟨b7, o7, e7, hc7⟩ := hcell (i - 1) (by omega)
                      cases e7
                      have hp := List.pairwise_iff_getElem.1 hlb.1 (i - 1) i (by omega) hil' (by omega)
                      obtain ⟨i', hi'⟩ : ∃ i', i' = i - 1 := ⟨_, rfl⟩
                      simp only [← hi'] at hc7 hp
                      have l4 : (i : Int) - 1 = (i' : Int) := by omega
                      have l5 : ((i : Int) == 0) = false := by rw [beq_eq_false_iff_ne]; omega
                      have l6 : ¬ (l[i].first : Int) ≤ ((l[i']'(by omega)).first : Int) := by omega
                      have l7 : 0 < i := by omega
                      have l8 : (i' : Int) < (FL : Int) := by omega
                      have l9 : (0 : Int) ≤ (i' : Int) := by omega
                      generalize l[i].first = y1 at *
                      generalize (l[i']'(by omega)).first = y2 at *
                      clear hi'
                      go_wp2_with (first | (go_at_call 16; refine hn6.mono ?_; rintro e w7 ⟨rfl, rfl⟩) | (go_at_call 22; refine hf6.mono ?_; rintro e w7 ⟨rfl, rfl⟩))
                      go_roundw
                      case rel => exact ⟨i + 1, by omega, by go_num, by trivial⟩
                      case measure => simp [intOf]; omega
                  · have l2 : ¬ (i : Int) < (FL : Int) := by omega
                    obtain ⟨Od, v6, hDs, hWH, hnb, hnr, -⟩ := HS6.out.split
                    have hOp := hDs.open (most := mm) hz6 hu (by omega) hml (fun h => absurd h hl0) hm1 hm2
                    clear hcell hltm hn6 hf6
                    go_wp2_with fail
                    refine hOp.mono ?_
                    rintro e w7 ⟨bx, O7, S7, rfl, hS7, hu7, -, -, hst7⟩
                    have hW7 := hst7.log hWH hnb hnr
                    have hfw : Calls Tryz.prog 22 #[.pointer (some ⟨bw, 0, none⟩)] w7 fun e w' => e = .returned (.int .i64 ((1 : Nat) : Int)) ∧ w7 = w' := by
                      have := First_any w7 hW7
                      rwa [show fst (ms l) m = 1 from hlg.fst] at this
                    have hnw := Next_any w7 hW7
                    have hz7 := hS7.base.size
                    have hsg7 := hS7.segs
                    have hone := opened_ne hne
                    rw [hone.1] at hsg7
                    have hlen7 : (l.map (·.first)).length = FL := by rw [List.length_map]; exact HFL.out.symm
                    rw [hlen7] at hsg7
                    clear hOp hst7 hWH
                    go_wp2_with fail
                    refine hS7.first.mono ?_
                    rintro e w8 ⟨rfl, rfl⟩
                    go_wp2_with fail
                    refine hfw.mono ?_
                    rintro e w8 ⟨rfl, rfl⟩
                    go_wp2_with fail
                    refine hS7.next.mono ?_
                    rintro e w8 ⟨rfl, rfl⟩
                    go_wp2_with fail
                    refine hnw.mono ?_
                    rintro e w8 ⟨rfl, rfl⟩
                    go_wp2_with fail
                    refine hsg7.mono ?_
                    rintro e w8 ⟨u8, rfl, ho8, hb8⟩
                    obtain ⟨a8, c8, rfl⟩ := Dk.own_slice ho8
                    have hS8 := hS7.below hz7 hb8
                    clear hfw hnw hsg7
                    go_wp2
                    go_roundw
                    case rel => exact ⟨k + 1, bx, O7, S7, opened l, m, by omega, by go_num, rfl, by omega, hS8, hu7, by omega, hone.2⟩
                    case measure => simp [intOf]; omega
      · have hbe := hS.base
        have i2 : (k : Int) < (gs.length : Int) := by omega
        have i3 : ¬ (k : Int) < 10 := by omega
        go_wp2
        go_ret
        exact ⟨rfl, hbe⟩
    · have hbe := hS.base
      have i2 : ¬ (k : Int) < (gs.length : Int) := by omega
      go_wp2
      go_ret
      exact ⟨rfl, hbe⟩

end Go.Proofs.YtoaebgafecljnaaGreatDoor.Wl
