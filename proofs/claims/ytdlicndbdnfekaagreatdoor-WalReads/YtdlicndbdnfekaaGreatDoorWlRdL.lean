/- WalReads: for all arguments that can be read the law returns true, and all read as they did. -/
import Derived.Test.YtdlicndbdnfekaaGreatDoorWlRdP
import Derived.Test.YtdlicndbdnfekaaGreatDoorWlGos
import Derived.Test.YtdlicndbdnfekaaGreatDoorGAmong
import Derived.Deep.CutRange
import Derived.Deep.CutBlock
namespace Go.Proofs.YtdlicndbdnfekaaGreatDoor.Wl
open Go.RowKit Go.Joins
open Go.Proofs.YtdlicndbdnfekaaGreatDoor.Dk (Bs Fil Fls St St.Ok Held Only)

/-- a log, and beside it a row of all that was appended -/
structure RL (w0 w : World) (O : Nat → Prop) (bd bw most : Nat) (S : St) (l : List Sg) (n m : Nat) (v : Value) (R : List Rec) : Prop where
  sn : Sn w0.heap.size w0 w O bd bw most S l n m
  row : w.ownsRow w0.heap.size RecT 3 v (num 1 R).length (Gk.rc recE (num 1 R))
  apart : ∀ g, v.ownBlock = some g → ¬ O g
  tail : Tail R l n m
  up : Up S
  ne : ∀ s ∈ l, s.recs ≠ []
  nil : l = [] ↔ R = []
  vnil : R = [] → v = .slice none 0 0
theorem RL.slice {w0 w : World} {O : Nat → Prop} {bd bw most n m : Nat} {S : St} {l : List Sg} {v : Value} {R : List Rec} (h : RL w0 w O bd bw most S l n m v R) : ∃ a c, v = .slice a R.length c ∧ Gk.Lies w recE a (num 1 R) := by
  obtain ⟨a, c, e, hl⟩ := own_recs h.row
  exact ⟨a, c, by rw [e, num_length], hl⟩
theorem RL.below {w0 w w' : World} {O : Nat → Prop} {bd bw most n m : Nat} {S : St} {l : List Sg} {v : Value} {R : List Rec} (h : RL w0 w O bd bw most S l n m v R) (hb : Below w.heap.size w w') : RL w0 w' O bd bw most S l n m v R :=
  ⟨h.sn.below h.sn.base.size hb, Gk.own_below h.row hb, h.apart, h.tail, h.up, h.ne, h.nil, h.vnil⟩

theorem min_first {P : Program} {w : World} (ts : Array TypeId) (t : TypeId) (k k' : IntKind) (x y : Int) (h : x ≤ y) : (Builtin.min_ ts t #[.int k x, .int k' y]).run P w = .ok (.int k x) w := by
  rw [run_min_int2, if_neg (by omega)]
theorem max_second {P : Program} {w : World} (ts : Array TypeId) (t : TypeId) (k k' : IntKind) (x y : Int) (h : x ≤ y) : (Builtin.max_ ts t #[.int k x, .int k' y]).run P w = .ok (.int k y) w := by
  rw [run_max_int2]
  split
  · rfl
  · rw [show x = y by omega]
theorem min_second {P : Program} {w : World} (ts : Array TypeId) (t : TypeId) (k k' : IntKind) (x y : Int) (h : y < x) : (Builtin.min_ ts t #[.int k x, .int k' y]).run P w = .ok (.int k y) w := by
  rw [run_min_int2, if_pos h]
attribute [local go_sem ↓] min_first min_second max_second
abbrev SBel (w W : World) : Prop := Below w.heap.size w W
theorem SBel.drew {w a : World} (h : SBel w a) : SBel w a.drew := Below.drew h
theorem SBel.call {w a b : World} (hb : Below a.heap.size a b) (h : SBel w a) : SBel w b := Below.trans h (hb.mono h.size)
theorem SBel.same {w a b : World} (hb : a = b) (h : SBel w a) : SBel w b := hb ▸ h
theorem lies_drew {α : Type} {enc : α → List Value} {w : World} {a : Option Addr} {l : List α} (h : Gk.Lies w enc a l) : Gk.Lies w.drew enc a l := h
/-- a record more in the log and in the row -/
theorem RL.push {w0 w5 w6 : World} {O5 : Nat → Prop} {bd bw most n m m5 : Nat} {S5 : St} {l5 : List Sg} {v v' : Value} {R : List Rec} {r : Rec} {o : Obj} (hT : Tab w0) (hm : m = R.length + 1)
    (hS5 : Sn w0.heap.size w0 w5 O5 bd bw most S5 l5 n m5) (hv5 : w5.ownsRow w0.heap.size RecT 3 v (num 1 R).length (Gk.rc recE (num 1 R))) (hn5 : ∀ g, v.ownBlock = some g → ¬ O5 g)
    (hT5 : Tail (R ++ [r]) l5 n m5) (hu : Up S5) (hne : ∀ s ∈ l5, s.recs ≠ []) (hl5 : l5 ≠ [])
    (hv6 : w6.ownsRow w0.heap.size RecT 3 v' (num 1 R ++ [(m, r)]).length (Gk.rc recE (num 1 R ++ [(m, r)]))) (hg6 : (w5.alloc o).grownBy w6 v.ownBlock) (hat : ∀ g, v'.ownBlock = some g → v.ownBlock = some g ∨ w5.heap.size + 1 ≤ g) :
    RL w0 w6 O5 bd bw most S5 l5 n m5 v' (R ++ [r]) := by
  have hz5 := hS5.base.size
  have hbase : ∀ g, v.ownBlock = some g → w0.heap.size ≤ g := fun g hg => by
    rcases hv5.2 with ⟨rfl, _⟩ | ⟨g', cap2, cur, rfl, hgb, _⟩
    · simp [Value.ownBlock] at hg
    · simp only [Value.ownBlock, Option.some.injEq] at hg; subst hg; exact hgb
  have ho : Gk.Only (fun b => v.ownBlock = some b) w5 w6 := (Gk.Only.of_below (below_alloc1 w5 o)).trans (Gk.Only.of_grown hg6 fun k hk => hk)
  have hbas : Below w0.heap.size w0 w6 := hS5.base.trans (ho.below hz5 hbase)
  refine ⟨hS5.stay (fun k hk hO => ho.block k hk fun e => hn5 k e hO) (hT.below hbas) ho.size hbas, ?_, fun g hg hO => ?_, hT5, hu, hne, by simp [hl5], fun e => absurd e (by simp)⟩
  · rw [num_snoc, show 1 + R.length = m by omega]; exact hv6
  · rcases hat g hg with h | h
    · exact hn5 g h hO
    · have := (hS5.old g hO).2
      omega

set_option maxRecDepth 100000 in
set_option maxHeartbeats 12800000 in
theorem reads_law (mo : Int) (a : Option Addr) (cap : Nat) (gs : List GoV) (fa : Option Addr) (fc : Nat) (fs : List Int) (w : World) (hmo : (Lit.int .i64 mo).wf = true) (hG : GosAt w a cap gs) (hF : Gk.IntsAt w fa fc fs) (hT : Tab w) :
    Calls Tryz.prog 4 #[.int .i64 mo, .slice a gs.length cap, .slice fa fs.length fc] w fun e w' => e = .returned (.bool true) ∧ Below w.heap.size w w' := by
  have mixed : Tryz.prog.follows .mixedOrders = true := by kernel_rfl
  have hN := Dk.new_ok 262144 w (by omega)
  obtain ⟨m0, m1⟩ : -9223372036854775808 ≤ mo ∧ mo ≤ 9223372036854775807 := bounds_i64 hmo
  have hAm := fun W => Gk.among_any mo 100 W (by omega) (by omega) m0 m1
  obtain ⟨M, hM⟩ : ∃ M : Nat, (M : Int) = mo % 100 := ⟨(mo % 100).toNat, by omega⟩
  have hMb : M < 100 := by omega
  simp only [← hM] at hAm
  clear hM hmo m0 m1
  have hgl : gs.length ≤ 9223372036854775807 := by have := hG.room; have := hG.max; omega
  have hfl : fs.length ≤ 9223372036854775807 := by have := hF.room; have := hF.max; omega
  go_enter Tryz.func4, Tryz.ntmps4
  go_wp2_with fail
  refine hN.mono ?_
  rintro e w1 ⟨bd, rfl, hH1, hb1⟩
  obtain ⟨hD1, hu1⟩ := new_ds hT hH1 hb1
  have hWk := works_any w1 (hT.below hb1)
  clear hN hH1
  go_wp2_with fail
  refine hWk.mono ?_
  rintro e w2 ⟨rfl, hb2⟩
  have hD2 := hD1.below hb1.size hb2
  have hz2 := hD2.base.size
  have hO0 := fun (mm : Nat) (h1 : 1 ≤ mm) (h2 : mm ≤ 65536) => hD2.open (most := mm) hz2 hu1 (by omega) (by omega) (fun _ => rfl) h1 h2
  clear hWk
  obtain ⟨mm, hmm⟩ : ∃ mm : Nat, mm = M + 1 := ⟨_, rfl⟩
  have hmc : (1 : Int) + (M : Int) = (mm : Int) := by omega
  have hO := hO0 mm (by omega) (by omega)
  have hm1 : 1 ≤ mm := by omega
  have hm2 : mm ≤ 65536 := by omega
  clear hmm
  go_wp2_with (first | (go_at_call 7; refine (hAm _).mono ?_; rintro e w3 ⟨rfl, rfl⟩))
  refine hO.mono ?_
  rintro e w3 ⟨bw, O3, S3, rfl, hS3, hu3, -, -, hst3⟩
  have hR3 : RL w w3 O3 bd bw mm S3 (opened []) 1 1 (.slice none 0 0) [] := ⟨hS3, World.ownsRow_nil _ _ _ _, fun g hg => by simp [Value.ownBlock] at hg, ⟨rfl, by omega, by omega, by simp [allRecs, opened]⟩, hu3, by simp [opened], by simp [opened], fun _ => rfl⟩
  clear hO hO0 hAm hst3 hD2 hD1 hu1 hb2 hb1 hz2 hmc hMb hS3 hu3
  go_wp2
  go_loopw [10, 11] (fun v i wr => ∃ (k : Nat) (O : Nat → Prop) (S : St) (l : List Sg) (n m : Nat) (R : List Rec), k ≤ gs.length ∧ i = .int .i64 k ∧ k ≤ 10 ∧ RL w wr O bd bw mm S l n m v R ∧ R.length ≤ 10 * k) (fun _ i _ => gs.length - (intOf i).toNat)
  case atStart => exact ⟨0, O3, S3, _, 1, 1, [], by omega, rfl, by omega, hR3, by simp⟩
  case round =>
    obtain ⟨k, O, S, l, n, m, R, hk, rfl, hk10, hR, hRl⟩ := hrel
    clear hR3
    obtain ⟨av, cv, rfl, -⟩ := hR.slice
    have hz := hR.sn.base.size
    by_cases hlt : k < gs.length
    · by_cases hlt2 : k < 10
      · obtain ⟨b, off, rfl, hcs⟩ := hG.cells k hlt
        have hok := hG.each gs[k] (List.getElem_mem hlt)
        generalize gs[k] = gv at *
        have HS := hide hR
        have hbs := hide hR.sn.base
        have q0 := (hcs wr hR.sn.base).1
        have i1 : (0 : Int) ≤ (k : Int) := by omega
        have i2 : (k : Int) < (gs.length : Int) := by omega
        have i3 : (k : Int) < 10 := by omega
        have htl : gv.ts.length ≤ 9223372036854775807 := by have := hok.texts.room; have := hok.texts.max; omega
        clear hR
        go_upto_block 2 with fail
        go_cut [10] from 52 to 231 (fun v wc => ∃ (O : Nat → Prop) (S : St) (l : List Sg) (m : Nat) (R : List Rec), RL w wc O bd bw mm S l n m v R ∧ R.length ≤ 10 * k + 10)
        case first =>
          as_aux_lemma =>
            go_wp2_with fail
            go_loopw [10, 12] (fun v jv wi => ∃ (j : Nat) (O : Nat → Prop) (S : St) (l : List Sg) (m : Nat) (R : List Rec), j ≤ gv.ts.length ∧ jv = .int .i64 j ∧ j ≤ 10 ∧ RL w wi O bd bw mm S l n m v R ∧ R.length ≤ 10 * k + j) (fun _ jv _ => gv.ts.length - (intOf jv).toNat)
            case atStart => exact ⟨0, O, S, l, m, R, by omega, rfl, by omega, HS.out, by omega⟩
            case round =>
              as_aux_lemma =>
                clear HS
                obtain ⟨j, O, S, l, m, R, hj, rfl, hj10, hR, hRl⟩ := hrel
                obtain ⟨av, cv, rfl, -⟩ := hR.slice
                have hz := hR.sn.base.size
                have q0 := (hcs wr hR.sn.base).1
                have q1 := (hcs wr hR.sn.base).2.1
                by_cases hin : j < gv.ts.length ∧ j < 10
                · obtain ⟨hjl, hj2⟩ := hin
                  obtain ⟨tb, toff, hla, htc⟩ := text_cell hok.texts j hjl
                  rw [hla] at q0
                  have t0 := htc wr hR.sn.base
                  generalize gv.ts[j] = tx at *
                  have j1 : (0 : Int) ≤ (j : Int) := by omega
                  have j2 : (j : Int) < (gv.ts.length : Int) := by omega
                  have j3 : (j : Int) < 10 := by omega
                  have HR := hide hR
                  by_cases hlong : tx.size ≤ 500
                  · have hl' : ¬ (500 : Int) < (tx.size : Int) := by omega
                    have hA1 := fun W => Gk.among_any gv.fuse 100 W (by omega) (by omega) hok.f0 hok.f1
                    obtain ⟨f1, hf1⟩ : ∃ f1 : Nat, (f1 : Int) = gv.fuse % 100 := ⟨(gv.fuse % 100).toNat, by omega⟩
                    have hf1b : f1 < 100 := by omega
                    simp only [← hf1] at hA1
                    obtain ⟨fj, hfj⟩ : ∃ fj : Nat, (f1 : Int) + (j : Int) = (fj : Int) := ⟨f1 + j, by omega⟩
                    have hA2 := fun W => Gk.among_any (fj : Int) 16 W (by omega) (by omega) (by omega) (by omega)
                    obtain ⟨br, hbr⟩ : ∃ br : Nat, (br : Int) = (fj : Int) % 16 := ⟨((fj : Int) % 16).toNat, by omega⟩
                    have hbrb : br < 16 := by omega
                    simp only [← hbr] at hA2
                    have hA := hR.sn.append hz hm1 (by have := hR.tail.1; omega) ⟨br, tx⟩ (rec_may br hbrb tx hlong)
                    have HLA := hide hla
                    clear hR hla hf1 hbr
                    go_wp2_with fail
                    refine (hA1 _).mono ?_
                    rintro e w4 ⟨rfl, rfl⟩
                    clear hA1
                    go_wp2_with fail
                    refine (hA2 _).mono ?_
                    rintro e w4 ⟨rfl, rfl⟩
                    clear hA2 hfj hf1b
                    go_wp2_with fail
                    refine hA.mono ?_
                    rintro e w5 ⟨O5, S5, l5, m5, c5, hS5, hG5, he5, he5', hst5⟩
                    have hup := hG5.up HR.out.up
                    by_cases hc : c5 = 0
                    · rw [he5 hc]
                      obtain ⟨hv5, hn5⟩ := hst5.row HR.out.row HR.out.apart
                      have hT5 := HR.out.tail.grew hG5 hc
                      have hne5 := hG5.ne HR.out.ne
                      have hmR : m = R.length + 1 := HR.out.tail.1
                      have hl5 : l5 ≠ [] := fun e => by
                        have := hG5.recs
                        rw [e, if_pos hc] at this
                        simp [allRecs] at this
                      have hz5 := hS5.base.size
                      have q5 := (hcs w5 hS5.base).1
                      rw [HLA.out] at q5
                      have t5 := htc w5 hS5.base
                      have z1 : (m : Int) = (R.length : Int) + 1 := by omega
                      have HmR := hide hmR
                      have hnl : (num 1 R).length ≤ 200 := by rw [num_length]; omega
                      have hm5 : m5 = m + 1 := by rw [hG5.nx, if_pos hc]
                      clear hA he5 he5' hG5 hst5 hmR
                      go_wp2_with (at_builtin; go_loud (refine Gk.wpList_push (enc := recE) (k := 3) rfl (.tmp 122) (.tmp 134) 42 rfl RecT (.agg #[.int .i64 0, .int .i64 0, .string ⟨#[]⟩]) 32 Tryz.underlying42 rec_info rfl (by decide) recE_len recE_one w.heap.size _ (num 1 R) rfl (Gk.own_below hv5 (below_alloc1 w5 _)) w5.heap.size (R.length + 1, ⟨br, tx⟩) rfl (by first | exact heap_alloc_new w5 _ | (rw [heap_alloc_new]; simp [recE])) ?c1 ?c2 ?c3 ?_))
                      case c1 => omega
                      case c2 => omega
                      case c3 => simp; omega
                      intro v' w6 hv6 hg6 hat6
                      have hmm := HmR.out
                      have hR6 := RL.push hT rfl hS5 hv5 hn5 hT5 hup.1 hne5 hl5 (by rw [List.length_append]; exact hv6) hg6 hat6
                      clear hv5 hv6 hg6 hat6 hS5
                      go_wp2
                      go_roundw
                      case rel => exact ⟨j + 1, O5, S5, l5, m5, R ++ [⟨br, tx⟩], by omega, by go_num, by omega, hR6, by rw [List.length_append, List.length_singleton]; omega⟩
                      case measure => simp [intOf]; omega
                    · rw [he5' hc]
                      have hc22 : c5 = 22 := by rcases hG5.code with h | h | h; exact absurd h hc; exact absurd h hup.2; exact h
                      subst hc22
                      have hbe := hS5.base
                      clear hA he5 he5' hG5 hst5
                      go_wp2
                      go_ret
                      exact ⟨rfl, hbe⟩
                  · have hl' : (500 : Int) < (tx.size : Int) := by omega
                    clear hR
                    go_wp2
                    go_roundw
                    case rel => exact ⟨j + 1, O, S, l, m, R, by omega, by go_num, by omega, HR.out, by omega⟩
                    case measure => simp [intOf]; omega
                · have HR := hide hR
                  clear hR
                  by_cases hjl : j < gv.ts.length
                  · have j1 : (j : Int) < (gv.ts.length : Int) := by omega
                    have j3 : ¬ (j : Int) < 10 := by omega
                    go_wp2
                    go_meet
                    case rel => exact ⟨O, S, l, m, R, HR.out, by omega⟩
                  · have j1 : ¬ (j : Int) < (gv.ts.length : Int) := by omega
                    go_wp2
                    go_meet
                    case rel => exact ⟨O, S, l, m, R, HR.out, by omega⟩
        case rest =>
          as_aux_lemma =>
            clear HS hRl
            obtain ⟨O, S, l, m, R, hR, hRl⟩ := hcut
            obtain ⟨av, cv, rfl, -⟩ := hR.slice
            have hz := hR.sn.base.size
            have HR := hide hR
            by_cases hci : k < fs.length
            · obtain ⟨fb, fo, rfl, hfc⟩ := int_cell hF k hci
              obtain ⟨x0, x1⟩ := hF.each fs[k] (List.getElem_mem hci)
              have g0 := hfc wc hR.sn.base
              generalize fs[k] = xc at *
              have hn1 := hR.tail.2.1
              have hnm := hR.tail.2.2.1
              have hmR := hR.tail.1
              obtain ⟨sq, hsq⟩ : ∃ sq : Nat, (n : Int) + xc % ((m : Int) - (n : Int) + 1) = (sq : Int) := ⟨((n : Int) + xc % ((m : Int) - (n : Int) + 1)).toNat, by have := Int.emod_nonneg xc (show (m : Int) - (n : Int) + 1 ≠ 0 by omega); omega⟩
              have hs1 : n ≤ sq := by have := Int.emod_nonneg xc (show (m : Int) - (n : Int) + 1 ≠ 0 by omega); omega
              have hs2 : sq ≤ m := by have := Int.emod_lt_of_pos xc (show 0 < (m : Int) - (n : Int) + 1 by omega); omega
              have hFi := hR.sn.first
              have hNx : ∀ W, Below wc.heap.size wc W → Calls Tryz.prog 9 #[.pointer (some ⟨bw, 0, none⟩)] W fun e w' => e = .returned (.int .i64 m) ∧ w' = W := fun W hb => ((HR.out.below hb).sn.next).mono fun e w' h => ⟨h.1, h.2.symm⟩
              have hAm : ∀ W, Calls Tryz.prog 7 #[.int .i64 xc, .int .i64 ((m : Int) - (n : Int) + 1)] W fun e w' => e = .returned (.int .i64 (xc % ((m : Int) - (n : Int) + 1))) ∧ w' = W := fun W => (Gk.among_any xc ((m : Int) - (n : Int) + 1) W (by omega) (by omega) x0 x1).mono fun e w' h => ⟨h.1, h.2.symm⟩
              have c1 : ¬ (fs.length : Int) ≤ (k : Int) := by omega
              have c2 : (k : Int) < (fs.length : Int) := by omega
              have hml : m ≤ 1048576 := by omega
              have HmR := hide hmR
              clear hR hmR
              go_wp2_with fail
              refine hFi.mono ?_
              rintro e w5 ⟨rfl, rfl⟩
              go_wp2_with fail
              go_quiet (first | (go_at_call 9; exact Calls.quiet_of_same (hNx _ (below_draws _ _ _))) | (go_at_call 7; exact Calls.quiet_of_same (hAm _)))
              clear hAm hFi hNx
              have HRq := hide (HR.out.below (below_draws _ wc nq))
              clear hz g0
              generalize wc.drewN nq = wq at HRq ⊢
              have hSg := HRq.out.sn.segsN
              go_wp2_with fail
              refine hSg.mono ?_
              rintro e w6 ⟨u6, rfl, ho6, hb6, hn6⟩
              have hR6 := HRq.out.below hb6
              have hold : ∀ g, u6.ownBlock = some g → ¬ O g := fun g hg hO => by
                have h1 := (HRq.out.sn.old g hO).2
                rcases ho6.2 with ⟨rfl, _⟩ | ⟨g', cap2, cur, rfl, hgb, _⟩
                · simp [Value.ownBlock] at hg
                · simp only [Value.ownBlock, Option.some.injEq] at hg; subst hg; omega
              have hFo := hR6.sn.forget hR6.sn.base.size hR6.up (by omega) sq hs1 hs2
              obtain ⟨kk, n', hkk, hfe, hfst, hT7, hn'1, hn'2⟩ := hR6.tail.forg hR6.sn.lg hs1
              have hgone : l.length - (forg sq l).length = kk := by rw [hfe, List.length_drop]; omega
              rw [hgone, hfst] at hFo
              have HR6 := hide hR6
              clear hSg hR6 hsq
              obtain ⟨a6, c6, rfl⟩ := Dk.own_slice ho6
              obtain ⟨FL, hFL⟩ : ∃ FL, (l.map (·.first)).length = FL := ⟨_, rfl⟩
              have hFll : l.length = FL := by rw [← hFL, List.length_map]
              rw [hFL]
              go_wp2_with fail
              refine hFo.mono ?_
              rintro e w7 ⟨O7, S7, rfl, hS7, hu7, hst7⟩
              obtain ⟨hv7, hn7⟩ := hst7.row HR6.out.row HR6.out.apart
              obtain ⟨ho7, -⟩ := hst7.row ho6 hold
              have hR7 : RL w w7 O7 bd bw mm S7 (forg sq l) n' m _ R := ⟨hS7, hv7, hn7, hT7, hu7, fun s hs => HR6.out.ne s (by rw [hfe] at hs; exact List.mem_of_mem_drop hs), forg_nil.trans HR6.out.nil, HR6.out.vnil⟩
              have hSg7 := hR7.sn.segs
              have HR7 := hide hR7
              clear hFo hst7 hold hS7 hv7 hn7 hT7 hR7 ho6
              have k1 : (kk : Int) ≤ (FL : Int) := by omega
              have hlst : (forg sq l).map (·.first) = (l.map (·.first)).drop kk := by rw [hfe, List.map_drop]
              have hlen8 : ((forg sq l).map (·.first)).length = FL - kk := by rw [hlst, List.length_drop, hFL]
              have hFb : FL ≤ 64 := by rw [← hFll]; exact HR6.out.sn.on.len HR6.out.sn.lg HR6.out.sn.ok
              have hS0 : SBel w7 w7 := Below.refl _ _
              go_upto_region 27 with fail
              go_cut [191] from 52 to 231 (fun c wx => c = .bool false ∧ SBel w7 wx)
              case first =>
                by_cases hl0 : l = []
                · subst hl0
                  have hF0 : FL = 0 := by rw [← hFL]; rfl
                  have hk0 : kk = 0 := by simpa using hkk
                  subst hF0 hk0
                  have hSg8 : ∀ W, SBel w7 W → Calls Tryz.prog 16 #[.pointer (some ⟨bw, 0, none⟩)] W fun e w' => ∃ a8 c8, e = .returned (.slice a8 0 c8) ∧ Below W.heap.size W w' := fun W hb => by
                    refine ((HR7.out.below hb).sn.segs).mono ?_
                    rintro e w' ⟨u, rfl, ho, hb'⟩
                    obtain ⟨a8, c8, rfl, hl8⟩ := own_nums ho
                    exact ⟨a8, c8, by rw [hlen8], hb'⟩
                  have hSI : ∀ W (a8 ax : Option Addr) (c8 cx : Nat), Calls Tryz.prog 18 #[.slice a8 0 c8, .slice ax 0 cx] W fun e w' => e = .returned (.bool true) ∧ Below W.heap.size W w' := fun W a8 ax c8 cx =>
                    same_nums a8 ax c8 cx [] W (Or.inl rfl) (Or.inl rfl) (by simp)
                  have hF8 : ∀ W, SBel w7 W → Calls Tryz.prog 15 #[.pointer (some ⟨bw, 0, none⟩)] W fun e w' => e = .returned (.int .i64 n') ∧ W = w' := fun W hb => (HR7.out.below hb).sn.first
                  have hN8 : ∀ W, SBel w7 W → Calls Tryz.prog 9 #[.pointer (some ⟨bw, 0, none⟩)] W fun e w' => e = .returned (.int .i64 m) ∧ W = w' := fun W hb => (HR7.out.below hb).sn.next
                  have z1 : (m : Int) = (R.length : Int) + 1 := by have := HmR.out; omega
                  have z2 : (n : Int) ≤ (sq : Int) := by omega
                  have zw : IntKind.i64.wrap ((R.length : Int) + 1) = (R.length : Int) + 1 := by rw [IntKind.wrap_i64]; omega
                  have z3 : ¬ (sq : Int) < (n' : Int) := by omega
                  have zd : decide ((sq : Int) < (n' : Int)) = false := decide_eq_false (by omega)
                  have zdN : decide (sq < n') = false := decide_eq_false (by omega)
                  have zdM : (sq < n') = False := eq_false (by omega)
                  have hf6 := hn6 rfl
                  simp only [Value.slice.injEq] at hf6
                  obtain ⟨rfl, -, rfl⟩ := hf6
                  clear hSg7 hFL hFll hlst hlen8 ho7 hkk hgone hfe k1
                  set_option maxHeartbeats 400000 in
                  go_region_held3 (SBel w7) (first | with_reducible exact SBel.drew (by assumption) | with_reducible exact SBel.call (by assumption) (by assumption) | with_reducible exact SBel.same (by assumption) (by assumption) | with_reducible assumption)
                    (first
                      | (go_at_call 16; refine (hSg8 _ (by assumption)).mono ?_; rintro e w8 ⟨a8, c8, rfl, hb8⟩)
                      | (go_at_call 18; refine (hSI _ _ _ _ _).mono ?_; rintro e w9 ⟨rfl, hb9⟩)
                      | (go_at_call 15; refine (hF8 _ (by assumption)).mono ?_; rintro e w10 ⟨rfl, rfl⟩)
                      | (go_at_call 9; refine (hN8 _ (by assumption)).mono ?_; rintro e w10 ⟨rfl, rfl⟩)
                      | fail)
                  all_goals
                    go_wp2_with fail
                    go_meet
                    case rel => exact ⟨by first | rfl | (rw [zw]; simp) | simp, by assumption⟩
                · have hkl : kk < FL := by
                    have h1 : forg sq l ≠ [] := fun e => hl0 (forg_nil.1 e)
                    rw [hfe] at h1
                    rcases Nat.lt_or_ge kk l.length with h | h
                    · omega
                    · exact absurd (List.drop_eq_nil_of_le h) h1
                  rw [hFL] at ho7
                  obtain ⟨g6, cap6, cur6, e6, hg6, hc6, -⟩ := Gk.own_form ho7 (by omega)
                  cases e6
                  have hl7 : Gk.Lies w7 nE (some ⟨g6, kk, none⟩) ((forg sq l).map (·.first)) := by
                    rw [← nums_rc] at ho7
                    have := Gk.Row.drop (enc := nE) (k := 1) (e := IntT) (n := FL) (cap := c6) (l := l.map (·.first)) (by rw [← hFL] at ho7 ⊢; exact Gk.own_mono ho7 (Nat.zero_le _)) nE_len kk (by omega)
                    rw [hlst]
                    rwa [Nat.mul_one] at this
                  have hSg8 : ∀ W, SBel w7 W → Calls Tryz.prog 16 #[.pointer (some ⟨bw, 0, none⟩)] W fun e w' => ∃ a8 c8, e = .returned (.slice a8 (FL - kk) c8) ∧ Gk.Lies w' nE a8 ((forg sq l).map (·.first)) ∧ Below W.heap.size W w' := fun W hb => by
                    refine ((HR7.out.below hb).sn.segs).mono ?_
                    rintro e w' ⟨u, rfl, ho, hb'⟩
                    obtain ⟨a8, c8, rfl, hl8⟩ := own_nums ho
                    exact ⟨a8, c8, by rw [hlen8], hl8, hb'⟩
                  have hSI : ∀ W (a8 : Option Addr) (c8 cx : Nat), SBel w7 W → Gk.Lies W nE a8 ((forg sq l).map (·.first)) → Calls Tryz.prog 18 #[.slice a8 (FL - kk) c8, .slice (some ⟨g6, kk, none⟩) (FL - kk) cx] W fun e w' => e = .returned (.bool true) ∧ Below W.heap.size W w' := fun W a8 c8 cx hb h8 => by
                    have := same_nums a8 (some ⟨g6, kk, none⟩) c8 cx _ W h8 (hl7.below hb) (by rw [hlen8]; omega)
                    rwa [hlen8] at this
                  have hF8 : ∀ W, SBel w7 W → Calls Tryz.prog 15 #[.pointer (some ⟨bw, 0, none⟩)] W fun e w' => e = .returned (.int .i64 n') ∧ W = w' := fun W hb => (HR7.out.below hb).sn.first
                  have hN8 : ∀ W, SBel w7 W → Calls Tryz.prog 9 #[.pointer (some ⟨bw, 0, none⟩)] W fun e w' => e = .returned (.int .i64 m) ∧ W = w' := fun W hb => (HR7.out.below hb).sn.next
                  have z1 : (m : Int) = (R.length : Int) + 1 := by have := HmR.out; omega
                  have z2 : (n : Int) ≤ (sq : Int) := by omega
                  have zw : IntKind.i64.wrap ((R.length : Int) + 1) = (R.length : Int) + 1 := by rw [IntKind.wrap_i64]; omega
                  have z3 : ¬ (sq : Int) < (n' : Int) := by omega
                  have z4 : (0 : Int) ≤ (kk : Int) := by omega
                  have z5 : (kk : Int) ≤ (c6 : Int) := by omega
                  have z6 : ¬ c6 = kk := by omega
                  have z7 : (FL : Int) ≤ (c6 : Int) := by omega
                  have zd : decide ((sq : Int) < (n' : Int)) = false := decide_eq_false (by omega)
                  have zdN : decide (sq < n') = false := decide_eq_false (by omega)
                  have zdM : (sq < n') = False := eq_false (by omega)
                  have z7n : FL ≤ c6 := hc6
                  have z13 : kk ≤ FL := by omega
                  have z14 : kk ≤ c6 := by omega
                  have z8 : ¬ (FL : Int) < (kk : Int) := by omega
                  have z9 : (if (FL : Int) < (kk : Int) then (FL : Int) else (kk : Int)) = (kk : Int) := if_neg z8
                  have z10 : IntKind.i64.wrap (kk : Int) = (kk : Int) := by rw [IntKind.wrap_i64]; omega
                  have z11 : (kk : Int) < (FL : Int) := by omega
                  have z12 : (0 : Int) ≤ (FL : Int) := by omega
                  clear hSg7 hFL hFll hlst hlen8 hl7 hg6 ho7
                  set_option maxHeartbeats 400000 in
                  go_region_held3 (SBel w7) (first | with_reducible exact SBel.drew (by assumption) | with_reducible exact SBel.call (by assumption) (by assumption) | with_reducible exact SBel.same (by assumption) (by assumption) | with_reducible assumption)
                    (first
                      | (go_at_call 16; refine (hSg8 _ (by assumption)).mono ?_; rintro e w8 ⟨a8, c8, rfl, hl8, hb8⟩)
                      | (go_at_call 18; refine (hSI _ _ _ _ (by assumption) (by first | with_reducible exact hl8 | with_reducible exact lies_drew hl8 | with_reducible exact lies_drew (lies_drew hl8) | with_reducible exact lies_drew (lies_drew (lies_drew hl8)) | fail)).mono ?_; rintro e w9 ⟨rfl, hb9⟩)
                      | (go_at_call 15; refine (hF8 _ (by assumption)).mono ?_; rintro e w10 ⟨rfl, rfl⟩)
                      | (go_at_call 9; refine (hN8 _ (by assumption)).mono ?_; rintro e w10 ⟨rfl, rfl⟩)
                      | fail)
                  all_goals
                    go_wp2_with fail
                    go_meet
                    case rel => exact ⟨by first | rfl | (rw [zw]; simp) | simp, by assumption⟩
              case rest =>
                as_aux_lemma =>
                  obtain ⟨rfl, hbx⟩ := hcut
                  have hRx := HR7.out.below hbx
                  have hn'm := hRx.tail.2.2.1
                  have hn'1' := hRx.tail.2.1
                  have hmR' := hRx.tail.1
                  have hgG := hRx.tail.read
                  obtain ⟨p, hp⟩ : ∃ p, p + 1 = n' := ⟨n' - 1, by omega⟩
                  obtain ⟨G, hG'⟩ : ∃ G, G = (num 1 R).drop p := ⟨_, rfl⟩
                  rw [show n' - 1 = p by omega, ← hG'] at hgG
                  have hGl : G.length = R.length - p := by rw [hG', List.length_drop, num_length]
                  obtain ⟨T, hT3⟩ : ∃ T, (G.take 3).length = T := ⟨_, rfl⟩
                  have HTm : Hid (T = min 3 (R.length - p)) := by show _ = _; rw [← hT3, List.length_take, hGl]
                  have hRd1 : ∀ W, SBel wc W → Calls Tryz.prog 14 #[.pointer (some ⟨bw, 0, none⟩), .int .i64 n', .int .i64 3] W fun e w' => ∃ a1 c1, e = .returned (.tuple #[.slice a1 T c1, .int .i64 0]) ∧ Gk.Lies w' recE a1 (G.take 3) ∧ Below W.heap.size W w' := fun W hb => by
                    have h := (hRx.below hb).sn.read (fr := n') (q := 3) (by omega) (Nat.le_refl _) hn'm (by omega)
                    rw [hgG] at h
                    refine h.mono ?_
                    rintro e w' ⟨u, rfl, ho, hb'⟩
                    obtain ⟨a1, c1, rfl, hl1⟩ := own_recs ho
                    exact ⟨a1, c1, by rw [hT3], hl1, hb'⟩
                  have hRd2 : ∀ W, SBel wc W → Calls Tryz.prog 14 #[.pointer (some ⟨bw, 0, none⟩), .int .i64 n', .int .i64 4096] W fun e w' => ∃ a2 c2, e = .returned (.tuple #[.slice a2 (R.length - p) c2, .int .i64 0]) ∧ Gk.Lies w' recE a2 G ∧ Below W.heap.size W w' ∧ ((a2 = none ∧ G = [] ∧ c2 = 0) ∨ ∃ g, a2 = some ⟨g, 0, none⟩ ∧ G.length ≤ c2) := fun W hb => by
                    have h := (hRx.below hb).sn.read (fr := n') (q := 4096) (by omega) (Nat.le_refl _) hn'm (by omega)
                    rw [hgG, List.take_of_length_le (by omega)] at h
                    refine h.mono ?_
                    rintro e w' ⟨u, rfl, ho, hb'⟩
                    obtain ⟨a2, c2, rfl, hl2⟩ := own_recs ho
                    refine ⟨a2, c2, by rw [hGl], hl2, hb', ?_⟩
                    rcases ho.2 with ⟨e6, h0⟩ | ⟨g6, cap6, cur6, e6, _, _, hnc, _⟩
                    · simp only [Value.slice.injEq] at e6; exact Or.inl ⟨e6.1, List.eq_nil_of_length_eq_zero h0, e6.2.2⟩
                    · simp only [Value.slice.injEq] at e6; exact Or.inr ⟨g6, e6.1, by omega⟩
                  have hFx : ∀ W, SBel wc W → Calls Tryz.prog 15 #[.pointer (some ⟨bw, 0, none⟩)] W fun e w' => e = .returned (.int .i64 n') ∧ W = w' := fun W hb => (hRx.below hb).sn.first
                  have HRX := hide hRx
                  clear HR7 hRx hgG HmR hbx
                  go_wp2_with fail
                  refine (hFx _ (Below.refl _ _)).mono ?_
                  rintro e w8 ⟨rfl, rfl⟩
                  go_wp2_with fail
                  refine (hRd1 _ (Below.refl _ _)).mono ?_
                  rintro e w8 ⟨a1, c1', rfl, hl1, hb8⟩
                  have hs8 : SBel wc w8 := hb8
                  go_wp2_with fail
                  refine (hFx _ hs8).mono ?_
                  rintro e w9 ⟨rfl, rfl⟩
                  go_wp2_with fail
                  refine (hRd2 _ hs8).mono ?_
                  rintro e w9 ⟨a2, c2', rfl, hl2, hb9, hf2⟩
                  have hs9 : SBel wc w9 := SBel.call hb9 hs8
                  have hl1' := hl1.below hb9
                  have x3 : (n' : Int) - 1 = (p : Int) := by omega
                  have hS0 : ∀ W (a a' : Option Addr) (c c' : Nat), Calls Tryz.prog 19 #[.slice a 0 c, .slice a' 0 c'] W fun e w' => e = .returned (.bool true) ∧ Below W.heap.size W w' := fun W a a' c c' => same_recs a a' c c' [] W (Or.inl rfl) (Or.inl rfl) (by simp)
                  by_cases hR0 : R = []
                  · have hv0 := HRX.out.vnil hR0
                    simp only [Value.slice.injEq] at hv0
                    obtain ⟨rfl, hRl0, rfl⟩ := hv0
                    have hp0 : p = 0 := by omega
                    have hG0 : G = [] := by rw [hG', hR0]; simp [num]
                    subst hG0 hp0
                    obtain rfl : T = 0 := by rw [HTm.out, hRl0]; rfl
                    have hrx := HRX.out
                    rw [hRl0] at hrx
                    replace HRX := hide hrx
                    clear hrx
                    rw [hRl0]
                    clear hl1 hl2 hl1' hRd1 hRd2 hb8 hb9 hRl0 HTm hGl hG' hp hmR' hn'm hn'1' hT3
                    rcases hf2 with ⟨rfl, -, rfl⟩ | ⟨g2, rfl, hgc⟩
                    all_goals
                      go_wp2_with (first | (go_at_call 15; refine (hFx _ hs9).mono ?_; rintro e w10 ⟨rfl, rfl⟩) | (go_at_call 19; refine (hS0 _ _ _ _ _).mono ?_; rintro e w10 ⟨rfl, hb10⟩; have hs10 : SBel wc w10 := SBel.call hb10 (by assumption)))
                      go_wp2
                      go_roundw
                      case rel => exact ⟨k + 1, O7, S7, forg sq l, n', m, R, by omega, by go_num, by omega, HRX.out.below (by assumption), by omega⟩
                      case measure => simp [intOf]; omega
                  · have hl0' : forg sq l ≠ [] := fun e => hR0 (HRX.out.nil.1 e)
                    have hpR : p < R.length := by
                      have h1 := HRX.out.tail.2.2.2
                      obtain ⟨s, r, hs⟩ := List.exists_cons_of_ne_nil hl0'
                      have h2 := HRX.out.ne s (by rw [hs]; simp)
                      rcases Nat.lt_or_ge p R.length with h | h
                      · exact h
                      · rw [show n' - 1 = p by omega, List.drop_eq_nil_of_le h, hs] at h1
                        simp [allRecs] at h1
                        exact absurd h1.1 h2
                    obtain ⟨g9, cap9, cur9, e9, hg9, hc9, -⟩ := Gk.own_form HRX.out.row (by rw [num_length]; omega)
                    simp only [Value.slice.injEq] at e9
                    obtain ⟨rfl, -, rfl⟩ := e9
                    rw [num_length] at hc9
                    have hld : Gk.Lies w9 recE (some ⟨g9, p * 3, none⟩) G := by
                      have := Gk.Row.drop (enc := recE) (k := 3) (e := RecT) (n := R.length) (cap := cv) (l := num 1 R) (Gk.own_mono (Gk.own_below HRX.out.row hs9) (Nat.zero_le _)) recE_len p (by rw [num_length]; omega)
                      rw [hG']; exact this
                    obtain ⟨g2, rfl, hgc⟩ : ∃ g, a2 = some ⟨g, 0, none⟩ ∧ G.length ≤ c2' := by
                      rcases hf2 with ⟨_, hG0, _⟩ | h
                      · rw [hG0] at hGl; simp at hGl; omega
                      · exact h
                    have hSR1 : ∀ W (cx : Nat), SBel w9 W → Calls Tryz.prog 19 #[.slice (some ⟨g2, 0, none⟩) (R.length - p) c2', .slice (some ⟨g9, p * 3, none⟩) (R.length - p) cx] W fun e w' => e = .returned (.bool true) ∧ Below W.heap.size W w' := fun W cx hb => by
                      have := same_recs (some ⟨g2, 0, none⟩) (some ⟨g9, p * 3, none⟩) c2' cx G W (hl2.below hb) (hld.below hb) (by omega)
                      rwa [hGl] at this
                    have hSR2 : ∀ W, SBel w9 W → Calls Tryz.prog 19 #[.slice a1 T c1', .slice (some ⟨g2, 0, none⟩) T c2'] W fun e w' => e = .returned (.bool true) ∧ Below W.heap.size W w' := fun W hb => by
                      have := same_recs a1 (some ⟨g2, 0, none⟩) c1' c2' (G.take 3) W (hl1'.below hb) (recs_take 3 (hl2.below hb)) (by have := HTm.out; rw [hT3]; omega)
                      rwa [hT3] at this
                    rw [hGl] at hgc
                    have y1 : (0 : Int) ≤ (p : Int) := by omega
                    have y2 : (p : Int) ≤ (R.length : Int) := by omega
                    have y3 : (p : Int) ≤ (cv : Int) := by omega
                    have y4 : ¬ cv = p := by omega
                    have y5 : (R.length : Int) ≤ (cv : Int) := by omega
                    have y6 : R.length ≤ cv := hc9
                    have y7 : p ≤ R.length := by omega
                    have y8 : p ≤ cv := by omega
                    have y9 : R.length - p ≤ c2' := hgc
                    have HS9 := hide hs9
                    have hq9 : SBel w9 w9 := Below.refl _ _
                    clear hl1 hl2 hl1' hRd1 hRd2 hb8 hb9 hld hT3 hS0 hg9 hl0'
                    by_cases h3 : 3 ≤ R.length - p
                    · obtain rfl : T = 3 := by have := HTm.out; omega
                      have u1 : (3 : Int) ≤ ((R.length - p : Nat) : Int) := by omega
                      have u2 : (3 : Int) ≤ (c2' : Int) := by omega
                      clear HTm hGl hG' hp hmR' hn'm hn'1' hR0 hpR hgc hc9 h3
                      go_wp2_with (first | (go_at_call 15; refine (hFx _ hs9).mono ?_; rintro e w10 ⟨rfl, rfl⟩) | (go_at_call 19; (first | (with_reducible refine (hSR1 _ _ (by assumption)).mono ?_) | (with_reducible refine (hSR2 _ (by assumption)).mono ?_)); rintro e w10 ⟨rfl, hb10⟩; have hs10 : SBel w9 w10 := SBel.call hb10 (by assumption)))
                      go_wp2
                      go_roundw
                      case rel => exact ⟨k + 1, O7, S7, forg sq l, n', m, R, by omega, by go_num, by omega, HRX.out.below (SBel.call (a := w9) hs10 hs9), by omega⟩
                      case measure => simp [intOf]; omega
                    · obtain rfl : T = R.length - p := by have := HTm.out; omega
                      have u1 : ((R.length - p : Nat) : Int) < (3 : Int) := by omega
                      have u2 : ((R.length - p : Nat) : Int) ≤ (c2' : Int) := by omega
                      clear HTm hGl hG' hp hmR' hn'm hn'1' hR0 hpR hgc hc9 h3
                      go_wp2_with (first | (go_at_call 15; refine (hFx _ hs9).mono ?_; rintro e w10 ⟨rfl, rfl⟩) | (go_at_call 19; (first | (with_reducible refine (hSR1 _ _ (by assumption)).mono ?_) | (with_reducible refine (hSR2 _ (by assumption)).mono ?_)); rintro e w10 ⟨rfl, hb10⟩; have hs10 : SBel w9 w10 := SBel.call hb10 (by assumption)))
                      go_wp2
                      go_roundw
                      case rel => exact ⟨k + 1, O7, S7, forg sq l, n', m, R, by omega, by go_num, by omega, HRX.out.below (SBel.call (a := w9) hs10 hs9), by omega⟩
                      case measure => simp [intOf]; omega
            · have c1 : (fs.length : Int) ≤ (k : Int) := by omega
              clear hR
              go_wp2
              go_roundw
              case rel => exact ⟨k + 1, O, S, l, n, m, R, by omega, by go_num, by omega, HR.out, by omega⟩
              case measure => simp [intOf]; omega
      · have hbe := hR.sn.base
        have i2 : (k : Int) < (gs.length : Int) := by omega
        have i3 : ¬ (k : Int) < 10 := by omega
        go_wp2
        go_ret
        exact ⟨rfl, hbe⟩
    · have hbe := hR.sn.base
      have i2 : ¬ (k : Int) < (gs.length : Int) := by omega
      go_wp2
      go_ret
      exact ⟨rfl, hbe⟩

end Go.Proofs.YtdlicndbdnfekaaGreatDoor.Wl
