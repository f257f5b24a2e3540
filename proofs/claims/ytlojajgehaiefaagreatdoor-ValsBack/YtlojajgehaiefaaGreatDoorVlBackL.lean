/- ValsBack: for all arguments that can be read the law returns true, and all read as they did. -/
import Derived.Test.YtlojajgehaiefaaGreatDoorVlBackP
import Derived.Test.YtlojajgehaiefaaGreatDoorGArgs
import Derived.Test.YtlojajgehaiefaaGreatDoorGAmong
import Derived.Deep.CutRange
import Derived.Deep.CutBlock
namespace Go.Proofs.YtlojajgehaiefaaGreatDoor.Vl
open Go.RowKit Go.Joins
open Go.Proofs.YtlojajgehaiefaaGreatDoor.Dk (Bs Fil Fls St St.Ok Held Only Rising)

/-- a text's cell, in worlds that come behind -/
theorem text_cellB {w : World} {a : Option Addr} {cap : Nat} {ts : List ByteArray} (h : Gk.TextsAt w a cap ts) (k : Nat) (hk : k < ts.length) : ∃ b off, a = some ⟨b, off, none⟩ ∧ b < w.heap.size ∧ ∀ W, Below w.heap.size w W → W.cell? ⟨b, off + k, none⟩ = some (.string ts[k]) := by
  obtain ⟨b, off, rfl, hlt, hc⟩ := h.lies.at Gk.tenc_len k hk
  refine ⟨b, off, rfl, hlt, fun W hb => ?_⟩
  obtain ⟨b', off', e, _, hc'⟩ := (h.lies.below hb).at Gk.tenc_len k hk
  cases e
  have := hc' 0 _ rfl
  rwa [Nat.mul_one, Nat.add_zero] at this
/-- what the law's first loop keeps -/
def LpB (w1 wc : World) (bd bv mm : Nat) (vA vB : Value) (ps : List (Nat × Nat × Nat)) (ts : List ByteArray) : Prop := ∃ (own : Nat → Prop) (top : Nat) (S : St), Rws w1 wc own bd bv mm top S vA vB ps ts ∧ Vs S top 1008 ps.length ∧ Cln S ∧ Sf S ps ts 0 ∧ cnt S = ps.length

set_option maxRecDepth 100000 in
set_option maxHeartbeats 12800000 in
theorem back_law (mo : Int) (a : Option Addr) (cap : Nat) (ls : List ByteArray) (w : World) (hmo : (Lit.int .i64 mo).wf = true) (hL : Gk.TextsAt w a cap ls) (hE : Env w) :
    Calls Tryz.prog 4 #[.int .i64 mo, .slice a ls.length cap] w fun e w' => e = .returned (.bool true) ∧ Below w.heap.size w w' := by
  have hN := Dk.new_ok 262144 w (by omega)
  obtain ⟨m0, m1⟩ : -9223372036854775808 ≤ mo ∧ mo ≤ 9223372036854775807 := bounds_i64 hmo
  have hAm := fun W => Gk.among_any mo 200 W (by omega) (by omega) m0 m1
  obtain ⟨M, hM⟩ : ∃ M : Nat, (M : Int) = mo % 200 := ⟨(mo % 200).toNat, by omega⟩
  have hMb : M < 200 := by omega
  simp only [← hM] at hAm
  clear hM hmo m0 m1
  have hll : ls.length ≤ 9223372036854775807 := by have := hL.room; have := hL.max; omega
  obtain ⟨mm, hmm⟩ : ∃ mm : Nat, mm = M + 1 := ⟨_, rfl⟩
  have hmc : (1 : Int) + (M : Int) = (mm : Int) := by omega
  have hm1 : 1 ≤ mm := by omega
  have hm2 : mm ≤ 65536 := by omega
  clear hmm
  go_enter Tryz.func4, Tryz.ntmps4
  go_wp2_with fail
  refine hN.mono ?_
  rintro e w2 ⟨bd, rfl, hH2, hb2⟩
  have hWk := works_any w2 (hE.below hb2)
  clear hN
  go_wp2_with fail
  refine hWk.mono ?_
  rintro e w3 ⟨rfl, hb3⟩
  have hO := new_open (most := mm) (c := 1008) hE hH2 hb2 hm1 hm2 (by omega) hb3
  clear hWk
  go_wp2_with (first | (go_at_call 14; refine (hAm _).mono ?_; rintro e w3' ⟨rfl, rfl⟩))
  refine hO.mono ?_
  rintro e w4 ⟨bv, own4, S4, rfl, hV4, hs4, hc4, hn4⟩
  have HV4 := hide hV4
  have HS4 := hide (And.intro hs4 (And.intro hc4 (show cnt S4 = 0 by unfold cnt; rw [hn4]; rfl)))
  clear hO hAm hE hb2 hb3 hH2 hV4 hs4 hc4 hn4 hmc hMb
  go_upto_block 0 with fail
  go_cut [8, 9, 10, 11, 12, 14] from 57 to 104 (fun vA vB _ _ _ _ wc => ∃ (ps : List (Nat × Nat × Nat)) (ts : List ByteArray), ps.length ≤ 50 ∧ LpB w wc bd bv mm vA vB ps ts)
  case first =>
    go_wp2
    go_loopw [8, 9, 10, 11, 12, 14] (fun vA vB iv _ _ _ wr => ∃ (k : Nat) (ps : List (Nat × Nat × Nat)) (ts : List ByteArray), k ≤ ls.length ∧ k ≤ 50 ∧ ps.length ≤ k ∧ iv = .int .i64 k ∧ LpB w wr bd bv mm vA vB ps ts) (fun _ _ iv _ _ _ _ => ls.length - (intOf iv).toNat)
    case atStart => exact ⟨0, [], [], by omega, by omega, Nat.le_refl _, rfl, own4, 0, S4, ⟨HV4.out, World.ownsRow_nil _ _ _ _, World.ownsRow_nil _ _ _ _, by simp [Value.ownBlock], by simp [Value.ownBlock]⟩, HS4.out.1, HS4.out.2.1, Sf.nil _, HS4.out.2.2⟩
    case round =>
      obtain ⟨k, ps, ts, hk, hk50, hpk, rfl, own, top, S, hR, hs, hc, hf, hcn⟩ := hrel
      by_cases hin : k < ls.length ∧ k < 50
      · obtain ⟨hkl, hk2⟩ := hin
        obtain ⟨tb, toff, rfl, htb, htc⟩ := text_cellB hL k hkl
        have t0 := htc wr hR.vh.base
        generalize ls[k] = t at *
        have i1 : (0 : Int) ≤ (k : Int) := by omega
        have i2 : (k : Int) < (ls.length : Int) := by omega
        have i3 : (k : Int) < 50 := by omega
        by_cases hlong : t.size ≤ 1000
        · have hl' : ¬ (1000 : Int) < (t.size : Int) := by omega
          have hP := hR.vh.put hs (by omega) (by omega) t (by omega)
          have HR := hide hR
          have HSC := hide (And.intro hs (And.intro hc (And.intro hf hcn)))
          clear hR hs hc hf hcn
          go_wp2_with fail
          refine hP.mono ?_
          rintro e w5 ⟨n, own5, rfl, hn1, hn2, hn3, hV5, hs5, hst5, -⟩
          have hR5 := HR.out.step hV5 hst5
          have hf5 := HSC.out.2.2.1.put HR.out.vh.ok.rising HSC.out.2.1 hn1 (by have := HSC.out.1.topk; omega) (show t.size ≤ 65536 by omega)
          have hc5 := HSC.out.2.1.put (n := n) (s := t) HR.out.vh.ok.rising (show t.size ≤ 65536 by omega)
          have hcn5 := cnt_put HSC.out.2.1 HR.out.vh.ok.rising (show t.size ≤ 65536 by omega) hn1 (by have := HSC.out.1.topk; omega) HSC.out.1.tops hn3
          have HDI : Hid (∀ j (h : j < ps.length), ps[j].1 = n → ps[j].2.1 ≠ (dat S n).length) := fun j h e => (HSC.out.2.2.1.ins j h (by have := HSC.out.2.2.1.len; omega)).other e
          generalize (dat S n).length = q at *
          generalize putS S n t = S5 at *
          have HF5 := hide (And.intro hs5 (And.intro hc5 (And.intro hf5 hcn5)))
          obtain ⟨w6, hw6⟩ : ∃ w6, w6 = w5.alloc (.cells #[.int .i64 n, .int .i64 q, .int .i64 t.size] PlT) := ⟨_, rfl⟩
          have hb6 : Below w5.heap.size w5 w6 := by rw [hw6]; exact below_alloc1 _ _
          have hpb : w6.heap[w5.heap.size]? = some (.cells #[.int .i64 n, .int .i64 q, .int .i64 t.size] PlT (0, 0)) := by rw [hw6]; exact heap_alloc_new _ _
          have hR6 := hR5.below hb6
          obtain ⟨aA, cA, rfl⟩ := Gk.own_slice hR6.rA
          obtain ⟨aB, cB, rfl⟩ := Gk.own_slice hR6.rB
          have HR6 := hide hR6
          have HPB := hide hpb
          have HZ5 : Hid (w.heap.size ≤ w5.heap.size) := hR5.vh.base.size
          have HNP : Hid ((∀ g, (Value.slice aA ps.length cA).ownBlock = some g → g ≠ w5.heap.size) ∧ (∀ g, (Value.slice aB ts.length cB).ownBlock = some g → g ≠ w5.heap.size)) := ⟨fun g hg => by have := (hR5.rA.lt g hg).2; omega, fun g hg => by have := (hR5.rB.lt g hg).2; omega⟩
          clear hP hV5 hst5 hs5 hc5 hf5 hcn5 t0 hR5 hR6 hpb hn3
          go_upto_block 2 with fail
          rw [← hw6]
          go_cut [14] from 86 to 93 (fun _ wc => Below w6.heap.size w6 wc)
          case first =>
            clear hw6
            go_wp2
            go_loopw [14, 86] (fun _ jv wr => ∃ j : Nat, j ≤ ps.length ∧ jv = .int .i64 j ∧ Below w6.heap.size w6 wr) (fun _ jv _ => ps.length - (intOf jv).toNat)
            case atStart => exact ⟨0, by omega, rfl, Below.refl _ _⟩
            case round =>
              obtain ⟨j, hj, rfl, hbj⟩ := hrel
              by_cases hjl : j < ps.length
              · have hRj := HR6.out.below hbj
                obtain ⟨gA, offA, rfl, hgl, hcA⟩ := (Gk.Row.lies (k := 3) (e := PlT) (n := ps.length) (cap := cA) (Gk.own_mono hRj.rA (Nat.zero_le _))).at plE_len j hjl
                have p0 := hcA 0 _ rfl
                have p1 := hcA 1 _ rfl
                have p2 := hcA 2 _ rfl
                rw [Nat.add_zero] at p0
                have hdi := HDI.out j hjl
                have hpbj := keepBlk hbj HPB.out
                have x0 : wr.cell? ⟨w5.heap.size, 0, none⟩ = some (.int .i64 n) := cell_of_block hpbj 0
                have x1 : wr.cell? ⟨w5.heap.size, 1, none⟩ = some (.int .i64 q) := cell_of_block hpbj 1
                have x2 : wr.cell? ⟨w5.heap.size, 2, none⟩ = some (.int .i64 t.size) := cell_of_block hpbj 2
                have l5 : w5.heap.size < wr.heap.size := (Array.getElem?_eq_some_iff.1 hpbj).1
                have n5 : ¬ w5.heap.size = wr.heap.size := by omega
                have i4 : (0 : Int) ≤ (j : Int) := by omega
                have i5 : (j : Int) < (ps.length : Int) := by omega
                generalize ps[j] = pj at *
                obtain ⟨jf, ja, jl⟩ := pj
                simp only at p0 p1 p2 hdi
                have HBJ := hide hbj
                clear hcA hRj hpbj hbj
                by_cases hne : jf = n
                · subst hne
                  have z1 : ((q : Int) == (ja : Int)) = false := by rw [beq_eq_false_iff_ne]; have := hdi rfl; omega
                  clear hdi
                  go_wp2
                  go_roundw
                  case rel => exact ⟨j + 1, by omega, by go_num, HBJ.out.trans ((below_alloc1 _ _).mono HBJ.out.size)⟩
                  case measure => simp [intOf]; omega
                · have z1 : ((n : Int) == (jf : Int)) = false := by rw [beq_eq_false_iff_ne]; omega
                  clear hdi
                  go_wp2
                  go_roundw
                  case rel => exact ⟨j + 1, by omega, by go_num, HBJ.out.trans ((below_alloc1 _ _).mono HBJ.out.size)⟩
                  case measure => simp [intOf]; omega
              · obtain rfl : j = ps.length := by omega
                go_wp2
                go_meet
                case rel => exact hbj
          case rest =>
            have hbc := hcut
            have hR7 := HR6.out.below hbc
            have hpb7 := keepBlk hbc HPB.out
            have hTS : TS w own5 bd bv mm (max top n) S5 (Value.slice aA ps.length cA) (Value.slice aB ts.length cB) ps ts w5.heap.size (n, q, t.size) tb (toff + k) t wc := ⟨⟨cell_of_block hpb7 0, cell_of_block hpb7 1, cell_of_block hpb7 2, htc wc hR7.vh.base⟩, hR7, (Array.getElem?_eq_some_iff.1 hpb7).1, htb, HZ5.out, HNP.out.1, HNP.out.2⟩
            have HNE : Hid (∀ g, (Value.slice aA ps.length cA).ownBlock = some g → (Value.slice aB ts.length cB).ownBlock ≠ some g) := fun g hg => hR7.ne hg
            have HNE2 : Hid (∀ g, (Value.slice aB ts.length cB).ownBlock = some g → (Value.slice aA ps.length cA).ownBlock ≠ some g) := fun g hg e => hR7.ne e hg
            have HUA : Hid (∀ g, (Value.slice aA ps.length cA).ownBlock = some g → g < wc.heap.size) := fun g hg => (hR7.rA.lt g hg).2
            have HUB : Hid (∀ g, (Value.slice aB ts.length cB).ownBlock = some g → g < wc.heap.size) := fun g hg => (hR7.rB.lt g hg).2
            have hpl40 : ps.length ≤ 50 := by omega
            have htl40 : ts.length ≤ 50 := by have := HSC.out.2.2.1.len; omega
            have HR7 := hide hR7
            have c0 := hTS.1.1
            have c1 := hTS.1.2.1
            have c2 := hTS.1.2.2.1
            have c3 := hTS.1.2.2.2
            clear hpb7 hR7 hbc hcut hw6 hb6
            go_wp2
            have HTA : ∀ W, TS w own5 bd bv mm (max top n) S5 (Value.slice aA ps.length cA) (Value.slice aB ts.length cB) ps ts w5.heap.size (n, q, t.size) tb (toff + k) t W → W.ownsRow w.heap.size PlT 3 (Value.slice aA ps.length cA) ps.length (Gk.rc plE ps) := fun W h => h.2.out.1.rA
            have HTB : ∀ W, TS w own5 bd bv mm (max top n) S5 (Value.slice aA ps.length cA) (Value.slice aB ts.length cB) ps ts w5.heap.size (n, q, t.size) tb (toff + k) t W → W.ownsRow w.heap.size StrT 1 (Value.slice aB ts.length cB) ts.length (Gk.rc sE ts) := fun W h => h.2.out.1.rB
            have HTZ : ∀ W, TS w own5 bd bv mm (max top n) S5 (Value.slice aA ps.length cA) (Value.slice aB ts.length cB) ps ts w5.heap.size (n, q, t.size) tb (toff + k) t W → w.heap.size ≤ W.heap.size := fun W h => h.2.out.1.vh.base.size
            go_region_held3 (TS w own5 bd bv mm (max top n) S5 (Value.slice aA ps.length cA) (Value.slice aB ts.length cB) ps ts w5.heap.size (n, q, t.size) tb (toff + k) t) (first | with_reducible exact TS.drew (by assumption) | with_reducible exact TS.alloc (by assumption) _ | with_reducible assumption | with_reducible exact TS.drew (TS.alloc hTS _) | with_reducible exact TS.drew (TS.alloc (TS.alloc hTS _) _) | with_reducible exact TS.keepA (by assumption) (by assumption) (by assumption) | with_reducible exact TS.keepB (by assumption) (by assumption) (by assumption) | fail)
              (first | (refine Gk.step_append_keep (enc := plE) ?_ (.tmp 94) (.tmp 96) 47 ?_ PlT (.agg #[.int .i64 0, .int .i64 0, .int .i64 0]) 24 Tryz.underlying47 pl_info rfl ?_ plE_len plE_one w.heap.size (Value.slice aA ps.length cA) ps ?_ ?_ (wc.heap.size) 0 [(n, q, t.size)] 1 1 ?_ rfl ?_ ?_ ?_ ?_ ?_; rfl; rfl; decide; rfl; exact HTA _ (by assumption); rfl; exact (cellsA (p := (n, q, t.size)) (heap_alloc_new _ _)); (show (ps.length + 1) * 24 ≤ _; omega); (show ps.length + 1 ≤ _; omega); exact HTZ _ (by assumption); intro adA capA wA hrowA hgA hkeepA hatA; have HNA2 : Hid (∀ g, (Value.slice adA (ps.length + [(n, q, t.size)].length) capA).ownBlock = some g → ((Value.slice aB ts.length cB)).ownBlock ≠ some g) := neNew hatA HNE.out HUB.out (by first | (simp; done) | (simp; omega) | (have := HSB.out; simp; omega)); have HGA : Hid (∀ g, (Value.slice adA (ps.length + [(n, q, t.size)].length) capA).ownBlock = some g → ((Value.slice aA ps.length cA)).ownBlock = some g ∨ wc.heap.size ≤ g) := fun g hg => (hatA g hg).imp id fun h => Nat.le_trans (by first | (simp; done) | (simp; omega) | (have := HSB.out; simp; omega)) h; have HSA : Hid (wc.heap.size ≤ wA.heap.size) := Nat.le_trans (by first | (simp; done) | (simp; omega) | (have := HSB.out; simp; omega)) hgA.size; (first | (have HKB : Hid (wA.heap[wc.heap.size]? = some (.cells #[.string t] StrT (0, 0))) := keepGr hgA (heap_alloc_new _ _) HUA.out (by first | (simp; done) | (simp; omega))) | (have HKB : Hid (wA.heap[wc.heap.size + 1]? = some (.cells #[.string t] StrT (0, 0))) := keepGr hgA (heap_alloc_two _ _ _) HUA.out (by first | (simp; done) | (simp; omega))) | (have HKB : Hid (wA.heap[wc.heap.size]? = some (.cells #[.string t] StrT (0, 0))) := keepGr hgA (keepBlk (below_alloc1 _ _) (heap_alloc_new _ _)) HUA.out (by first | (simp; done) | (simp; omega))) | (have HKB : Hid (wA.heap[wc.heap.size]? = some (.cells #[.string t] StrT (0, 0))) := keepGr hgA (keepBlk (below_alloc1 _ _).drew (heap_alloc_new _ _)) HUA.out (by first | (simp; done) | (simp; omega))) | skip); (first | (have HB2 : Hid (wA.ownsRow w.heap.size StrT 1 (.slice adB (ts.length + [t].length) capB) (ts ++ [t]).length (Gk.rc sE (ts ++ [t]))) := rowKeep hrowB hgA HNB2.out) | (have HB2 : Hid (wA.ownsRow w.heap.size StrT 1 (.slice adB (ts.length + [t].length) capB) (ts ++ [t]).length (Gk.rc sE (ts ++ [t]))) := rowKeep (Gk.own_below hrowB (below_alloc1 _ _)) hgA HNB2.out) | skip)) | (refine Gk.step_append_keep (enc := plE) ?_ (.tmp 94) (.tmp 96) 47 ?_ PlT (.agg #[.int .i64 0, .int .i64 0, .int .i64 0]) 24 Tryz.underlying47 pl_info rfl ?_ plE_len plE_one w.heap.size (Value.slice aA ps.length cA) ps ?_ ?_ (wc.heap.size) 0 [(n, q, t.size)] 1 1 ?_ rfl ?_ ?_ ?_ ?_ ?_; rfl; rfl; decide; rfl; exact HTA _ (by assumption); rfl; exact (cellsA (p := (n, q, t.size)) (keepBlk (below_alloc1 _ _).drew (heap_alloc_new _ _))); (show (ps.length + 1) * 24 ≤ _; omega); (show ps.length + 1 ≤ _; omega); exact HTZ _ (by assumption); intro adA capA wA hrowA hgA hkeepA hatA; have HNA2 : Hid (∀ g, (Value.slice adA (ps.length + [(n, q, t.size)].length) capA).ownBlock = some g → ((Value.slice aB ts.length cB)).ownBlock ≠ some g) := neNew hatA HNE.out HUB.out (by first | (simp; done) | (simp; omega) | (have := HSB.out; simp; omega)); have HGA : Hid (∀ g, (Value.slice adA (ps.length + [(n, q, t.size)].length) capA).ownBlock = some g → ((Value.slice aA ps.length cA)).ownBlock = some g ∨ wc.heap.size ≤ g) := fun g hg => (hatA g hg).imp id fun h => Nat.le_trans (by first | (simp; done) | (simp; omega) | (have := HSB.out; simp; omega)) h; have HSA : Hid (wc.heap.size ≤ wA.heap.size) := Nat.le_trans (by first | (simp; done) | (simp; omega) | (have := HSB.out; simp; omega)) hgA.size; (first | (have HKB : Hid (wA.heap[wc.heap.size]? = some (.cells #[.string t] StrT (0, 0))) := keepGr hgA (heap_alloc_new _ _) HUA.out (by first | (simp; done) | (simp; omega))) | (have HKB : Hid (wA.heap[wc.heap.size + 1]? = some (.cells #[.string t] StrT (0, 0))) := keepGr hgA (heap_alloc_two _ _ _) HUA.out (by first | (simp; done) | (simp; omega))) | (have HKB : Hid (wA.heap[wc.heap.size]? = some (.cells #[.string t] StrT (0, 0))) := keepGr hgA (keepBlk (below_alloc1 _ _) (heap_alloc_new _ _)) HUA.out (by first | (simp; done) | (simp; omega))) | (have HKB : Hid (wA.heap[wc.heap.size]? = some (.cells #[.string t] StrT (0, 0))) := keepGr hgA (keepBlk (below_alloc1 _ _).drew (heap_alloc_new _ _)) HUA.out (by first | (simp; done) | (simp; omega))) | skip); (first | (have HB2 : Hid (wA.ownsRow w.heap.size StrT 1 (.slice adB (ts.length + [t].length) capB) (ts ++ [t]).length (Gk.rc sE (ts ++ [t]))) := rowKeep hrowB hgA HNB2.out) | (have HB2 : Hid (wA.ownsRow w.heap.size StrT 1 (.slice adB (ts.length + [t].length) capB) (ts ++ [t]).length (Gk.rc sE (ts ++ [t]))) := rowKeep (Gk.own_below hrowB (below_alloc1 _ _)) hgA HNB2.out) | skip)) | (refine Gk.step_append_keep (enc := plE) ?_ (.tmp 94) (.tmp 96) 47 ?_ PlT (.agg #[.int .i64 0, .int .i64 0, .int .i64 0]) 24 Tryz.underlying47 pl_info rfl ?_ plE_len plE_one w.heap.size (Value.slice aA ps.length cA) ps ?_ ?_ (wc.heap.size) 0 [(n, q, t.size)] 1 1 ?_ rfl ?_ ?_ ?_ ?_ ?_; rfl; rfl; decide; rfl; exact HTA _ (by assumption); rfl; exact (cellsA (p := (n, q, t.size)) HKA.out); (show (ps.length + 1) * 24 ≤ _; omega); (show ps.length + 1 ≤ _; omega); exact HTZ _ (by assumption); intro adA capA wA hrowA hgA hkeepA hatA; have HNA2 : Hid (∀ g, (Value.slice adA (ps.length + [(n, q, t.size)].length) capA).ownBlock = some g → ((Value.slice aB ts.length cB)).ownBlock ≠ some g) := neNew hatA HNE.out HUB.out (by first | (simp; done) | (simp; omega) | (have := HSB.out; simp; omega)); have HGA : Hid (∀ g, (Value.slice adA (ps.length + [(n, q, t.size)].length) capA).ownBlock = some g → ((Value.slice aA ps.length cA)).ownBlock = some g ∨ wc.heap.size ≤ g) := fun g hg => (hatA g hg).imp id fun h => Nat.le_trans (by first | (simp; done) | (simp; omega) | (have := HSB.out; simp; omega)) h; have HSA : Hid (wc.heap.size ≤ wA.heap.size) := Nat.le_trans (by first | (simp; done) | (simp; omega) | (have := HSB.out; simp; omega)) hgA.size; (first | (have HKB : Hid (wA.heap[wc.heap.size]? = some (.cells #[.string t] StrT (0, 0))) := keepGr hgA (heap_alloc_new _ _) HUA.out (by first | (simp; done) | (simp; omega))) | (have HKB : Hid (wA.heap[wc.heap.size + 1]? = some (.cells #[.string t] StrT (0, 0))) := keepGr hgA (heap_alloc_two _ _ _) HUA.out (by first | (simp; done) | (simp; omega))) | (have HKB : Hid (wA.heap[wc.heap.size]? = some (.cells #[.string t] StrT (0, 0))) := keepGr hgA (keepBlk (below_alloc1 _ _) (heap_alloc_new _ _)) HUA.out (by first | (simp; done) | (simp; omega))) | (have HKB : Hid (wA.heap[wc.heap.size]? = some (.cells #[.string t] StrT (0, 0))) := keepGr hgA (keepBlk (below_alloc1 _ _).drew (heap_alloc_new _ _)) HUA.out (by first | (simp; done) | (simp; omega))) | skip); (first | (have HB2 : Hid (wA.ownsRow w.heap.size StrT 1 (.slice adB (ts.length + [t].length) capB) (ts ++ [t]).length (Gk.rc sE (ts ++ [t]))) := rowKeep hrowB hgA HNB2.out) | (have HB2 : Hid (wA.ownsRow w.heap.size StrT 1 (.slice adB (ts.length + [t].length) capB) (ts ++ [t]).length (Gk.rc sE (ts ++ [t]))) := rowKeep (Gk.own_below hrowB (below_alloc1 _ _)) hgA HNB2.out) | skip)) | (refine Gk.step_append_keep (enc := plE) ?_ (.tmp 94) (.tmp 96) 47 ?_ PlT (.agg #[.int .i64 0, .int .i64 0, .int .i64 0]) 24 Tryz.underlying47 pl_info rfl ?_ plE_len plE_one w.heap.size (Value.slice aA ps.length cA) ps ?_ ?_ (wc.heap.size + 1) 0 [(n, q, t.size)] 1 1 ?_ rfl ?_ ?_ ?_ ?_ ?_; rfl; rfl; decide; rfl; exact HTA _ (by assumption); rfl; exact (cellsA (p := (n, q, t.size)) (heap_alloc_two _ _ _)); (show (ps.length + 1) * 24 ≤ _; omega); (show ps.length + 1 ≤ _; omega); exact HTZ _ (by assumption); intro adA capA wA hrowA hgA hkeepA hatA; have HNA2 : Hid (∀ g, (Value.slice adA (ps.length + [(n, q, t.size)].length) capA).ownBlock = some g → ((Value.slice aB ts.length cB)).ownBlock ≠ some g) := neNew hatA HNE.out HUB.out (by first | (simp; done) | (simp; omega) | (have := HSB.out; simp; omega)); have HGA : Hid (∀ g, (Value.slice adA (ps.length + [(n, q, t.size)].length) capA).ownBlock = some g → ((Value.slice aA ps.length cA)).ownBlock = some g ∨ wc.heap.size ≤ g) := fun g hg => (hatA g hg).imp id fun h => Nat.le_trans (by first | (simp; done) | (simp; omega) | (have := HSB.out; simp; omega)) h; have HSA : Hid (wc.heap.size ≤ wA.heap.size) := Nat.le_trans (by first | (simp; done) | (simp; omega) | (have := HSB.out; simp; omega)) hgA.size; (first | (have HKB : Hid (wA.heap[wc.heap.size]? = some (.cells #[.string t] StrT (0, 0))) := keepGr hgA (heap_alloc_new _ _) HUA.out (by first | (simp; done) | (simp; omega))) | (have HKB : Hid (wA.heap[wc.heap.size + 1]? = some (.cells #[.string t] StrT (0, 0))) := keepGr hgA (heap_alloc_two _ _ _) HUA.out (by first | (simp; done) | (simp; omega))) | (have HKB : Hid (wA.heap[wc.heap.size]? = some (.cells #[.string t] StrT (0, 0))) := keepGr hgA (keepBlk (below_alloc1 _ _) (heap_alloc_new _ _)) HUA.out (by first | (simp; done) | (simp; omega))) | (have HKB : Hid (wA.heap[wc.heap.size]? = some (.cells #[.string t] StrT (0, 0))) := keepGr hgA (keepBlk (below_alloc1 _ _).drew (heap_alloc_new _ _)) HUA.out (by first | (simp; done) | (simp; omega))) | skip); (first | (have HB2 : Hid (wA.ownsRow w.heap.size StrT 1 (.slice adB (ts.length + [t].length) capB) (ts ++ [t]).length (Gk.rc sE (ts ++ [t]))) := rowKeep hrowB hgA HNB2.out) | (have HB2 : Hid (wA.ownsRow w.heap.size StrT 1 (.slice adB (ts.length + [t].length) capB) (ts ++ [t]).length (Gk.rc sE (ts ++ [t]))) := rowKeep (Gk.own_below hrowB (below_alloc1 _ _)) hgA HNB2.out) | skip)) | (refine Gk.step_append_keep (enc := plE) ?_ (.tmp 94) (.tmp 96) 47 ?_ PlT (.agg #[.int .i64 0, .int .i64 0, .int .i64 0]) 24 Tryz.underlying47 pl_info rfl ?_ plE_len plE_one w.heap.size (Value.slice aA ps.length cA) ps ?_ ?_ (wc.heap.size + 1) 0 [(n, q, t.size)] 1 1 ?_ rfl ?_ ?_ ?_ ?_ ?_; rfl; rfl; decide; rfl; exact HTA _ (by assumption); rfl; exact (cellsA (p := (n, q, t.size)) HKA.out); (show (ps.length + 1) * 24 ≤ _; omega); (show ps.length + 1 ≤ _; omega); exact HTZ _ (by assumption); intro adA capA wA hrowA hgA hkeepA hatA; have HNA2 : Hid (∀ g, (Value.slice adA (ps.length + [(n, q, t.size)].length) capA).ownBlock = some g → ((Value.slice aB ts.length cB)).ownBlock ≠ some g) := neNew hatA HNE.out HUB.out (by first | (simp; done) | (simp; omega) | (have := HSB.out; simp; omega)); have HGA : Hid (∀ g, (Value.slice adA (ps.length + [(n, q, t.size)].length) capA).ownBlock = some g → ((Value.slice aA ps.length cA)).ownBlock = some g ∨ wc.heap.size ≤ g) := fun g hg => (hatA g hg).imp id fun h => Nat.le_trans (by first | (simp; done) | (simp; omega) | (have := HSB.out; simp; omega)) h; have HSA : Hid (wc.heap.size ≤ wA.heap.size) := Nat.le_trans (by first | (simp; done) | (simp; omega) | (have := HSB.out; simp; omega)) hgA.size; (first | (have HKB : Hid (wA.heap[wc.heap.size]? = some (.cells #[.string t] StrT (0, 0))) := keepGr hgA (heap_alloc_new _ _) HUA.out (by first | (simp; done) | (simp; omega))) | (have HKB : Hid (wA.heap[wc.heap.size + 1]? = some (.cells #[.string t] StrT (0, 0))) := keepGr hgA (heap_alloc_two _ _ _) HUA.out (by first | (simp; done) | (simp; omega))) | (have HKB : Hid (wA.heap[wc.heap.size]? = some (.cells #[.string t] StrT (0, 0))) := keepGr hgA (keepBlk (below_alloc1 _ _) (heap_alloc_new _ _)) HUA.out (by first | (simp; done) | (simp; omega))) | (have HKB : Hid (wA.heap[wc.heap.size]? = some (.cells #[.string t] StrT (0, 0))) := keepGr hgA (keepBlk (below_alloc1 _ _).drew (heap_alloc_new _ _)) HUA.out (by first | (simp; done) | (simp; omega))) | skip); (first | (have HB2 : Hid (wA.ownsRow w.heap.size StrT 1 (.slice adB (ts.length + [t].length) capB) (ts ++ [t]).length (Gk.rc sE (ts ++ [t]))) := rowKeep hrowB hgA HNB2.out) | (have HB2 : Hid (wA.ownsRow w.heap.size StrT 1 (.slice adB (ts.length + [t].length) capB) (ts ++ [t]).length (Gk.rc sE (ts ++ [t]))) := rowKeep (Gk.own_below hrowB (below_alloc1 _ _)) hgA HNB2.out) | skip)) | (refine Gk.step_append_keep (enc := plE) ?_ (.tmp 94) (.tmp 96) 47 ?_ PlT (.agg #[.int .i64 0, .int .i64 0, .int .i64 0]) 24 Tryz.underlying47 pl_info rfl ?_ plE_len plE_one w.heap.size (Value.slice aA ps.length cA) ps ?_ ?_ (wB.heap.size) 0 [(n, q, t.size)] 1 1 ?_ rfl ?_ ?_ ?_ ?_ ?_; rfl; rfl; decide; rfl; exact HTA _ (by assumption); rfl; exact (cellsA (p := (n, q, t.size)) (heap_alloc_new _ _)); (show (ps.length + 1) * 24 ≤ _; omega); (show ps.length + 1 ≤ _; omega); exact HTZ _ (by assumption); intro adA capA wA hrowA hgA hkeepA hatA; have HNA2 : Hid (∀ g, (Value.slice adA (ps.length + [(n, q, t.size)].length) capA).ownBlock = some g → ((Value.slice aB ts.length cB)).ownBlock ≠ some g) := neNew hatA HNE.out HUB.out (by first | (simp; done) | (simp; omega) | (have := HSB.out; simp; omega)); have HGA : Hid (∀ g, (Value.slice adA (ps.length + [(n, q, t.size)].length) capA).ownBlock = some g → ((Value.slice aA ps.length cA)).ownBlock = some g ∨ wc.heap.size ≤ g) := fun g hg => (hatA g hg).imp id fun h => Nat.le_trans (by first | (simp; done) | (simp; omega) | (have := HSB.out; simp; omega)) h; have HSA : Hid (wc.heap.size ≤ wA.heap.size) := Nat.le_trans (by first | (simp; done) | (simp; omega) | (have := HSB.out; simp; omega)) hgA.size; (first | (have HKB : Hid (wA.heap[wc.heap.size]? = some (.cells #[.string t] StrT (0, 0))) := keepGr hgA (heap_alloc_new _ _) HUA.out (by first | (simp; done) | (simp; omega))) | (have HKB : Hid (wA.heap[wc.heap.size + 1]? = some (.cells #[.string t] StrT (0, 0))) := keepGr hgA (heap_alloc_two _ _ _) HUA.out (by first | (simp; done) | (simp; omega))) | (have HKB : Hid (wA.heap[wc.heap.size]? = some (.cells #[.string t] StrT (0, 0))) := keepGr hgA (keepBlk (below_alloc1 _ _) (heap_alloc_new _ _)) HUA.out (by first | (simp; done) | (simp; omega))) | (have HKB : Hid (wA.heap[wc.heap.size]? = some (.cells #[.string t] StrT (0, 0))) := keepGr hgA (keepBlk (below_alloc1 _ _).drew (heap_alloc_new _ _)) HUA.out (by first | (simp; done) | (simp; omega))) | skip); (first | (have HB2 : Hid (wA.ownsRow w.heap.size StrT 1 (.slice adB (ts.length + [t].length) capB) (ts ++ [t]).length (Gk.rc sE (ts ++ [t]))) := rowKeep hrowB hgA HNB2.out) | (have HB2 : Hid (wA.ownsRow w.heap.size StrT 1 (.slice adB (ts.length + [t].length) capB) (ts ++ [t]).length (Gk.rc sE (ts ++ [t]))) := rowKeep (Gk.own_below hrowB (below_alloc1 _ _)) hgA HNB2.out) | skip)) | (refine Gk.step_append_keep (enc := sE) ?_ (.tmp 98) (.tmp 103) 45 ?_ StrT (.string ⟨#[]⟩) 16 Tryz.underlying45 str_inf rfl ?_ sE_len sE_one w.heap.size (Value.slice aB ts.length cB) ts ?_ ?_ (wc.heap.size) 0 [t] 1 1 ?_ rfl ?_ ?_ ?_ ?_ ?_; rfl; rfl; decide; rfl; exact HTB _ (by assumption); rfl; exact (cellsB (heap_alloc_new _ _)); (show (ts.length + 1) * 16 ≤ _; omega); (show ts.length + 1 ≤ _; omega); exact HTZ _ (by assumption); intro adB capB wB hrowB hgB hkeepB hatB; have HNB2 : Hid (∀ g, (Value.slice adB (ts.length + [t].length) capB).ownBlock = some g → ((Value.slice aA ps.length cA)).ownBlock ≠ some g) := neNew hatB HNE2.out HUA.out (by first | (simp; done) | (simp; omega) | (have := HSA.out; simp; omega)); have HGB : Hid (∀ g, (Value.slice adB (ts.length + [t].length) capB).ownBlock = some g → ((Value.slice aB ts.length cB)).ownBlock = some g ∨ wc.heap.size ≤ g) := fun g hg => (hatB g hg).imp id fun h => Nat.le_trans (by first | (simp; done) | (simp; omega) | (have := HSA.out; simp; omega)) h; have HSB : Hid (wc.heap.size ≤ wB.heap.size) := Nat.le_trans (by first | (simp; done) | (simp; omega) | (have := HSA.out; simp; omega)) hgB.size; (first | (have HKA : Hid (wB.heap[wc.heap.size]? = some (.cells #[.int .i64 n, .int .i64 q, .int .i64 t.size] PlT (0, 0))) := keepGr hgB (heap_alloc_new _ _) HUB.out (by first | (simp; done) | (simp; omega))) | (have HKA : Hid (wB.heap[wc.heap.size + 1]? = some (.cells #[.int .i64 n, .int .i64 q, .int .i64 t.size] PlT (0, 0))) := keepGr hgB (heap_alloc_two _ _ _) HUB.out (by first | (simp; done) | (simp; omega))) | (have HKA : Hid (wB.heap[wc.heap.size]? = some (.cells #[.int .i64 n, .int .i64 q, .int .i64 t.size] PlT (0, 0))) := keepGr hgB (keepBlk (below_alloc1 _ _) (heap_alloc_new _ _)) HUB.out (by first | (simp; done) | (simp; omega))) | (have HKA : Hid (wB.heap[wc.heap.size]? = some (.cells #[.int .i64 n, .int .i64 q, .int .i64 t.size] PlT (0, 0))) := keepGr hgB (keepBlk (below_alloc1 _ _).drew (heap_alloc_new _ _)) HUB.out (by first | (simp; done) | (simp; omega))) | skip); (first | (have HA2 : Hid (wB.ownsRow w.heap.size PlT 3 (.slice adA (ps.length + [(n, q, t.size)].length) capA) (ps ++ [(n, q, t.size)]).length (Gk.rc plE (ps ++ [(n, q, t.size)]))) := rowKeep hrowA hgB HNA2.out) | (have HA2 : Hid (wB.ownsRow w.heap.size PlT 3 (.slice adA (ps.length + [(n, q, t.size)].length) capA) (ps ++ [(n, q, t.size)]).length (Gk.rc plE (ps ++ [(n, q, t.size)]))) := rowKeep (Gk.own_below hrowA (below_alloc1 _ _)) hgB HNA2.out) | skip)) | (refine Gk.step_append_keep (enc := sE) ?_ (.tmp 98) (.tmp 103) 45 ?_ StrT (.string ⟨#[]⟩) 16 Tryz.underlying45 str_inf rfl ?_ sE_len sE_one w.heap.size (Value.slice aB ts.length cB) ts ?_ ?_ (wc.heap.size) 0 [t] 1 1 ?_ rfl ?_ ?_ ?_ ?_ ?_; rfl; rfl; decide; rfl; exact HTB _ (by assumption); rfl; exact (cellsB (keepBlk (below_alloc1 _ _).drew (heap_alloc_new _ _))); (show (ts.length + 1) * 16 ≤ _; omega); (show ts.length + 1 ≤ _; omega); exact HTZ _ (by assumption); intro adB capB wB hrowB hgB hkeepB hatB; have HNB2 : Hid (∀ g, (Value.slice adB (ts.length + [t].length) capB).ownBlock = some g → ((Value.slice aA ps.length cA)).ownBlock ≠ some g) := neNew hatB HNE2.out HUA.out (by first | (simp; done) | (simp; omega) | (have := HSA.out; simp; omega)); have HGB : Hid (∀ g, (Value.slice adB (ts.length + [t].length) capB).ownBlock = some g → ((Value.slice aB ts.length cB)).ownBlock = some g ∨ wc.heap.size ≤ g) := fun g hg => (hatB g hg).imp id fun h => Nat.le_trans (by first | (simp; done) | (simp; omega) | (have := HSA.out; simp; omega)) h; have HSB : Hid (wc.heap.size ≤ wB.heap.size) := Nat.le_trans (by first | (simp; done) | (simp; omega) | (have := HSA.out; simp; omega)) hgB.size; (first | (have HKA : Hid (wB.heap[wc.heap.size]? = some (.cells #[.int .i64 n, .int .i64 q, .int .i64 t.size] PlT (0, 0))) := keepGr hgB (heap_alloc_new _ _) HUB.out (by first | (simp; done) | (simp; omega))) | (have HKA : Hid (wB.heap[wc.heap.size + 1]? = some (.cells #[.int .i64 n, .int .i64 q, .int .i64 t.size] PlT (0, 0))) := keepGr hgB (heap_alloc_two _ _ _) HUB.out (by first | (simp; done) | (simp; omega))) | (have HKA : Hid (wB.heap[wc.heap.size]? = some (.cells #[.int .i64 n, .int .i64 q, .int .i64 t.size] PlT (0, 0))) := keepGr hgB (keepBlk (below_alloc1 _ _) (heap_alloc_new _ _)) HUB.out (by first | (simp; done) | (simp; omega))) | (have HKA : Hid (wB.heap[wc.heap.size]? = some (.cells #[.int .i64 n, .int .i64 q, .int .i64 t.size] PlT (0, 0))) := keepGr hgB (keepBlk (below_alloc1 _ _).drew (heap_alloc_new _ _)) HUB.out (by first | (simp; done) | (simp; omega))) | skip); (first | (have HA2 : Hid (wB.ownsRow w.heap.size PlT 3 (.slice adA (ps.length + [(n, q, t.size)].length) capA) (ps ++ [(n, q, t.size)]).length (Gk.rc plE (ps ++ [(n, q, t.size)]))) := rowKeep hrowA hgB HNA2.out) | (have HA2 : Hid (wB.ownsRow w.heap.size PlT 3 (.slice adA (ps.length + [(n, q, t.size)].length) capA) (ps ++ [(n, q, t.size)]).length (Gk.rc plE (ps ++ [(n, q, t.size)]))) := rowKeep (Gk.own_below hrowA (below_alloc1 _ _)) hgB HNA2.out) | skip)) | (refine Gk.step_append_keep (enc := sE) ?_ (.tmp 98) (.tmp 103) 45 ?_ StrT (.string ⟨#[]⟩) 16 Tryz.underlying45 str_inf rfl ?_ sE_len sE_one w.heap.size (Value.slice aB ts.length cB) ts ?_ ?_ (wc.heap.size) 0 [t] 1 1 ?_ rfl ?_ ?_ ?_ ?_ ?_; rfl; rfl; decide; rfl; exact HTB _ (by assumption); rfl; exact (cellsB HKB.out); (show (ts.length + 1) * 16 ≤ _; omega); (show ts.length + 1 ≤ _; omega); exact HTZ _ (by assumption); intro adB capB wB hrowB hgB hkeepB hatB; have HNB2 : Hid (∀ g, (Value.slice adB (ts.length + [t].length) capB).ownBlock = some g → ((Value.slice aA ps.length cA)).ownBlock ≠ some g) := neNew hatB HNE2.out HUA.out (by first | (simp; done) | (simp; omega) | (have := HSA.out; simp; omega)); have HGB : Hid (∀ g, (Value.slice adB (ts.length + [t].length) capB).ownBlock = some g → ((Value.slice aB ts.length cB)).ownBlock = some g ∨ wc.heap.size ≤ g) := fun g hg => (hatB g hg).imp id fun h => Nat.le_trans (by first | (simp; done) | (simp; omega) | (have := HSA.out; simp; omega)) h; have HSB : Hid (wc.heap.size ≤ wB.heap.size) := Nat.le_trans (by first | (simp; done) | (simp; omega) | (have := HSA.out; simp; omega)) hgB.size; (first | (have HKA : Hid (wB.heap[wc.heap.size]? = some (.cells #[.int .i64 n, .int .i64 q, .int .i64 t.size] PlT (0, 0))) := keepGr hgB (heap_alloc_new _ _) HUB.out (by first | (simp; done) | (simp; omega))) | (have HKA : Hid (wB.heap[wc.heap.size + 1]? = some (.cells #[.int .i64 n, .int .i64 q, .int .i64 t.size] PlT (0, 0))) := keepGr hgB (heap_alloc_two _ _ _) HUB.out (by first | (simp; done) | (simp; omega))) | (have HKA : Hid (wB.heap[wc.heap.size]? = some (.cells #[.int .i64 n, .int .i64 q, .int .i64 t.size] PlT (0, 0))) := keepGr hgB (keepBlk (below_alloc1 _ _) (heap_alloc_new _ _)) HUB.out (by first | (simp; done) | (simp; omega))) | (have HKA : Hid (wB.heap[wc.heap.size]? = some (.cells #[.int .i64 n, .int .i64 q, .int .i64 t.size] PlT (0, 0))) := keepGr hgB (keepBlk (below_alloc1 _ _).drew (heap_alloc_new _ _)) HUB.out (by first | (simp; done) | (simp; omega))) | skip); (first | (have HA2 : Hid (wB.ownsRow w.heap.size PlT 3 (.slice adA (ps.length + [(n, q, t.size)].length) capA) (ps ++ [(n, q, t.size)]).length (Gk.rc plE (ps ++ [(n, q, t.size)]))) := rowKeep hrowA hgB HNA2.out) | (have HA2 : Hid (wB.ownsRow w.heap.size PlT 3 (.slice adA (ps.length + [(n, q, t.size)].length) capA) (ps ++ [(n, q, t.size)]).length (Gk.rc plE (ps ++ [(n, q, t.size)]))) := rowKeep (Gk.own_below hrowA (below_alloc1 _ _)) hgB HNA2.out) | skip)) | (refine Gk.step_append_keep (enc := sE) ?_ (.tmp 98) (.tmp 103) 45 ?_ StrT (.string ⟨#[]⟩) 16 Tryz.underlying45 str_inf rfl ?_ sE_len sE_one w.heap.size (Value.slice aB ts.length cB) ts ?_ ?_ (wc.heap.size + 1) 0 [t] 1 1 ?_ rfl ?_ ?_ ?_ ?_ ?_; rfl; rfl; decide; rfl; exact HTB _ (by assumption); rfl; exact (cellsB (heap_alloc_two _ _ _)); (show (ts.length + 1) * 16 ≤ _; omega); (show ts.length + 1 ≤ _; omega); exact HTZ _ (by assumption); intro adB capB wB hrowB hgB hkeepB hatB; have HNB2 : Hid (∀ g, (Value.slice adB (ts.length + [t].length) capB).ownBlock = some g → ((Value.slice aA ps.length cA)).ownBlock ≠ some g) := neNew hatB HNE2.out HUA.out (by first | (simp; done) | (simp; omega) | (have := HSA.out; simp; omega)); have HGB : Hid (∀ g, (Value.slice adB (ts.length + [t].length) capB).ownBlock = some g → ((Value.slice aB ts.length cB)).ownBlock = some g ∨ wc.heap.size ≤ g) := fun g hg => (hatB g hg).imp id fun h => Nat.le_trans (by first | (simp; done) | (simp; omega) | (have := HSA.out; simp; omega)) h; have HSB : Hid (wc.heap.size ≤ wB.heap.size) := Nat.le_trans (by first | (simp; done) | (simp; omega) | (have := HSA.out; simp; omega)) hgB.size; (first | (have HKA : Hid (wB.heap[wc.heap.size]? = some (.cells #[.int .i64 n, .int .i64 q, .int .i64 t.size] PlT (0, 0))) := keepGr hgB (heap_alloc_new _ _) HUB.out (by first | (simp; done) | (simp; omega))) | (have HKA : Hid (wB.heap[wc.heap.size + 1]? = some (.cells #[.int .i64 n, .int .i64 q, .int .i64 t.size] PlT (0, 0))) := keepGr hgB (heap_alloc_two _ _ _) HUB.out (by first | (simp; done) | (simp; omega))) | (have HKA : Hid (wB.heap[wc.heap.size]? = some (.cells #[.int .i64 n, .int .i64 q, .int .i64 t.size] PlT (0, 0))) := keepGr hgB (keepBlk (below_alloc1 _ _) (heap_alloc_new _ _)) HUB.out (by first | (simp; done) | (simp; omega))) | (have HKA : Hid (wB.heap[wc.heap.size]? = some (.cells #[.int .i64 n, .int .i64 q, .int .i64 t.size] PlT (0, 0))) := keepGr hgB (keepBlk (below_alloc1 _ _).drew (heap_alloc_new _ _)) HUB.out (by first | (simp; done) | (simp; omega))) | skip); (first | (have HA2 : Hid (wB.ownsRow w.heap.size PlT 3 (.slice adA (ps.length + [(n, q, t.size)].length) capA) (ps ++ [(n, q, t.size)]).length (Gk.rc plE (ps ++ [(n, q, t.size)]))) := rowKeep hrowA hgB HNA2.out) | (have HA2 : Hid (wB.ownsRow w.heap.size PlT 3 (.slice adA (ps.length + [(n, q, t.size)].length) capA) (ps ++ [(n, q, t.size)]).length (Gk.rc plE (ps ++ [(n, q, t.size)]))) := rowKeep (Gk.own_below hrowA (below_alloc1 _ _)) hgB HNA2.out) | skip)) | (refine Gk.step_append_keep (enc := sE) ?_ (.tmp 98) (.tmp 103) 45 ?_ StrT (.string ⟨#[]⟩) 16 Tryz.underlying45 str_inf rfl ?_ sE_len sE_one w.heap.size (Value.slice aB ts.length cB) ts ?_ ?_ (wc.heap.size + 1) 0 [t] 1 1 ?_ rfl ?_ ?_ ?_ ?_ ?_; rfl; rfl; decide; rfl; exact HTB _ (by assumption); rfl; exact (cellsB HKB.out); (show (ts.length + 1) * 16 ≤ _; omega); (show ts.length + 1 ≤ _; omega); exact HTZ _ (by assumption); intro adB capB wB hrowB hgB hkeepB hatB; have HNB2 : Hid (∀ g, (Value.slice adB (ts.length + [t].length) capB).ownBlock = some g → ((Value.slice aA ps.length cA)).ownBlock ≠ some g) := neNew hatB HNE2.out HUA.out (by first | (simp; done) | (simp; omega) | (have := HSA.out; simp; omega)); have HGB : Hid (∀ g, (Value.slice adB (ts.length + [t].length) capB).ownBlock = some g → ((Value.slice aB ts.length cB)).ownBlock = some g ∨ wc.heap.size ≤ g) := fun g hg => (hatB g hg).imp id fun h => Nat.le_trans (by first | (simp; done) | (simp; omega) | (have := HSA.out; simp; omega)) h; have HSB : Hid (wc.heap.size ≤ wB.heap.size) := Nat.le_trans (by first | (simp; done) | (simp; omega) | (have := HSA.out; simp; omega)) hgB.size; (first | (have HKA : Hid (wB.heap[wc.heap.size]? = some (.cells #[.int .i64 n, .int .i64 q, .int .i64 t.size] PlT (0, 0))) := keepGr hgB (heap_alloc_new _ _) HUB.out (by first | (simp; done) | (simp; omega))) | (have HKA : Hid (wB.heap[wc.heap.size + 1]? = some (.cells #[.int .i64 n, .int .i64 q, .int .i64 t.size] PlT (0, 0))) := keepGr hgB (heap_alloc_two _ _ _) HUB.out (by first | (simp; done) | (simp; omega))) | (have HKA : Hid (wB.heap[wc.heap.size]? = some (.cells #[.int .i64 n, .int .i64 q, .int .i64 t.size] PlT (0, 0))) := keepGr hgB (keepBlk (below_alloc1 _ _) (heap_alloc_new _ _)) HUB.out (by first | (simp; done) | (simp; omega))) | (have HKA : Hid (wB.heap[wc.heap.size]? = some (.cells #[.int .i64 n, .int .i64 q, .int .i64 t.size] PlT (0, 0))) := keepGr hgB (keepBlk (below_alloc1 _ _).drew (heap_alloc_new _ _)) HUB.out (by first | (simp; done) | (simp; omega))) | skip); (first | (have HA2 : Hid (wB.ownsRow w.heap.size PlT 3 (.slice adA (ps.length + [(n, q, t.size)].length) capA) (ps ++ [(n, q, t.size)]).length (Gk.rc plE (ps ++ [(n, q, t.size)]))) := rowKeep hrowA hgB HNA2.out) | (have HA2 : Hid (wB.ownsRow w.heap.size PlT 3 (.slice adA (ps.length + [(n, q, t.size)].length) capA) (ps ++ [(n, q, t.size)]).length (Gk.rc plE (ps ++ [(n, q, t.size)]))) := rowKeep (Gk.own_below hrowA (below_alloc1 _ _)) hgB HNA2.out) | skip)) | (refine Gk.step_append_keep (enc := sE) ?_ (.tmp 98) (.tmp 103) 45 ?_ StrT (.string ⟨#[]⟩) 16 Tryz.underlying45 str_inf rfl ?_ sE_len sE_one w.heap.size (Value.slice aB ts.length cB) ts ?_ ?_ (wA.heap.size) 0 [t] 1 1 ?_ rfl ?_ ?_ ?_ ?_ ?_; rfl; rfl; decide; rfl; exact HTB _ (by assumption); rfl; exact (cellsB (heap_alloc_new _ _)); (show (ts.length + 1) * 16 ≤ _; omega); (show ts.length + 1 ≤ _; omega); exact HTZ _ (by assumption); intro adB capB wB hrowB hgB hkeepB hatB; have HNB2 : Hid (∀ g, (Value.slice adB (ts.length + [t].length) capB).ownBlock = some g → ((Value.slice aA ps.length cA)).ownBlock ≠ some g) := neNew hatB HNE2.out HUA.out (by first | (simp; done) | (simp; omega) | (have := HSA.out; simp; omega)); have HGB : Hid (∀ g, (Value.slice adB (ts.length + [t].length) capB).ownBlock = some g → ((Value.slice aB ts.length cB)).ownBlock = some g ∨ wc.heap.size ≤ g) := fun g hg => (hatB g hg).imp id fun h => Nat.le_trans (by first | (simp; done) | (simp; omega) | (have := HSA.out; simp; omega)) h; have HSB : Hid (wc.heap.size ≤ wB.heap.size) := Nat.le_trans (by first | (simp; done) | (simp; omega) | (have := HSA.out; simp; omega)) hgB.size; (first | (have HKA : Hid (wB.heap[wc.heap.size]? = some (.cells #[.int .i64 n, .int .i64 q, .int .i64 t.size] PlT (0, 0))) := keepGr hgB (heap_alloc_new _ _) HUB.out (by first | (simp; done) | (simp; omega))) | (have HKA : Hid (wB.heap[wc.heap.size + 1]? = some (.cells #[.int .i64 n, .int .i64 q, .int .i64 t.size] PlT (0, 0))) := keepGr hgB (heap_alloc_two _ _ _) HUB.out (by first | (simp; done) | (simp; omega))) | (have HKA : Hid (wB.heap[wc.heap.size]? = some (.cells #[.int .i64 n, .int .i64 q, .int .i64 t.size] PlT (0, 0))) := keepGr hgB (keepBlk (below_alloc1 _ _) (heap_alloc_new _ _)) HUB.out (by first | (simp; done) | (simp; omega))) | (have HKA : Hid (wB.heap[wc.heap.size]? = some (.cells #[.int .i64 n, .int .i64 q, .int .i64 t.size] PlT (0, 0))) := keepGr hgB (keepBlk (below_alloc1 _ _).drew (heap_alloc_new _ _)) HUB.out (by first | (simp; done) | (simp; omega))) | skip); (first | (have HA2 : Hid (wB.ownsRow w.heap.size PlT 3 (.slice adA (ps.length + [(n, q, t.size)].length) capA) (ps ++ [(n, q, t.size)]).length (Gk.rc plE (ps ++ [(n, q, t.size)]))) := rowKeep hrowA hgB HNA2.out) | (have HA2 : Hid (wB.ownsRow w.heap.size PlT 3 (.slice adA (ps.length + [(n, q, t.size)].length) capA) (ps ++ [(n, q, t.size)]).length (Gk.rc plE (ps ++ [(n, q, t.size)]))) := rowKeep (Gk.own_below hrowA (below_alloc1 _ _)) hgB HNA2.out) | skip)) | fail)
            all_goals
              rename_i hHeld
              have hRB := HR7.out.both hHeld.2.out.1.vh HA2.out hrowB HGA.out HGB.out
              rw [show ps.length + [(n, q, t.size)].length = ps.length + 1 from rfl, show ts.length + [t].length = ts.length + 1 from rfl] at hRB
              have HRB := hide hRB
              clear hHeld hrowA hgA hkeepA hatA hrowB hgB hkeepB hatB HA2 HNA2 HGA HNB2 HGB HSA HSB HTA HTB HTZ hTS c0 c1 c2 c3 hRB HNE HNE2 HUA HUB HR7
              go_wp2
              exact ⟨⟨k + 1, ps ++ [(n, q, t.size)], ts ++ [t], by omega, by omega, by rw [List.length_append, List.length_singleton]; omega, by go_num, own5, max top n, S5, HRB.out, by rw [List.length_append]; exact HF5.out.1, HF5.out.2.1, HF5.out.2.2.1, by rw [HF5.out.2.2.2, HSC.out.2.2.2, List.length_append]; rfl⟩, by simp [intOf]; omega⟩
        · have hl' : (1000 : Int) < (t.size : Int) := by omega
          have HLP : Hid (LpB w wr bd bv mm u8 u9 ps ts) := ⟨own, top, S, hR, hs, hc, hf, hcn⟩
          clear hR hs hc hf hcn
          go_wp2
          go_roundw
          case rel => exact ⟨k + 1, ps, ts, by omega, by omega, by omega, by go_num, HLP.out⟩
          case measure => simp [intOf]; omega
      · have HLP : Hid (LpB w wr bd bv mm u8 u9 ps ts) := ⟨own, top, S, hR, hs, hc, hf, hcn⟩
        clear hR hs hc hf hcn
        by_cases hjl : k < ls.length
        · have j1 : (k : Int) < (ls.length : Int) := by omega
          have j3 : ¬ (k : Int) < 50 := by omega
          go_wp2
          go_meet
          case rel => exact ⟨ps, ts, by omega, HLP.out⟩
        · have j1 : ¬ (k : Int) < (ls.length : Int) := by omega
          go_wp2
          go_meet
          case rel => exact ⟨ps, ts, by omega, HLP.out⟩
  case rest =>
    obtain ⟨ps, ts, hp50, own, top, S, hR, hs, hc, hf, hcn⟩ := hcut
    have hFi := Files_any hR.vh
    have hll64 : (nums S).length ≤ 64 := Nat.le_trans nums_len hR.vh.ok.many
    obtain ⟨aA, cA, rfl⟩ := Gk.own_slice hR.rA
    obtain ⟨aB, cB, rfl⟩ := Gk.own_slice hR.rB
    have HR := hide hR
    have HF := hide hf
    have HCN := hide hcn
    obtain ⟨L, hLn⟩ : ∃ L, L = nums S := ⟨_, rfl⟩
    rw [← hLn] at hFi hll64
    have HLN := hide hLn
    clear hR hs hc hf hcn hLn HV4 HS4
    go_wp2_with fail
    refine hFi.mono ?_
    rintro e w5 ⟨vF, rfl, hrow, hb5⟩
    obtain ⟨aF, cF, rfl⟩ := Gk.own_slice hrow
    have hR5 := HR.out.below hb5
    have HR5 := hide hR5
    have HROW := hide hrow
    clear hFi hR5 hrow HR
    go_upto_block 4 with fail
    go_cut [15, 17, 18, 19] from 108 to 124 (fun mv _ _ _ wc => mv = .int .i64 ps.length ∧ Below w5.heap.size w5 wc)
    case first =>
      go_wp2
      go_loopw [15, 17, 18, 19, 108] (fun mv _ _ _ iv wr => ∃ k : Nat, k ≤ L.length ∧ iv = .int .i64 k ∧ mv = .int .i64 (((L.take k).map (many S)).sum : Nat) ∧ Below w5.heap.size w5 wr) (fun _ _ _ _ iv _ => L.length - (intOf iv).toNat)
      case atStart => exact ⟨0, by omega, rfl, by simp, Below.refl _ _⟩
      case round =>
        obtain ⟨k, hk, rfl, rfl, hbk⟩ := hrel
        by_cases hlt : k < L.length
        · obtain ⟨gF, offF, rfl, hgl, hcF⟩ := (Gk.Row.lies (k := 1) (e := IntT) (n := L.length) (cap := cF) (Gk.own_mono (Gk.own_below HROW.out hbk) (Nat.zero_le _))).at nE_len k hlt
          have p0 := hcF 0 _ rfl
          rw [Nat.mul_one, Nat.add_zero] at p0
          have hmem : L[k] ∈ nums S := by rw [← HLN.out]; exact List.getElem_mem hlt
          have hPl := Places_yes (HR5.out.vh.below hbk) hmem
          have HTK : Hid (((L.take (k + 1)).map (many S)).sum = ((L.take k).map (many S)).sum + (plcsOf L[k] ⟨(dat S L[k]).toArray⟩).length) := by
            show _ = _
            rw [List.take_succ_eq_append_getElem hlt, List.map_append, List.sum_append]
            simp [many]
          have hml : (plcsOf L[k] ⟨(dat S L[k]).toArray⟩).length ≤ 262144 := by
            have h1 := frames_end ⟨(dat S L[k]).toArray⟩
            have h2 := dat_le HR5.out.vh.ok (show L[k] ≤ 1048577 by have := nums_bound hmem; omega)
            have h3 : (ByteArray.mk (dat S L[k]).toArray).size = (dat S L[k]).length := by show Array.size _ = _; simp
            have h4 : ∀ l : List ByteArray, l.length ≤ lens l := fun l => by
              induction l with
              | nil => simp
              | cons x l ih => simp only [lens, List.map_cons, List.sum_cons, List.length_cons] at ih ⊢; omega
            have h5 := h4 (frames ⟨(dat S L[k]).toArray⟩).1
            rw [plcs_length]
            omega
          have hsl : ((L.take k).map (many S)).sum ≤ 50 := by
            have h1 : (L.map (many S)).sum = ((L.take k).map (many S)).sum + ((L.drop k).map (many S)).sum := by rw [← List.sum_append, ← List.map_append, List.take_append_drop]
            have h2 : (L.map (many S)).sum = ps.length := by rw [HLN.out]; exact HCN.out
            omega
          generalize ((L.take k).map (many S)).sum = sm at *
          generalize plcsOf L[k] ⟨(dat S L[k]).toArray⟩ = T at *
          generalize L[k] = n at *
          have i1 : (0 : Int) ≤ (k : Int) := by omega
          have i2 : (k : Int) < (L.length : Int) := by omega
          clear hcF
          go_wp2_with fail
          refine hPl.mono ?_
          rintro e w6 ⟨v, rfl, hv, hb6⟩
          obtain ⟨aT, cT, rfl⟩ := Gk.own_slice hv
          have hb7 := hbk.trans (hb6.mono hbk.size)
          clear hPl p0 hv hbk hb6
          go_wp2
          go_roundw
          case rel => exact ⟨k + 1, by omega, by go_num, by rw [HTK.out]; go_num, hb7⟩
          case measure => simp [intOf]; omega
        · obtain rfl : k = L.length := by omega
          have HE : Hid (((L.take L.length).map (many S)).sum = ps.length) := by
            show _ = _
            rw [List.take_length, HLN.out]; exact HCN.out
          rw [HE.out]
          go_wp2
          go_meet
          case rel => exact ⟨rfl, hbk⟩
    case rest =>
      obtain ⟨rfl, hbc⟩ := hcut
      have HBC := hide hbc
      clear hbc HROW HCN HLN
      go_wp2
      go_loopw [20, 21, 22, 23, 24, 25, 26, 28, 127] (fun _ _ _ _ _ _ _ _ iv wr => ∃ k : Nat, k ≤ ps.length ∧ iv = .int .i64 k ∧ Below w5.heap.size w5 wr) (fun _ _ _ _ _ _ _ _ iv _ => ps.length - (intOf iv).toNat)
      case atStart => exact ⟨0, by omega, rfl, HBC.out⟩
      case round =>
        obtain ⟨k, hk, rfl, hbk⟩ := hrel
        have hR := HR5.out.below hbk
        by_cases hlt : k < ps.length
        · have htl : k < ts.length := by have := HF.out.len; omega
          obtain ⟨gA, offA, rfl, hgl, hcA⟩ := (Gk.Row.lies (k := 3) (e := PlT) (n := ps.length) (cap := cA) (Gk.own_mono hR.rA (Nat.zero_le _))).at plE_len k hlt
          obtain ⟨gB, offB, rfl, hgl2, hcB⟩ := (Gk.Row.lies (k := 1) (e := StrT) (n := ts.length) (cap := cB) (Gk.own_mono hR.rB (Nat.zero_le _))).at sE_len k htl
          have p0 := hcA 0 _ rfl
          have p1 := hcA 1 _ rfl
          have p2 := hcA 2 _ rfl
          rw [Nat.add_zero] at p0
          have q0 := hcB 0 _ rfl
          rw [Nat.mul_one, Nat.add_zero] at q0
          have hIn := HF.out.ins k hlt htl
          generalize ps[k] = pk at *
          generalize ts[k] = tk at *
          obtain ⟨pf, pa, pl⟩ := pk
          have hfile := hIn.file
          have hget := hIn.get
          have ham := hIn.among
          have hle := hIn.le
          have hdl := dat_le hR.vh.ok (show pf ≤ 1048577 by have := hIn.2.1; simp only at this; omega)
          simp only at p0 p1 p2 hfile hget ham hle
          have i1 : (0 : Int) ≤ (k : Int) := by omega
          have i2 : (k : Int) < (ps.length : Int) := by omega
          have i3 : (k : Int) < (ts.length : Int) := by omega
          obtain ⟨w6, hw6⟩ : ∃ w6, w6 = wr.alloc (.cells #[.int .i64 pf, .int .i64 pa, .int .i64 pl] PlT) := ⟨_, rfl⟩
          have hb6 : Below wr.heap.size wr w6 := by rw [hw6]; exact below_alloc1 _ _
          have hpb : w6.heap[wr.heap.size]? = some (.cells #[.int .i64 pf, .int .i64 pa, .int .i64 pl] PlT (0, 0)) := by rw [hw6]; exact heap_alloc_new _ _
          have hG := Get_any (hR.vh.below hb6) hfile (pa : Int) (pl : Int) (by omega) (by omega)
          rw [hget] at hG
          have hPl : ∀ W, Below wr.heap.size wr W → _ := fun W hb => Places_yes (hR.vh.below hb) hfile
          have hTl : (plcsOf pf ⟨(dat S pf).toArray⟩).length ≤ 262144 := by
            have h1 := frames_end ⟨(dat S pf).toArray⟩
            have h3 : (ByteArray.mk (dat S pf).toArray).size = (dat S pf).length := by show Array.size _ = _; simp
            have h4 : ∀ l : List ByteArray, l.length ≤ lens l := fun l => by
              induction l with
              | nil => simp
              | cons x l ih => simp only [lens, List.map_cons, List.sum_cons, List.length_cons] at ih ⊢; omega
            have h5 := h4 (frames ⟨(dat S pf).toArray⟩).1
            rw [plcs_length]
            omega
          generalize plcsOf pf ⟨(dat S pf).toArray⟩ = T at *
          have HPB := hide hpb
          have HAM := hide ham
          have HBK := hide hbk
          clear hcA hcB hR hIn hget ham hle hdl hpb hbk
          go_wp2_with fail
          rw [← hw6]
          refine hG.mono ?_
          rintro e w7 ⟨rfl, hb7⟩
          have hb67 := hb6.trans (hb7.mono hb6.size)
          have q7 := (hb67.cell (p := ⟨gB, offB + k, none⟩) hgl2).trans q0
          have hpb7 := keepBlk hb7 HPB.out
          have x7 : w7.cell? ⟨wr.heap.size, 0, none⟩ = some (.int .i64 pf) := cell_of_block hpb7 0
          have hP7 := hPl w7 hb67
          have beq : (tk.toList == tk.toList) = true := by simp
          have HB67 := hide hb67
          have HPB7 := hide hpb7
          clear hG hPl p0 p1 p2 q0 hw6 hb6 hb7 hb67 hpb7
          go_wp2_with fail
          refine hP7.mono ?_
          rintro e w8 ⟨vT, rfl, hrT, hb8⟩
          obtain ⟨aT, cT, rfl⟩ := Gk.own_slice hrT
          have HPB8 := hide (keepBlk hb8 HPB7.out)
          have HRT := hide hrT
          have HB8 := hide (HB67.out.trans (hb8.mono HB67.out.size))
          have HBZ := hide (HBK.out.trans (HB8.out.mono HBK.out.size))
          clear hP7 q7 x7 hrT hb8 HPB7 HB67 HPB HB8 HBK
          go_upto_block 8 with fail
          generalize wr.heap.size = bp at HPB8 ⊢
          go_cut [26, 28] from 157 to 167 (fun bv _ wc => bv = .bool true ∧ Below w8.heap.size w8 wc)
          case first =>
            go_wp2
            go_loopw [26, 28, 157] (fun bv _ jv wi => ∃ (j : Nat) (b : Bool), j ≤ T.length ∧ jv = .int .i64 j ∧ bv = .bool b ∧ (b = true ∨ ∀ i (h : i < T.length), i < j → T[i] ≠ (pf, pa, pl)) ∧ Below w8.heap.size w8 wi) (fun _ _ jv _ => T.length - (intOf jv).toNat)
            case atStart => exact ⟨0, false, by omega, rfl, rfl, Or.inr fun i _ h => by omega, Below.refl _ _⟩
            case round =>
              obtain ⟨j, b, hj, rfl, rfl, hbb, hbj⟩ := hrel
              by_cases hjl : j < T.length
              · obtain ⟨gT, offT, rfl, hgl3, hcT⟩ := (Gk.Row.lies (k := 3) (e := PlT) (n := T.length) (cap := cT) (Gk.own_mono (Gk.own_below HRT.out hbj) (Nat.zero_le _))).at plE_len j hjl
                have y0 := hcT 0 _ rfl
                have y1 := hcT 1 _ rfl
                have y2 := hcT 2 _ rfl
                rw [Nat.add_zero] at y0
                have HTJ := hide (Eq.refl T[j])
                obtain ⟨tj, htj⟩ : ∃ tj, tj = T[j] := ⟨_, rfl⟩
                rw [← htj] at y0 y1 y2
                obtain ⟨tf, ta, tl⟩ := tj
                simp only at y0 y1 y2
                have HT2 := hide htj
                have hpbj := keepBlk hbj HPB8.out
                have x0 : wr.cell? ⟨bp, 0, none⟩ = some (.int .i64 pf) := cell_of_block hpbj 0
                have x1 : wr.cell? ⟨bp, 1, none⟩ = some (.int .i64 pa) := cell_of_block hpbj 1
                have x2 : wr.cell? ⟨bp, 2, none⟩ = some (.int .i64 pl) := cell_of_block hpbj 2
                have l5 : bp < wr.heap.size := (Array.getElem?_eq_some_iff.1 hpbj).1
                have n5 : ¬ bp = wr.heap.size := by omega
                have i4 : (0 : Int) ≤ (j : Int) := by omega
                have i5 : (j : Int) < (T.length : Int) := by omega
                have HBJ := hide (hbj.trans ((below_alloc1 wr (.cells #[.int .i64 tf, .int .i64 ta, .int .i64 tl] PlT)).mono hbj.size))
                have HBB := hide hbb
                clear hcT htj hpbj hbj hbb HTJ
                cases b with
                | true =>
                  go_wp2
                  go_roundw
                  case rel => exact ⟨j + 1, true, by omega, by go_num, rfl, Or.inl rfl, HBJ.out⟩
                  case measure => simp [intOf]; omega
                | false =>
                  have HNO : Hid (∀ i (h : i < T.length), i < j → T[i] ≠ (pf, pa, pl)) := HBB.out.resolve_left (by simp)
                  by_cases hf : tf = pf
                  · by_cases ha : ta = pa
                    · by_cases hl : tl = pl
                      · have z1 : ((tf : Int) == (pf : Int)) = true := by rw [beq_iff_eq]; omega
                        have z2 : ((ta : Int) == (pa : Int)) = true := by rw [beq_iff_eq]; omega
                        have z3 : ((tl : Int) == (pl : Int)) = true := by rw [beq_iff_eq]; omega
                        clear hf ha hl
                        go_wp2
                        go_roundw
                        case rel => exact ⟨j + 1, true, by omega, by go_num, rfl, Or.inl rfl, HBJ.out⟩
                        case measure => simp [intOf]; omega
                      · have z1 : ((tf : Int) == (pf : Int)) = true := by rw [beq_iff_eq]; omega
                        have z2 : ((ta : Int) == (pa : Int)) = true := by rw [beq_iff_eq]; omega
                        have z3 : ((tl : Int) == (pl : Int)) = false := by rw [beq_eq_false_iff_ne]; omega
                        have HN2 : Hid (T[j] ≠ (pf, pa, pl)) := fun e => hl (by rw [← HT2.out] at e; cases e; rfl)
                        clear hf ha hl
                        go_wp2
                        go_roundw
                        case rel => exact ⟨j + 1, false, by omega, by go_num, rfl, Or.inr fun i h hij => by
                          by_cases e : i = j
                          · subst e; exact HN2.out
                          · exact HNO.out i h (by omega), HBJ.out⟩
                        case measure => simp [intOf]; omega
                    · have z1 : ((tf : Int) == (pf : Int)) = true := by rw [beq_iff_eq]; omega
                      have z2 : ((ta : Int) == (pa : Int)) = false := by rw [beq_eq_false_iff_ne]; omega
                      have HN2 : Hid (T[j] ≠ (pf, pa, pl)) := fun e => ha (by rw [← HT2.out] at e; cases e; rfl)
                      clear hf ha
                      go_wp2
                      go_roundw
                      case rel => exact ⟨j + 1, false, by omega, by go_num, rfl, Or.inr fun i h hij => by
                        by_cases e : i = j
                        · subst e; exact HN2.out
                        · exact HNO.out i h (by omega), HBJ.out⟩
                      case measure => simp [intOf]; omega
                  · have z1 : ((tf : Int) == (pf : Int)) = false := by rw [beq_eq_false_iff_ne]; omega
                    have HN2 : Hid (T[j] ≠ (pf, pa, pl)) := fun e => hf (by rw [← HT2.out] at e; cases e; rfl)
                    clear hf
                    go_wp2
                    go_roundw
                    case rel => exact ⟨j + 1, false, by omega, by go_num, rfl, Or.inr fun i h hij => by
                      by_cases e : i = j
                      · subst e; exact HN2.out
                      · exact HNO.out i h (by omega), HBJ.out⟩
                    case measure => simp [intOf]; omega
              · obtain rfl : j = T.length := by omega
                have hbt : b = true := by
                  rcases hbb with h | h
                  · exact h
                  · obtain ⟨i, hi, e⟩ := List.getElem_of_mem HAM.out
                    exact absurd e (h i hi hi)
                subst hbt
                go_wp2
                go_meet
                case rel => exact ⟨rfl, hbj⟩
          case rest =>
            obtain ⟨rfl, hbc⟩ := hcut
            have hbz : Below w5.heap.size w5 wc := HBZ.out.trans (hbc.mono HBZ.out.size)
            clear hbc
            go_wp2
            go_roundw
            case rel => exact ⟨k + 1, by omega, by go_num, hbz⟩
            case measure => simp [intOf]; omega
        · obtain rfl : k = ps.length := by omega
          have hbe := hR.vh.base
          clear hR
          go_wp2
          go_ret
          exact ⟨by simp, hbe⟩

end Go.Proofs.YtlojajgehaiefaaGreatDoor.Vl
