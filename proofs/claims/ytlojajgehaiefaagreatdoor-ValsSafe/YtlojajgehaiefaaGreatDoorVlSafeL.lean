/- ValsSafe: for all arguments that can be read the law returns true, and all read as they did. -/
import Derived.Test.YtlojajgehaiefaaGreatDoorVlSafeP
import Derived.Test.YtlojajgehaiefaaGreatDoorVlArgC
import Derived.Test.YtlojajgehaiefaaGreatDoorGArgs
import Derived.Test.YtlojajgehaiefaaGreatDoorGAmong
import Derived.Test.YtlojajgehaiefaaGreatDoorGMap
import Derived.Deep.CutRange
import Derived.Deep.CutBlock
namespace Go.Proofs.YtlojajgehaiefaaGreatDoor.Vl
open Go.RowKit Go.Joins
open Go.Proofs.YtlojajgehaiefaaGreatDoor.Dk (Bs Fil Fls St St.Ok Held Only Rising)

/-- a text's cell, in worlds that come behind -/
theorem text_cell {w : World} {a : Option Addr} {cap : Nat} {ts : List ByteArray} (h : Gk.TextsAt w a cap ts) (k : Nat) (hk : k < ts.length) : ∃ b off, a = some ⟨b, off, none⟩ ∧ b < w.heap.size ∧ ∀ W, Below w.heap.size w W → W.cell? ⟨b, off + k, none⟩ = some (.string ts[k]) := by
  obtain ⟨b, off, rfl, hlt, hc⟩ := h.lies.at Gk.tenc_len k hk
  refine ⟨b, off, rfl, hlt, fun W hb => ?_⟩
  obtain ⟨b', off', e, _, hc'⟩ := (h.lies.below hb).at Gk.tenc_len k hk
  cases e
  have := hc' 0 _ rfl
  rwa [Nat.mul_one, Nat.add_zero] at this
/-- what the law's first loop keeps -/
def Lp (w1 wc : World) (bd bv mm : Nat) (vA vB : Value) (ps : List (Nat × Nat × Nat)) (ts : List ByteArray) (sure : Nat) : Prop := ∃ (own : Nat → Prop) (top : Nat) (S : St), Rws w1 wc own bd bv mm top S vA vB ps ts ∧ Vs S top 1008 ps.length ∧ Cln S ∧ Sf S ps ts sure
abbrev CrT : TypeId := 57

set_option maxRecDepth 100000 in
set_option maxHeartbeats 12800000 in
theorem safe_law (mo : Int) (a : Option Addr) (cap : Nat) (ls : List ByteArray) (sy : Int) (da : Option Addr) (dc : Nat) (ds : List Int) (w : World) (hmo : (Lit.int .i64 mo).wf = true) (hL : Gk.TextsAt w a cap ls) (hsy : -9223372036854775808 ≤ sy ∧ sy ≤ 9223372036854775807) (hDs : Gk.IntsAt w da dc ds) (hE : Env w) :
    Calls Tryz.prog 5 #[.int .i64 mo, .slice a ls.length cap, .agg #[.int .i64 sy, .slice da ds.length dc]] w fun e w' => e = .returned (.bool true) ∧ Below w.heap.size w w' := by
  obtain ⟨w1, hw1⟩ : ∃ w1, w1 = w.alloc (.cells #[.int .i64 sy, .slice da ds.length dc] CrT) := ⟨_, rfl⟩
  have hb01 : Below w.heap.size w w1 := by rw [hw1]; exact below_alloc1 _ _
  have hz1 : w1.heap.size = w.heap.size + 1 := by rw [hw1]; simp
  have hX1 : w1.heap[w.heap.size]? = some (.cells #[.int .i64 sy, .slice da ds.length dc] CrT (0, 0)) := by rw [hw1]; exact heap_alloc_new _ _
  have hN := Dk.new_ok 262144 w1 (by omega)
  obtain ⟨m0, m1⟩ : -9223372036854775808 ≤ mo ∧ mo ≤ 9223372036854775807 := bounds_i64 hmo
  have hAm := fun W => Gk.among_any mo 200 W (by omega) (by omega) m0 m1
  obtain ⟨M, hM⟩ : ∃ M : Nat, (M : Int) = mo % 200 := ⟨(mo % 200).toNat, by omega⟩
  have hMb : M < 200 := by omega
  simp only [← hM] at hAm
  have hAs := fun W => Gk.among_any sy 40 W (by omega) (by omega) hsy.1 hsy.2
  obtain ⟨Y, hY⟩ : ∃ Y : Nat, (Y : Int) = sy % 40 := ⟨(sy % 40).toNat, by omega⟩
  simp only [← hY] at hAs
  clear hM hmo m0 m1 hY
  have hll : ls.length ≤ 9223372036854775807 := by have := hL.room; have := hL.max; omega
  obtain ⟨mm, hmm⟩ : ∃ mm : Nat, mm = M + 1 := ⟨_, rfl⟩
  have hmc : (1 : Int) + (M : Int) = (mm : Int) := by omega
  have hm1 : 1 ≤ mm := by omega
  have hm2 : mm ≤ 65536 := by omega
  have hw1' := hw1
  clear hmm
  go_enter Tryz.func5, Tryz.ntmps5
  go_wp2_with fail
  rw [← hw1]
  refine hN.mono ?_
  rintro e w2 ⟨bd, rfl, hH2, hb2⟩
  have hE1 := hE.below hb01
  have hWk := works_any w2 (hE1.below hb2)
  clear hN hw1 hw1'
  go_wp2_with fail
  refine hWk.mono ?_
  rintro e w3 ⟨rfl, hb3⟩
  have hO := new_open (most := mm) (c := 1008) hE1 hH2 hb2 hm1 hm2 (by omega) hb3
  clear hWk
  go_wp2_with (first | (go_at_call 14; refine (hAm _).mono ?_; rintro e w3' ⟨rfl, rfl⟩))
  refine hO.mono ?_
  rintro e w4 ⟨bv, own4, S4, rfl, hV4, hs4, hc4, -⟩
  have hX4 : w4.heap[w.heap.size]? = some (.cells #[.int .i64 sy, .slice da ds.length dc] CrT (0, 0)) := (hV4.base.block _ (by omega)).trans hX1
  have xs0 : w4.cell? ⟨w.heap.size, 0, none⟩ = some (.int .i64 sy) := cell_of_block hX4 0
  have xs1 : w4.cell? ⟨w.heap.size, 1, none⟩ = some (.slice da ds.length dc) := cell_of_block hX4 1
  have HX1 := hide hX1
  have HB01 := hide hb01
  have HAM := hide hAm
  have HMC := hide hmc
  clear hO hAm hE hb2 hb3 hH2 hX1 hX4
  by_cases hdl : 4096 < ds.length
  · have d1 : (4096 : Int) < (ds.length : Int) := by omega
    have hbe := hV4.base
    clear hV4
    go_wp2
    go_ret
    exact ⟨rfl, HB01.out.trans (hbe.mono (by omega))⟩
  · have d1 : ¬ (4096 : Int) < (ds.length : Int) := by omega
    have HV4 := hide hV4
    have HS4 := hide (And.intro hs4 hc4)
    have HZ1 := hide hz1
    clear hV4 hs4 hc4 hz1 hmc hMb
    go_upto_block 0 with fail
    go_cut [10, 11, 12, 13, 14, 15] from 53 to 100 (fun vA vB sv _ _ _ wc => ∃ (ps : List (Nat × Nat × Nat)) (ts : List ByteArray) (sure : Nat), sv = .int .i64 sure ∧ ps.length ≤ 40 ∧ Lp w1 wc bd bv mm vA vB ps ts sure)
    case first =>
      go_wp2
      go_loopw [10, 11, 12, 13, 14, 15] (fun vA vB sv iv _ _ wr => ∃ (k : Nat) (ps : List (Nat × Nat × Nat)) (ts : List ByteArray) (sure : Nat), k ≤ ls.length ∧ k ≤ 40 ∧ ps.length ≤ k ∧ iv = .int .i64 k ∧ sv = .int .i64 sure ∧ Lp w1 wr bd bv mm vA vB ps ts sure) (fun _ _ _ iv _ _ _ => ls.length - (intOf iv).toNat)
      case atStart => exact ⟨0, [], [], 0, by omega, by omega, Nat.le_refl _, rfl, rfl, own4, 0, S4, ⟨HV4.out, World.ownsRow_nil _ _ _ _, World.ownsRow_nil _ _ _ _, by simp [Value.ownBlock], by simp [Value.ownBlock]⟩, HS4.out.1, HS4.out.2, Sf.nil _⟩
      case round =>
        obtain ⟨k, ps, ts, sure, hk, hk40, hpk, rfl, rfl, own, top, S, hR, hs, hc, hf⟩ := hrel
        by_cases hin : k < ls.length ∧ k < 40
        · obtain ⟨hkl, hk2⟩ := hin
          obtain ⟨tb, toff, rfl, htb, htc⟩ := text_cell hL k hkl
          have hbw : Below w.heap.size w wr := HB01.out.trans (hR.vh.base.mono (by have := HZ1.out; omega))
          have t0 := htc wr hbw
          generalize ls[k] = t at *
          have i1 : (0 : Int) ≤ (k : Int) := by omega
          have i2 : (k : Int) < (ls.length : Int) := by omega
          have i3 : (k : Int) < 40 := by omega
          by_cases hlong : t.size ≤ 1000
          · have hl' : ¬ (1000 : Int) < (t.size : Int) := by omega
            have hP := hR.vh.put hs (by omega) (by omega) t (by omega)
            have HR := hide hR
            have HSC := hide (And.intro hs (And.intro hc hf))
            have HBW := hide hbw
            clear hR hs hc hf hbw
            go_wp2_with fail
            refine hP.mono ?_
            rintro e w5 ⟨n, own5, rfl, hn1, hn2, -, hV5, hs5, hst5, -⟩
            have hR5 := HR.out.step hV5 hst5
            have hf5 := HSC.out.2.2.put HR.out.vh.ok.rising HSC.out.2.1 hn1 (by have := HSC.out.1.topk; omega) (show t.size ≤ 65536 by omega)
            have hc5 := HSC.out.2.1.put (n := n) (s := t) HR.out.vh.ok.rising (show t.size ≤ 65536 by omega)
            generalize (dat S n).length = q at *
            generalize putS S n t = S5 at *
            have HF5 := hide (And.intro hs5 (And.intro hc5 hf5))
            obtain ⟨w6, hw6⟩ : ∃ w6, w6 = w5.alloc (.cells #[.int .i64 n, .int .i64 q, .int .i64 t.size] PlT) := ⟨_, rfl⟩
            have hb6 : Below w5.heap.size w5 w6 := by rw [hw6]; exact below_alloc1 _ _
            have hpb : w6.heap[w5.heap.size]? = some (.cells #[.int .i64 n, .int .i64 q, .int .i64 t.size] PlT (0, 0)) := by rw [hw6]; exact heap_alloc_new _ _
            have hz6 : w6.heap.size = w5.heap.size + 1 := by rw [hw6]; simp
            clear hP hV5 hst5 hs5 hc5 hf5 t0
            go_wp2_with fail
            rw [← hw6]
            have hR6 := hR5.below hb6
            have hTS : TS w1 own5 bd bv mm (max top n) S5 u10 u11 ps ts w5.heap.size (n, q, t.size) tb (toff + k) t w6 := ⟨⟨cell_of_block hpb 0, cell_of_block hpb 1, cell_of_block hpb 2, htc w6 (HB01.out.trans (hR6.vh.base.mono (by have := HZ1.out; omega)))⟩, hR6, by omega, by have := HZ1.out; omega, hR5.vh.base.size, fun g hg => by have := (hR5.rA.lt g hg).2; omega, fun g hg => by have := (hR5.rB.lt g hg).2; omega⟩
            have HNE : Hid (∀ g, u10.ownBlock = some g → u11.ownBlock ≠ some g) := fun g hg => hR6.ne hg
            have HNE2 : Hid (∀ g, u11.ownBlock = some g → u10.ownBlock ≠ some g) := fun g hg e => hR6.ne e hg
            have HUA : Hid (∀ g, u10.ownBlock = some g → g < w6.heap.size) := fun g hg => (hR6.rA.lt g hg).2
            have HUB : Hid (∀ g, u11.ownBlock = some g → g < w6.heap.size) := fun g hg => (hR6.rB.lt g hg).2
            have hpl40 : ps.length ≤ 40 := by omega
            have htl40 : ts.length ≤ 40 := by have := HSC.out.2.2.len; omega
            have HR6 := hide hR6
            have c0 := hTS.1.1
            have c1 := hTS.1.2.1
            have c2 := hTS.1.2.2.1
            have c3 := hTS.1.2.2.2
            have HTC := hide htc
            clear hpb hb6 hw6 hR5 hR6 htc hz6
            have HTA : ∀ W, TS w1 own5 bd bv mm (max top n) S5 u10 u11 ps ts w5.heap.size (n, q, t.size) tb (toff + k) t W → W.ownsRow w1.heap.size PlT 3 u10 ps.length (Gk.rc plE ps) := fun W h => h.2.out.1.rA
            have HTB : ∀ W, TS w1 own5 bd bv mm (max top n) S5 u10 u11 ps ts w5.heap.size (n, q, t.size) tb (toff + k) t W → W.ownsRow w1.heap.size StrT 1 u11 ts.length (Gk.rc sE ts) := fun W h => h.2.out.1.rB
            have HTZ : ∀ W, TS w1 own5 bd bv mm (max top n) S5 u10 u11 ps ts w5.heap.size (n, q, t.size) tb (toff + k) t W → w1.heap.size ≤ W.heap.size := fun W h => h.2.out.1.vh.base.size
            go_region_held3 (TS w1 own5 bd bv mm (max top n) S5 u10 u11 ps ts w5.heap.size (n, q, t.size) tb (toff + k) t) (first | with_reducible exact TS.drew (by assumption) | with_reducible exact TS.alloc (by assumption) _ | with_reducible assumption | with_reducible exact TS.drew (TS.alloc hTS _) | with_reducible exact TS.drew (TS.alloc (TS.alloc hTS _) _) | with_reducible exact TS.keepA (by assumption) (by assumption) (by assumption) | with_reducible exact TS.keepB (by assumption) (by assumption) (by assumption) | fail)
              (first | (refine Gk.step_append_keep (enc := plE) ?_ (.tmp 80) (.tmp 82) 47 ?_ PlT (.agg #[.int .i64 0, .int .i64 0, .int .i64 0]) 24 Tryz.underlying47 pl_info rfl ?_ plE_len plE_one w1.heap.size u10 ps ?_ ?_ (w6.heap.size) 0 [(n, q, t.size)] 1 1 ?_ rfl ?_ ?_ ?_ ?_ ?_; rfl; rfl; decide; rfl; exact HTA _ (by assumption); rfl; exact (cellsA (p := (n, q, t.size)) (heap_alloc_new _ _)); (show (ps.length + 1) * 24 ≤ _; omega); (show ps.length + 1 ≤ _; omega); exact HTZ _ (by assumption); intro adA capA wA hrowA hgA hkeepA hatA; have HNA2 : Hid (∀ g, (Value.slice adA (ps.length + [(n, q, t.size)].length) capA).ownBlock = some g → (u11).ownBlock ≠ some g) := neNew hatA HNE.out HUB.out (by first | (simp; done) | (simp; omega) | (have := HSB.out; simp; omega)); have HGA : Hid (∀ g, (Value.slice adA (ps.length + [(n, q, t.size)].length) capA).ownBlock = some g → (u10).ownBlock = some g ∨ w6.heap.size ≤ g) := fun g hg => (hatA g hg).imp id fun h => Nat.le_trans (by first | (simp; done) | (simp; omega) | (have := HSB.out; simp; omega)) h; have HSA : Hid (w6.heap.size ≤ wA.heap.size) := Nat.le_trans (by first | (simp; done) | (simp; omega) | (have := HSB.out; simp; omega)) hgA.size; (first | (have HKB : Hid (wA.heap[w6.heap.size]? = some (.cells #[.string t] StrT (0, 0))) := keepGr hgA (heap_alloc_new _ _) HUA.out (by first | (simp; done) | (simp; omega))) | (have HKB : Hid (wA.heap[w6.heap.size + 1]? = some (.cells #[.string t] StrT (0, 0))) := keepGr hgA (heap_alloc_two _ _ _) HUA.out (by first | (simp; done) | (simp; omega))) | (have HKB : Hid (wA.heap[w6.heap.size]? = some (.cells #[.string t] StrT (0, 0))) := keepGr hgA (keepBlk (below_alloc1 _ _) (heap_alloc_new _ _)) HUA.out (by first | (simp; done) | (simp; omega))) | (have HKB : Hid (wA.heap[w6.heap.size]? = some (.cells #[.string t] StrT (0, 0))) := keepGr hgA (keepBlk (below_alloc1 _ _).drew (heap_alloc_new _ _)) HUA.out (by first | (simp; done) | (simp; omega))) | skip); (first | (have HB2 : Hid (wA.ownsRow w1.heap.size StrT 1 (.slice adB (ts.length + [t].length) capB) (ts ++ [t]).length (Gk.rc sE (ts ++ [t]))) := rowKeep hrowB hgA HNB2.out) | (have HB2 : Hid (wA.ownsRow w1.heap.size StrT 1 (.slice adB (ts.length + [t].length) capB) (ts ++ [t]).length (Gk.rc sE (ts ++ [t]))) := rowKeep (Gk.own_below hrowB (below_alloc1 _ _)) hgA HNB2.out) | skip)) | (refine Gk.step_append_keep (enc := plE) ?_ (.tmp 80) (.tmp 82) 47 ?_ PlT (.agg #[.int .i64 0, .int .i64 0, .int .i64 0]) 24 Tryz.underlying47 pl_info rfl ?_ plE_len plE_one w1.heap.size u10 ps ?_ ?_ (w6.heap.size) 0 [(n, q, t.size)] 1 1 ?_ rfl ?_ ?_ ?_ ?_ ?_; rfl; rfl; decide; rfl; exact HTA _ (by assumption); rfl; exact (cellsA (p := (n, q, t.size)) (keepBlk (below_alloc1 _ _).drew (heap_alloc_new _ _))); (show (ps.length + 1) * 24 ≤ _; omega); (show ps.length + 1 ≤ _; omega); exact HTZ _ (by assumption); intro adA capA wA hrowA hgA hkeepA hatA; have HNA2 : Hid (∀ g, (Value.slice adA (ps.length + [(n, q, t.size)].length) capA).ownBlock = some g → (u11).ownBlock ≠ some g) := neNew hatA HNE.out HUB.out (by first | (simp; done) | (simp; omega) | (have := HSB.out; simp; omega)); have HGA : Hid (∀ g, (Value.slice adA (ps.length + [(n, q, t.size)].length) capA).ownBlock = some g → (u10).ownBlock = some g ∨ w6.heap.size ≤ g) := fun g hg => (hatA g hg).imp id fun h => Nat.le_trans (by first | (simp; done) | (simp; omega) | (have := HSB.out; simp; omega)) h; have HSA : Hid (w6.heap.size ≤ wA.heap.size) := Nat.le_trans (by first | (simp; done) | (simp; omega) | (have := HSB.out; simp; omega)) hgA.size; (first | (have HKB : Hid (wA.heap[w6.heap.size]? = some (.cells #[.string t] StrT (0, 0))) := keepGr hgA (heap_alloc_new _ _) HUA.out (by first | (simp; done) | (simp; omega))) | (have HKB : Hid (wA.heap[w6.heap.size + 1]? = some (.cells #[.string t] StrT (0, 0))) := keepGr hgA (heap_alloc_two _ _ _) HUA.out (by first | (simp; done) | (simp; omega))) | (have HKB : Hid (wA.heap[w6.heap.size]? = some (.cells #[.string t] StrT (0, 0))) := keepGr hgA (keepBlk (below_alloc1 _ _) (heap_alloc_new _ _)) HUA.out (by first | (simp; done) | (simp; omega))) | (have HKB : Hid (wA.heap[w6.heap.size]? = some (.cells #[.string t] StrT (0, 0))) := keepGr hgA (keepBlk (below_alloc1 _ _).drew (heap_alloc_new _ _)) HUA.out (by first | (simp; done) | (simp; omega))) | skip); (first | (have HB2 : Hid (wA.ownsRow w1.heap.size StrT 1 (.slice adB (ts.length + [t].length) capB) (ts ++ [t]).length (Gk.rc sE (ts ++ [t]))) := rowKeep hrowB hgA HNB2.out) | (have HB2 : Hid (wA.ownsRow w1.heap.size StrT 1 (.slice adB (ts.length + [t].length) capB) (ts ++ [t]).length (Gk.rc sE (ts ++ [t]))) := rowKeep (Gk.own_below hrowB (below_alloc1 _ _)) hgA HNB2.out) | skip)) | (refine Gk.step_append_keep (enc := plE) ?_ (.tmp 80) (.tmp 82) 47 ?_ PlT (.agg #[.int .i64 0, .int .i64 0, .int .i64 0]) 24 Tryz.underlying47 pl_info rfl ?_ plE_len plE_one w1.heap.size u10 ps ?_ ?_ (w6.heap.size) 0 [(n, q, t.size)] 1 1 ?_ rfl ?_ ?_ ?_ ?_ ?_; rfl; rfl; decide; rfl; exact HTA _ (by assumption); rfl; exact (cellsA (p := (n, q, t.size)) HKA.out); (show (ps.length + 1) * 24 ≤ _; omega); (show ps.length + 1 ≤ _; omega); exact HTZ _ (by assumption); intro adA capA wA hrowA hgA hkeepA hatA; have HNA2 : Hid (∀ g, (Value.slice adA (ps.length + [(n, q, t.size)].length) capA).ownBlock = some g → (u11).ownBlock ≠ some g) := neNew hatA HNE.out HUB.out (by first | (simp; done) | (simp; omega) | (have := HSB.out; simp; omega)); have HGA : Hid (∀ g, (Value.slice adA (ps.length + [(n, q, t.size)].length) capA).ownBlock = some g → (u10).ownBlock = some g ∨ w6.heap.size ≤ g) := fun g hg => (hatA g hg).imp id fun h => Nat.le_trans (by first | (simp; done) | (simp; omega) | (have := HSB.out; simp; omega)) h; have HSA : Hid (w6.heap.size ≤ wA.heap.size) := Nat.le_trans (by first | (simp; done) | (simp; omega) | (have := HSB.out; simp; omega)) hgA.size; (first | (have HKB : Hid (wA.heap[w6.heap.size]? = some (.cells #[.string t] StrT (0, 0))) := keepGr hgA (heap_alloc_new _ _) HUA.out (by first | (simp; done) | (simp; omega))) | (have HKB : Hid (wA.heap[w6.heap.size + 1]? = some (.cells #[.string t] StrT (0, 0))) := keepGr hgA (heap_alloc_two _ _ _) HUA.out (by first | (simp; done) | (simp; omega))) | (have HKB : Hid (wA.heap[w6.heap.size]? = some (.cells #[.string t] StrT (0, 0))) := keepGr hgA (keepBlk (below_alloc1 _ _) (heap_alloc_new _ _)) HUA.out (by first | (simp; done) | (simp; omega))) | (have HKB : Hid (wA.heap[w6.heap.size]? = some (.cells #[.string t] StrT (0, 0))) := keepGr hgA (keepBlk (below_alloc1 _ _).drew (heap_alloc_new _ _)) HUA.out (by first | (simp; done) | (simp; omega))) | skip); (first | (have HB2 : Hid (wA.ownsRow w1.heap.size StrT 1 (.slice adB (ts.length + [t].length) capB) (ts ++ [t]).length (Gk.rc sE (ts ++ [t]))) := rowKeep hrowB hgA HNB2.out) | (have HB2 : Hid (wA.ownsRow w1.heap.size StrT 1 (.slice adB (ts.length + [t].length) capB) (ts ++ [t]).length (Gk.rc sE (ts ++ [t]))) := rowKeep (Gk.own_below hrowB (below_alloc1 _ _)) hgA HNB2.out) | skip)) | (refine Gk.step_append_keep (enc := plE) ?_ (.tmp 80) (.tmp 82) 47 ?_ PlT (.agg #[.int .i64 0, .int .i64 0, .int .i64 0]) 24 Tryz.underlying47 pl_info rfl ?_ plE_len plE_one w1.heap.size u10 ps ?_ ?_ (w6.heap.size + 1) 0 [(n, q, t.size)] 1 1 ?_ rfl ?_ ?_ ?_ ?_ ?_; rfl; rfl; decide; rfl; exact HTA _ (by assumption); rfl; exact (cellsA (p := (n, q, t.size)) (heap_alloc_two _ _ _)); (show (ps.length + 1) * 24 ≤ _; omega); (show ps.length + 1 ≤ _; omega); exact HTZ _ (by assumption); intro adA capA wA hrowA hgA hkeepA hatA; have HNA2 : Hid (∀ g, (Value.slice adA (ps.length + [(n, q, t.size)].length) capA).ownBlock = some g → (u11).ownBlock ≠ some g) := neNew hatA HNE.out HUB.out (by first | (simp; done) | (simp; omega) | (have := HSB.out; simp; omega)); have HGA : Hid (∀ g, (Value.slice adA (ps.length + [(n, q, t.size)].length) capA).ownBlock = some g → (u10).ownBlock = some g ∨ w6.heap.size ≤ g) := fun g hg => (hatA g hg).imp id fun h => Nat.le_trans (by first | (simp; done) | (simp; omega) | (have := HSB.out; simp; omega)) h; have HSA : Hid (w6.heap.size ≤ wA.heap.size) := Nat.le_trans (by first | (simp; done) | (simp; omega) | (have := HSB.out; simp; omega)) hgA.size; (first | (have HKB : Hid (wA.heap[w6.heap.size]? = some (.cells #[.string t] StrT (0, 0))) := keepGr hgA (heap_alloc_new _ _) HUA.out (by first | (simp; done) | (simp; omega))) | (have HKB : Hid (wA.heap[w6.heap.size + 1]? = some (.cells #[.string t] StrT (0, 0))) := keepGr hgA (heap_alloc_two _ _ _) HUA.out (by first | (simp; done) | (simp; omega))) | (have HKB : Hid (wA.heap[w6.heap.size]? = some (.cells #[.string t] StrT (0, 0))) := keepGr hgA (keepBlk (below_alloc1 _ _) (heap_alloc_new _ _)) HUA.out (by first | (simp; done) | (simp; omega))) | (have HKB : Hid (wA.heap[w6.heap.size]? = some (.cells #[.string t] StrT (0, 0))) := keepGr hgA (keepBlk (below_alloc1 _ _).drew (heap_alloc_new _ _)) HUA.out (by first | (simp; done) | (simp; omega))) | skip); (first | (have HB2 : Hid (wA.ownsRow w1.heap.size StrT 1 (.slice adB (ts.length + [t].length) capB) (ts ++ [t]).length (Gk.rc sE (ts ++ [t]))) := rowKeep hrowB hgA HNB2.out) | (have HB2 : Hid (wA.ownsRow w1.heap.size StrT 1 (.slice adB (ts.length + [t].length) capB) (ts ++ [t]).length (Gk.rc sE (ts ++ [t]))) := rowKeep (Gk.own_below hrowB (below_alloc1 _ _)) hgA HNB2.out) | skip)) | (refine Gk.step_append_keep (enc := plE) ?_ (.tmp 80) (.tmp 82) 47 ?_ PlT (.agg #[.int .i64 0, .int .i64 0, .int .i64 0]) 24 Tryz.underlying47 pl_info rfl ?_ plE_len plE_one w1.heap.size u10 ps ?_ ?_ (w6.heap.size + 1) 0 [(n, q, t.size)] 1 1 ?_ rfl ?_ ?_ ?_ ?_ ?_; rfl; rfl; decide; rfl; exact HTA _ (by assumption); rfl; exact (cellsA (p := (n, q, t.size)) HKA.out); (show (ps.length + 1) * 24 ≤ _; omega); (show ps.length + 1 ≤ _; omega); exact HTZ _ (by assumption); intro adA capA wA hrowA hgA hkeepA hatA; have HNA2 : Hid (∀ g, (Value.slice adA (ps.length + [(n, q, t.size)].length) capA).ownBlock = some g → (u11).ownBlock ≠ some g) := neNew hatA HNE.out HUB.out (by first | (simp; done) | (simp; omega) | (have := HSB.out; simp; omega)); have HGA : Hid (∀ g, (Value.slice adA (ps.length + [(n, q, t.size)].length) capA).ownBlock = some g → (u10).ownBlock = some g ∨ w6.heap.size ≤ g) := fun g hg => (hatA g hg).imp id fun h => Nat.le_trans (by first | (simp; done) | (simp; omega) | (have := HSB.out; simp; omega)) h; have HSA : Hid (w6.heap.size ≤ wA.heap.size) := Nat.le_trans (by first | (simp; done) | (simp; omega) | (have := HSB.out; simp; omega)) hgA.size; (first | (have HKB : Hid (wA.heap[w6.heap.size]? = some (.cells #[.string t] StrT (0, 0))) := keepGr hgA (heap_alloc_new _ _) HUA.out (by first | (simp; done) | (simp; omega))) | (have HKB : Hid (wA.heap[w6.heap.size + 1]? = some (.cells #[.string t] StrT (0, 0))) := keepGr hgA (heap_alloc_two _ _ _) HUA.out (by first | (simp; done) | (simp; omega))) | (have HKB : Hid (wA.heap[w6.heap.size]? = some (.cells #[.string t] StrT (0, 0))) := keepGr hgA (keepBlk (below_alloc1 _ _) (heap_alloc_new _ _)) HUA.out (by first | (simp; done) | (simp; omega))) | (have HKB : Hid (wA.heap[w6.heap.size]? = some (.cells #[.string t] StrT (0, 0))) := keepGr hgA (keepBlk (below_alloc1 _ _).drew (heap_alloc_new _ _)) HUA.out (by first | (simp; done) | (simp; omega))) | skip); (first | (have HB2 : Hid (wA.ownsRow w1.heap.size StrT 1 (.slice adB (ts.length + [t].length) capB) (ts ++ [t]).length (Gk.rc sE (ts ++ [t]))) := rowKeep hrowB hgA HNB2.out) | (have HB2 : Hid (wA.ownsRow w1.heap.size StrT 1 (.slice adB (ts.length + [t].length) capB) (ts ++ [t]).length (Gk.rc sE (ts ++ [t]))) := rowKeep (Gk.own_below hrowB (below_alloc1 _ _)) hgA HNB2.out) | skip)) | (refine Gk.step_append_keep (enc := plE) ?_ (.tmp 80) (.tmp 82) 47 ?_ PlT (.agg #[.int .i64 0, .int .i64 0, .int .i64 0]) 24 Tryz.underlying47 pl_info rfl ?_ plE_len plE_one w1.heap.size u10 ps ?_ ?_ (wB.heap.size) 0 [(n, q, t.size)] 1 1 ?_ rfl ?_ ?_ ?_ ?_ ?_; rfl; rfl; decide; rfl; exact HTA _ (by assumption); rfl; exact (cellsA (p := (n, q, t.size)) (heap_alloc_new _ _)); (show (ps.length + 1) * 24 ≤ _; omega); (show ps.length + 1 ≤ _; omega); exact HTZ _ (by assumption); intro adA capA wA hrowA hgA hkeepA hatA; have HNA2 : Hid (∀ g, (Value.slice adA (ps.length + [(n, q, t.size)].length) capA).ownBlock = some g → (u11).ownBlock ≠ some g) := neNew hatA HNE.out HUB.out (by first | (simp; done) | (simp; omega) | (have := HSB.out; simp; omega)); have HGA : Hid (∀ g, (Value.slice adA (ps.length + [(n, q, t.size)].length) capA).ownBlock = some g → (u10).ownBlock = some g ∨ w6.heap.size ≤ g) := fun g hg => (hatA g hg).imp id fun h => Nat.le_trans (by first | (simp; done) | (simp; omega) | (have := HSB.out; simp; omega)) h; have HSA : Hid (w6.heap.size ≤ wA.heap.size) := Nat.le_trans (by first | (simp; done) | (simp; omega) | (have := HSB.out; simp; omega)) hgA.size; (first | (have HKB : Hid (wA.heap[w6.heap.size]? = some (.cells #[.string t] StrT (0, 0))) := keepGr hgA (heap_alloc_new _ _) HUA.out (by first | (simp; done) | (simp; omega))) | (have HKB : Hid (wA.heap[w6.heap.size + 1]? = some (.cells #[.string t] StrT (0, 0))) := keepGr hgA (heap_alloc_two _ _ _) HUA.out (by first | (simp; done) | (simp; omega))) | (have HKB : Hid (wA.heap[w6.heap.size]? = some (.cells #[.string t] StrT (0, 0))) := keepGr hgA (keepBlk (below_alloc1 _ _) (heap_alloc_new _ _)) HUA.out (by first | (simp; done) | (simp; omega))) | (have HKB : Hid (wA.heap[w6.heap.size]? = some (.cells #[.string t] StrT (0, 0))) := keepGr hgA (keepBlk (below_alloc1 _ _).drew (heap_alloc_new _ _)) HUA.out (by first | (simp; done) | (simp; omega))) | skip); (first | (have HB2 : Hid (wA.ownsRow w1.heap.size StrT 1 (.slice adB (ts.length + [t].length) capB) (ts ++ [t]).length (Gk.rc sE (ts ++ [t]))) := rowKeep hrowB hgA HNB2.out) | (have HB2 : Hid (wA.ownsRow w1.heap.size StrT 1 (.slice adB (ts.length + [t].length) capB) (ts ++ [t]).length (Gk.rc sE (ts ++ [t]))) := rowKeep (Gk.own_below hrowB (below_alloc1 _ _)) hgA HNB2.out) | skip)) | (refine Gk.step_append_keep (enc := sE) ?_ (.tmp 84) (.tmp 89) 45 ?_ StrT (.string ⟨#[]⟩) 16 Tryz.underlying45 str_inf rfl ?_ sE_len sE_one w1.heap.size u11 ts ?_ ?_ (w6.heap.size) 0 [t] 1 1 ?_ rfl ?_ ?_ ?_ ?_ ?_; rfl; rfl; decide; rfl; exact HTB _ (by assumption); rfl; exact (cellsB (heap_alloc_new _ _)); (show (ts.length + 1) * 16 ≤ _; omega); (show ts.length + 1 ≤ _; omega); exact HTZ _ (by assumption); intro adB capB wB hrowB hgB hkeepB hatB; have HNB2 : Hid (∀ g, (Value.slice adB (ts.length + [t].length) capB).ownBlock = some g → (u10).ownBlock ≠ some g) := neNew hatB HNE2.out HUA.out (by first | (simp; done) | (simp; omega) | (have := HSA.out; simp; omega)); have HGB : Hid (∀ g, (Value.slice adB (ts.length + [t].length) capB).ownBlock = some g → (u11).ownBlock = some g ∨ w6.heap.size ≤ g) := fun g hg => (hatB g hg).imp id fun h => Nat.le_trans (by first | (simp; done) | (simp; omega) | (have := HSA.out; simp; omega)) h; have HSB : Hid (w6.heap.size ≤ wB.heap.size) := Nat.le_trans (by first | (simp; done) | (simp; omega) | (have := HSA.out; simp; omega)) hgB.size; (first | (have HKA : Hid (wB.heap[w6.heap.size]? = some (.cells #[.int .i64 n, .int .i64 q, .int .i64 t.size] PlT (0, 0))) := keepGr hgB (heap_alloc_new _ _) HUB.out (by first | (simp; done) | (simp; omega))) | (have HKA : Hid (wB.heap[w6.heap.size + 1]? = some (.cells #[.int .i64 n, .int .i64 q, .int .i64 t.size] PlT (0, 0))) := keepGr hgB (heap_alloc_two _ _ _) HUB.out (by first | (simp; done) | (simp; omega))) | (have HKA : Hid (wB.heap[w6.heap.size]? = some (.cells #[.int .i64 n, .int .i64 q, .int .i64 t.size] PlT (0, 0))) := keepGr hgB (keepBlk (below_alloc1 _ _) (heap_alloc_new _ _)) HUB.out (by first | (simp; done) | (simp; omega))) | (have HKA : Hid (wB.heap[w6.heap.size]? = some (.cells #[.int .i64 n, .int .i64 q, .int .i64 t.size] PlT (0, 0))) := keepGr hgB (keepBlk (below_alloc1 _ _).drew (heap_alloc_new _ _)) HUB.out (by first | (simp; done) | (simp; omega))) | skip); (first | (have HA2 : Hid (wB.ownsRow w1.heap.size PlT 3 (.slice adA (ps.length + [(n, q, t.size)].length) capA) (ps ++ [(n, q, t.size)]).length (Gk.rc plE (ps ++ [(n, q, t.size)]))) := rowKeep hrowA hgB HNA2.out) | (have HA2 : Hid (wB.ownsRow w1.heap.size PlT 3 (.slice adA (ps.length + [(n, q, t.size)].length) capA) (ps ++ [(n, q, t.size)]).length (Gk.rc plE (ps ++ [(n, q, t.size)]))) := rowKeep (Gk.own_below hrowA (below_alloc1 _ _)) hgB HNA2.out) | skip)) | (refine Gk.step_append_keep (enc := sE) ?_ (.tmp 84) (.tmp 89) 45 ?_ StrT (.string ⟨#[]⟩) 16 Tryz.underlying45 str_inf rfl ?_ sE_len sE_one w1.heap.size u11 ts ?_ ?_ (w6.heap.size) 0 [t] 1 1 ?_ rfl ?_ ?_ ?_ ?_ ?_; rfl; rfl; decide; rfl; exact HTB _ (by assumption); rfl; exact (cellsB (keepBlk (below_alloc1 _ _).drew (heap_alloc_new _ _))); (show (ts.length + 1) * 16 ≤ _; omega); (show ts.length + 1 ≤ _; omega); exact HTZ _ (by assumption); intro adB capB wB hrowB hgB hkeepB hatB; have HNB2 : Hid (∀ g, (Value.slice adB (ts.length + [t].length) capB).ownBlock = some g → (u10).ownBlock ≠ some g) := neNew hatB HNE2.out HUA.out (by first | (simp; done) | (simp; omega) | (have := HSA.out; simp; omega)); have HGB : Hid (∀ g, (Value.slice adB (ts.length + [t].length) capB).ownBlock = some g → (u11).ownBlock = some g ∨ w6.heap.size ≤ g) := fun g hg => (hatB g hg).imp id fun h => Nat.le_trans (by first | (simp; done) | (simp; omega) | (have := HSA.out; simp; omega)) h; have HSB : Hid (w6.heap.size ≤ wB.heap.size) := Nat.le_trans (by first | (simp; done) | (simp; omega) | (have := HSA.out; simp; omega)) hgB.size; (first | (have HKA : Hid (wB.heap[w6.heap.size]? = some (.cells #[.int .i64 n, .int .i64 q, .int .i64 t.size] PlT (0, 0))) := keepGr hgB (heap_alloc_new _ _) HUB.out (by first | (simp; done) | (simp; omega))) | (have HKA : Hid (wB.heap[w6.heap.size + 1]? = some (.cells #[.int .i64 n, .int .i64 q, .int .i64 t.size] PlT (0, 0))) := keepGr hgB (heap_alloc_two _ _ _) HUB.out (by first | (simp; done) | (simp; omega))) | (have HKA : Hid (wB.heap[w6.heap.size]? = some (.cells #[.int .i64 n, .int .i64 q, .int .i64 t.size] PlT (0, 0))) := keepGr hgB (keepBlk (below_alloc1 _ _) (heap_alloc_new _ _)) HUB.out (by first | (simp; done) | (simp; omega))) | (have HKA : Hid (wB.heap[w6.heap.size]? = some (.cells #[.int .i64 n, .int .i64 q, .int .i64 t.size] PlT (0, 0))) := keepGr hgB (keepBlk (below_alloc1 _ _).drew (heap_alloc_new _ _)) HUB.out (by first | (simp; done) | (simp; omega))) | skip); (first | (have HA2 : Hid (wB.ownsRow w1.heap.size PlT 3 (.slice adA (ps.length + [(n, q, t.size)].length) capA) (ps ++ [(n, q, t.size)]).length (Gk.rc plE (ps ++ [(n, q, t.size)]))) := rowKeep hrowA hgB HNA2.out) | (have HA2 : Hid (wB.ownsRow w1.heap.size PlT 3 (.slice adA (ps.length + [(n, q, t.size)].length) capA) (ps ++ [(n, q, t.size)]).length (Gk.rc plE (ps ++ [(n, q, t.size)]))) := rowKeep (Gk.own_below hrowA (below_alloc1 _ _)) hgB HNA2.out) | skip)) | (refine Gk.step_append_keep (enc := sE) ?_ (.tmp 84) (.tmp 89) 45 ?_ StrT (.string ⟨#[]⟩) 16 Tryz.underlying45 str_inf rfl ?_ sE_len sE_one w1.heap.size u11 ts ?_ ?_ (w6.heap.size) 0 [t] 1 1 ?_ rfl ?_ ?_ ?_ ?_ ?_; rfl; rfl; decide; rfl; exact HTB _ (by assumption); rfl; exact (cellsB HKB.out); (show (ts.length + 1) * 16 ≤ _; omega); (show ts.length + 1 ≤ _; omega); exact HTZ _ (by assumption); intro adB capB wB hrowB hgB hkeepB hatB; have HNB2 : Hid (∀ g, (Value.slice adB (ts.length + [t].length) capB).ownBlock = some g → (u10).ownBlock ≠ some g) := neNew hatB HNE2.out HUA.out (by first | (simp; done) | (simp; omega) | (have := HSA.out; simp; omega)); have HGB : Hid (∀ g, (Value.slice adB (ts.length + [t].length) capB).ownBlock = some g → (u11).ownBlock = some g ∨ w6.heap.size ≤ g) := fun g hg => (hatB g hg).imp id fun h => Nat.le_trans (by first | (simp; done) | (simp; omega) | (have := HSA.out; simp; omega)) h; have HSB : Hid (w6.heap.size ≤ wB.heap.size) := Nat.le_trans (by first | (simp; done) | (simp; omega) | (have := HSA.out; simp; omega)) hgB.size; (first | (have HKA : Hid (wB.heap[w6.heap.size]? = some (.cells #[.int .i64 n, .int .i64 q, .int .i64 t.size] PlT (0, 0))) := keepGr hgB (heap_alloc_new _ _) HUB.out (by first | (simp; done) | (simp; omega))) | (have HKA : Hid (wB.heap[w6.heap.size + 1]? = some (.cells #[.int .i64 n, .int .i64 q, .int .i64 t.size] PlT (0, 0))) := keepGr hgB (heap_alloc_two _ _ _) HUB.out (by first | (simp; done) | (simp; omega))) | (have HKA : Hid (wB.heap[w6.heap.size]? = some (.cells #[.int .i64 n, .int .i64 q, .int .i64 t.size] PlT (0, 0))) := keepGr hgB (keepBlk (below_alloc1 _ _) (heap_alloc_new _ _)) HUB.out (by first | (simp; done) | (simp; omega))) | (have HKA : Hid (wB.heap[w6.heap.size]? = some (.cells #[.int .i64 n, .int .i64 q, .int .i64 t.size] PlT (0, 0))) := keepGr hgB (keepBlk (below_alloc1 _ _).drew (heap_alloc_new _ _)) HUB.out (by first | (simp; done) | (simp; omega))) | skip); (first | (have HA2 : Hid (wB.ownsRow w1.heap.size PlT 3 (.slice adA (ps.length + [(n, q, t.size)].length) capA) (ps ++ [(n, q, t.size)]).length (Gk.rc plE (ps ++ [(n, q, t.size)]))) := rowKeep hrowA hgB HNA2.out) | (have HA2 : Hid (wB.ownsRow w1.heap.size PlT 3 (.slice adA (ps.length + [(n, q, t.size)].length) capA) (ps ++ [(n, q, t.size)]).length (Gk.rc plE (ps ++ [(n, q, t.size)]))) := rowKeep (Gk.own_below hrowA (below_alloc1 _ _)) hgB HNA2.out) | skip)) | (refine Gk.step_append_keep (enc := sE) ?_ (.tmp 84) (.tmp 89) 45 ?_ StrT (.string ⟨#[]⟩) 16 Tryz.underlying45 str_inf rfl ?_ sE_len sE_one w1.heap.size u11 ts ?_ ?_ (w6.heap.size + 1) 0 [t] 1 1 ?_ rfl ?_ ?_ ?_ ?_ ?_; rfl; rfl; decide; rfl; exact HTB _ (by assumption); rfl; exact (cellsB (heap_alloc_two _ _ _)); (show (ts.length + 1) * 16 ≤ _; omega); (show ts.length + 1 ≤ _; omega); exact HTZ _ (by assumption); intro adB capB wB hrowB hgB hkeepB hatB; have HNB2 : Hid (∀ g, (Value.slice adB (ts.length + [t].length) capB).ownBlock = some g → (u10).ownBlock ≠ some g) := neNew hatB HNE2.out HUA.out (by first | (simp; done) | (simp; omega) | (have := HSA.out; simp; omega)); have HGB : Hid (∀ g, (Value.slice adB (ts.length + [t].length) capB).ownBlock = some g → (u11).ownBlock = some g ∨ w6.heap.size ≤ g) := fun g hg => (hatB g hg).imp id fun h => Nat.le_trans (by first | (simp; done) | (simp; omega) | (have := HSA.out; simp; omega)) h; have HSB : Hid (w6.heap.size ≤ wB.heap.size) := Nat.le_trans (by first | (simp; done) | (simp; omega) | (have := HSA.out; simp; omega)) hgB.size; (first | (have HKA : Hid (wB.heap[w6.heap.size]? = some (.cells #[.int .i64 n, .int .i64 q, .int .i64 t.size] PlT (0, 0))) := keepGr hgB (heap_alloc_new _ _) HUB.out (by first | (simp; done) | (simp; omega))) | (have HKA : Hid (wB.heap[w6.heap.size + 1]? = some (.cells #[.int .i64 n, .int .i64 q, .int .i64 t.size] PlT (0, 0))) := keepGr hgB (heap_alloc_two _ _ _) HUB.out (by first | (simp; done) | (simp; omega))) | (have HKA : Hid (wB.heap[w6.heap.size]? = some (.cells #[.int .i64 n, .int .i64 q, .int .i64 t.size] PlT (0, 0))) := keepGr hgB (keepBlk (below_alloc1 _ _) (heap_alloc_new _ _)) HUB.out (by first | (simp; done) | (simp; omega))) | (have HKA : Hid (wB.heap[w6.heap.size]? = some (.cells #[.int .i64 n, .int .i64 q, .int .i64 t.size] PlT (0, 0))) := keepGr hgB (keepBlk (below_alloc1 _ _).drew (heap_alloc_new _ _)) HUB.out (by first | (simp; done) | (simp; omega))) | skip); (first | (have HA2 : Hid (wB.ownsRow w1.heap.size PlT 3 (.slice adA (ps.length + [(n, q, t.size)].length) capA) (ps ++ [(n, q, t.size)]).length (Gk.rc plE (ps ++ [(n, q, t.size)]))) := rowKeep hrowA hgB HNA2.out) | (have HA2 : Hid (wB.ownsRow w1.heap.size PlT 3 (.slice adA (ps.length + [(n, q, t.size)].length) capA) (ps ++ [(n, q, t.size)]).length (Gk.rc plE (ps ++ [(n, q, t.size)]))) := rowKeep (Gk.own_below hrowA (below_alloc1 _ _)) hgB HNA2.out) | skip)) | (refine Gk.step_append_keep (enc := sE) ?_ (.tmp 84) (.tmp 89) 45 ?_ StrT (.string ⟨#[]⟩) 16 Tryz.underlying45 str_inf rfl ?_ sE_len sE_one w1.heap.size u11 ts ?_ ?_ (w6.heap.size + 1) 0 [t] 1 1 ?_ rfl ?_ ?_ ?_ ?_ ?_; rfl; rfl; decide; rfl; exact HTB _ (by assumption); rfl; exact (cellsB HKB.out); (show (ts.length + 1) * 16 ≤ _; omega); (show ts.length + 1 ≤ _; omega); exact HTZ _ (by assumption); intro adB capB wB hrowB hgB hkeepB hatB; have HNB2 : Hid (∀ g, (Value.slice adB (ts.length + [t].length) capB).ownBlock = some g → (u10).ownBlock ≠ some g) := neNew hatB HNE2.out HUA.out (by first | (simp; done) | (simp; omega) | (have := HSA.out; simp; omega)); have HGB : Hid (∀ g, (Value.slice adB (ts.length + [t].length) capB).ownBlock = some g → (u11).ownBlock = some g ∨ w6.heap.size ≤ g) := fun g hg => (hatB g hg).imp id fun h => Nat.le_trans (by first | (simp; done) | (simp; omega) | (have := HSA.out; simp; omega)) h; have HSB : Hid (w6.heap.size ≤ wB.heap.size) := Nat.le_trans (by first | (simp; done) | (simp; omega) | (have := HSA.out; simp; omega)) hgB.size; (first | (have HKA : Hid (wB.heap[w6.heap.size]? = some (.cells #[.int .i64 n, .int .i64 q, .int .i64 t.size] PlT (0, 0))) := keepGr hgB (heap_alloc_new _ _) HUB.out (by first | (simp; done) | (simp; omega))) | (have HKA : Hid (wB.heap[w6.heap.size + 1]? = some (.cells #[.int .i64 n, .int .i64 q, .int .i64 t.size] PlT (0, 0))) := keepGr hgB (heap_alloc_two _ _ _) HUB.out (by first | (simp; done) | (simp; omega))) | (have HKA : Hid (wB.heap[w6.heap.size]? = some (.cells #[.int .i64 n, .int .i64 q, .int .i64 t.size] PlT (0, 0))) := keepGr hgB (keepBlk (below_alloc1 _ _) (heap_alloc_new _ _)) HUB.out (by first | (simp; done) | (simp; omega))) | (have HKA : Hid (wB.heap[w6.heap.size]? = some (.cells #[.int .i64 n, .int .i64 q, .int .i64 t.size] PlT (0, 0))) := keepGr hgB (keepBlk (below_alloc1 _ _).drew (heap_alloc_new _ _)) HUB.out (by first | (simp; done) | (simp; omega))) | skip); (first | (have HA2 : Hid (wB.ownsRow w1.heap.size PlT 3 (.slice adA (ps.length + [(n, q, t.size)].length) capA) (ps ++ [(n, q, t.size)]).length (Gk.rc plE (ps ++ [(n, q, t.size)]))) := rowKeep hrowA hgB HNA2.out) | (have HA2 : Hid (wB.ownsRow w1.heap.size PlT 3 (.slice adA (ps.length + [(n, q, t.size)].length) capA) (ps ++ [(n, q, t.size)]).length (Gk.rc plE (ps ++ [(n, q, t.size)]))) := rowKeep (Gk.own_below hrowA (below_alloc1 _ _)) hgB HNA2.out) | skip)) | (refine Gk.step_append_keep (enc := sE) ?_ (.tmp 84) (.tmp 89) 45 ?_ StrT (.string ⟨#[]⟩) 16 Tryz.underlying45 str_inf rfl ?_ sE_len sE_one w1.heap.size u11 ts ?_ ?_ (wA.heap.size) 0 [t] 1 1 ?_ rfl ?_ ?_ ?_ ?_ ?_; rfl; rfl; decide; rfl; exact HTB _ (by assumption); rfl; exact (cellsB (heap_alloc_new _ _)); (show (ts.length + 1) * 16 ≤ _; omega); (show ts.length + 1 ≤ _; omega); exact HTZ _ (by assumption); intro adB capB wB hrowB hgB hkeepB hatB; have HNB2 : Hid (∀ g, (Value.slice adB (ts.length + [t].length) capB).ownBlock = some g → (u10).ownBlock ≠ some g) := neNew hatB HNE2.out HUA.out (by first | (simp; done) | (simp; omega) | (have := HSA.out; simp; omega)); have HGB : Hid (∀ g, (Value.slice adB (ts.length + [t].length) capB).ownBlock = some g → (u11).ownBlock = some g ∨ w6.heap.size ≤ g) := fun g hg => (hatB g hg).imp id fun h => Nat.le_trans (by first | (simp; done) | (simp; omega) | (have := HSA.out; simp; omega)) h; have HSB : Hid (w6.heap.size ≤ wB.heap.size) := Nat.le_trans (by first | (simp; done) | (simp; omega) | (have := HSA.out; simp; omega)) hgB.size; (first | (have HKA : Hid (wB.heap[w6.heap.size]? = some (.cells #[.int .i64 n, .int .i64 q, .int .i64 t.size] PlT (0, 0))) := keepGr hgB (heap_alloc_new _ _) HUB.out (by first | (simp; done) | (simp; omega))) | (have HKA : Hid (wB.heap[w6.heap.size + 1]? = some (.cells #[.int .i64 n, .int .i64 q, .int .i64 t.size] PlT (0, 0))) := keepGr hgB (heap_alloc_two _ _ _) HUB.out (by first | (simp; done) | (simp; omega))) | (have HKA : Hid (wB.heap[w6.heap.size]? = some (.cells #[.int .i64 n, .int .i64 q, .int .i64 t.size] PlT (0, 0))) := keepGr hgB (keepBlk (below_alloc1 _ _) (heap_alloc_new _ _)) HUB.out (by first | (simp; done) | (simp; omega))) | (have HKA : Hid (wB.heap[w6.heap.size]? = some (.cells #[.int .i64 n, .int .i64 q, .int .i64 t.size] PlT (0, 0))) := keepGr hgB (keepBlk (below_alloc1 _ _).drew (heap_alloc_new _ _)) HUB.out (by first | (simp; done) | (simp; omega))) | skip); (first | (have HA2 : Hid (wB.ownsRow w1.heap.size PlT 3 (.slice adA (ps.length + [(n, q, t.size)].length) capA) (ps ++ [(n, q, t.size)]).length (Gk.rc plE (ps ++ [(n, q, t.size)]))) := rowKeep hrowA hgB HNA2.out) | (have HA2 : Hid (wB.ownsRow w1.heap.size PlT 3 (.slice adA (ps.length + [(n, q, t.size)].length) capA) (ps ++ [(n, q, t.size)]).length (Gk.rc plE (ps ++ [(n, q, t.size)]))) := rowKeep (Gk.own_below hrowA (below_alloc1 _ _)) hgB HNA2.out) | skip)) | fail)
            all_goals
              rename_i hHeld
              have hRB := HR6.out.both hHeld.2.out.1.vh HA2.out hrowB HGA.out HGB.out
              rw [show ps.length + [(n, q, t.size)].length = ps.length + 1 from rfl, show ts.length + [t].length = ts.length + 1 from rfl] at hRB
              have x0 : wB.cell? ⟨w.heap.size, 0, none⟩ = some (.int .i64 sy) := by
                rw [cell_of_block ((hRB.vh.base.block w.heap.size (by have := HZ1.out; omega)).trans HX1.out)]; rfl
              have HRB := hide hRB
              clear hHeld hrowA hgA hkeepA hatA hrowB hgB hkeepB hatB HA2 HNA2 HGA HNB2 HGB HSA HSB HTA HTB HTZ hTS c0 c1 c2 c3 hRB HNE HNE2 HUA HUB HR6
            all_goals
              by_cases hky : k ≤ Y
              case' pos => have y1 : (k : Int) ≤ (Y : Int) := by omega
              case' neg => have y1 : ¬ (k : Int) ≤ (Y : Int) := by omega
              all_goals
                go_wp2_with (first | (go_at_call 14; refine (hAs _).mono ?_; rintro e w7 ⟨rfl, rfl⟩))
              · exact ⟨⟨k + 1, ps ++ [(n, q, t.size)], ts ++ [t], sure, by omega, by omega, by rw [List.length_append, List.length_singleton]; omega, by go_num, rfl, own5, max top n, S5, HRB.out, by rw [List.length_append]; exact HF5.out.1, HF5.out.2.1, HF5.out.2.2⟩, by simp [intOf]; omega⟩
              · have hSy := Dk.sync_any wB (HRB.out.vh.disk.own (own' := plus own5 wB.heap.size) fun _ _ ho => Or.inl ho)
                rw [HF5.out.1.up.sync] at hSy
                refine hSy.mono ?_
                rintro e w8 ⟨rfl, hH8, hO8⟩
                have hT := HRB.out.vh.turn hH8 hO8
                have hR8 := HRB.out.step hT.1 hT.2
                have HR8 := hide hR8
                clear hSy hH8 hO8 hT hR8 x0
                go_wp2
                exact ⟨⟨k + 1, ps ++ [(n, q, t.size)], ts ++ [t], ps.length + 1, by omega, by omega, by rw [List.length_append, List.length_singleton]; omega, by go_num, by go_num, _, max top n, _, HR8.out, by rw [List.length_append]; exact HF5.out.1.sync HRB.out.vh.ok.rising, HF5.out.2.1.sync, by have := HF5.out.2.2.sync; rw [List.length_append] at this; exact this⟩, by simp [intOf]; omega⟩
          · have hl' : (1000 : Int) < (t.size : Int) := by omega
            have HLP : Hid (Lp w1 wr bd bv mm u10 u11 ps ts sure) := ⟨own, top, S, hR, hs, hc, hf⟩
            clear hR hs hc hf
            go_wp2
            go_roundw
            case rel => exact ⟨k + 1, ps, ts, sure, by omega, by omega, by omega, by go_num, rfl, HLP.out⟩
            case measure => simp [intOf]; omega
        · have HLP : Hid (Lp w1 wr bd bv mm u10 u11 ps ts sure) := ⟨own, top, S, hR, hs, hc, hf⟩
          clear hR hs hc hf
          by_cases hjl : k < ls.length
          · have j1 : (k : Int) < (ls.length : Int) := by omega
            have j3 : ¬ (k : Int) < 40 := by omega
            go_wp2
            go_meet
            case rel => exact ⟨ps, ts, sure, rfl, by omega, HLP.out⟩
          · have j1 : ¬ (k : Int) < (ls.length : Int) := by omega
            go_wp2
            go_meet
            case rel => exact ⟨ps, ts, sure, rfl, by omega, HLP.out⟩
    case rest =>
      obtain ⟨ps, ts, sure, rfl, hp40, own, top, S, hR, hs, hc, hf⟩ := hcut
      have x1 : wc.cell? ⟨w.heap.size, 1, none⟩ = some (.slice da ds.length dc) := by
        rw [cell_of_block ((hR.vh.base.block w.heap.size (by have := HZ1.out; omega)).trans HX1.out)]; rfl
      have hbw : Below w.heap.size w wc := HB01.out.trans (hR.vh.base.mono (by have := HZ1.out; omega))
      have hCr := Dk.crash_any wc (hR.vh.disk.own (own' := plus own wc.heap.size) fun _ _ ho => Or.inl ho) da dc ds (ints_lies hDs hbw fun b hb => by
        rcases hb with hb | hb
        · have := (hR.vh.old b hb).1; have := HZ1.out; omega
        · have := hbw.size; omega) hDs.room hDs.nil hDs.max hDs.each
      have hcr : S.crash ds = (0, { S with files := Dk.crashL S.files ds, fuse := -1, down := false }) := by unfold Dk.St.crash; rw [if_neg hdl]
      rw [hcr] at hCr
      have HR := hide hR
      have HF := hide hf
      have hAm := HAM.out
      have hmc := HMC.out
      clear hR hs hc hf HV4 HS4 xs0 xs1 hAs HAM
      go_wp2_with fail
      refine hCr.mono ?_
      rintro e w5 ⟨rfl, hH5, hO5⟩
      have hT := HR.out.vh.turn hH5 hO5
      have hR5 := HR.out.step hT.1 hT.2
      obtain ⟨S2, hS2⟩ : ∃ S2 : St, S2 = { S with files := Dk.crashL S.files ds, fuse := -1, down := false } := ⟨_, rfl⟩
      rw [← hS2] at hT hR5
      have hOp := Open_ok (most := mm) hR5.vh.disk hR5.vh.old hE1 hR5.vh.base ⟨by rw [hS2], by rw [hS2]⟩ hm1 hm2
      have HS2 := hide hS2
      have HR5 := hide hR5
      clear hCr hH5 hO5 hT hS2 hR5 x1 hcr
      go_wp2_with (first | (go_at_call 14; refine (hAm _).mono ?_; rintro e w5' ⟨rfl, rfl⟩))
      refine hOp.mono ?_
      rintro e w6 ⟨bv6, own6, S6, rfl, hV6, hOd6, -, hSt6⟩
      have hR6 := HR5.out.step hV6 (hSt6.wide (bv := bv))
      obtain ⟨Q, hQ⟩ := crash_open HF.out HR.out.vh.ok ds HS2.out hOd6
      have hmk := @run_makeMap Tryz.prog
      have hts : ts.length = ps.length := HF.out.len.symm
      have hM : Gk.MapIs (w6.alloc (.map #[] 0)) w6.heap.size 0 (fun _ => none) := Gk.MapIs.made w6
      have hR7 := hR6.below (below_alloc1 w6 (.map #[] 0))
      have hnm : ¬ wi own6 bv6 w6.heap.size := hR6.fresh (Nat.le_refl _)
      have hnA : ∀ g, u10.ownBlock = some g → g ≠ w6.heap.size := fun g hg => by have := (hR6.rA.lt g hg).2; omega
      have hnB : ∀ g, u11.ownBlock = some g → g ≠ w6.heap.size := fun g hg => by have := (hR6.rB.lt g hg).2; omega
      have hge := hR6.vh.base.size
      have HQ := hide hQ
      have HORD := hide HF.out.ord
      have HHT := hide hts
      obtain ⟨aA, cA, rfl⟩ := Gk.own_slice hR6.rA
      obtain ⟨aB, cB, rfl⟩ := Gk.own_slice hR6.rB
      have HR7 := hide hR7
      have HM := hide hM
      have HNN := hide (And.intro hnm (And.intro hnA hnB))
      obtain ⟨w7, hw7⟩ : ∃ w7, w7 = w6.alloc (.map #[] 0) := ⟨_, rfl⟩
      rw [← hw7] at HR7 HM
      generalize hbm : w6.heap.size = bm at *
      clear hOp HR HF HS2 HR5 hV6 hOd6 hSt6 hR6 hQ hts hM hR7 hnm hnA hnB hAm hmc
      go_wp2
      rw [← hw7]
      clear hw7 hbm hmk
      go_loopw [17, 18, 19, 20, 122] (fun _ _ _ _ iv wr => ∃ (k n : Nat) (f : Int → Option Value), k ≤ ps.length ∧ iv = .int .i64 k ∧ n ≤ k ∧ Rws w1 wr own6 bd bv6 mm (topL (nums S2)) S6 (.slice aA ps.length cA) (.slice aB ts.length cB) ps ts ∧ Gk.MapIs wr bm n f ∧ (∀ m : Nat, f (m : Int) = none ∨ f (m : Int) = some (.bool true) ∧ ∃ j, ∃ h : j < ps.length, j < k ∧ ps[j].1 = m ∧ ¬ ps[j].2.1 + ps[j].2.2 + 8 ≤ Q m)) (fun _ _ _ _ iv _ => ps.length - (intOf iv).toNat)
      case atStart => exact ⟨0, 0, fun _ => none, by omega, rfl, Nat.le_refl _, HR7.out, HM.out, fun m => Or.inl rfl⟩
      case round =>
        obtain ⟨k, n, f, hk, rfl, hnk, hR, hMp, hfm⟩ := hrel
        by_cases hlt : k < ps.length
        · obtain ⟨gA, offA, rfl, hgl, hc⟩ := (Gk.Row.lies (k := 3) (e := PlT) (n := ps.length) (cap := cA) (Gk.own_mono hR.rA (Nat.zero_le _))).at plE_len k hlt
          obtain ⟨gB, offB, rfl, hgl2, hcB⟩ := (Gk.Row.lies (k := 1) (e := StrT) (n := ts.length) (cap := cB) (Gk.own_mono hR.rB (Nat.zero_le _))).at sE_len k (by rw [HHT.out]; exact hlt)
          have p0 := hc 0 _ rfl
          have p1 := hc 1 _ rfl
          have p2 := hc 2 _ rfl
          rw [Nat.add_zero] at p0
          have q0 := hcB 0 _ rfl
          rw [Nat.mul_one, Nat.add_zero] at q0
          have hfile := HQ.out.file k hlt
          have hget := HQ.out.get k hlt (by rw [HHT.out]; exact hlt)
          have hsure := HQ.out.sure k hlt
          have HOR : Hid (∀ j (h : j < ps.length), j < k → ps[j].1 = ps[k].1 → ps[j].2.1 + ps[j].2.2 + 8 ≤ ps[k].2.1) := fun j h hjk e => HORD.out j k h hlt hjk e
          have HFM : Hid (∀ m : Nat, f (m : Int) = none ∨ f (m : Int) = some (.bool true) ∧ ∃ j, ∃ h : j < ps.length, j < k ∧ ps[j].1 = m ∧ ¬ ps[j].2.1 + ps[j].2.2 + 8 ≤ Q m) := hfm
          have HPK : Hid (ps[k] = (ps[k].1, ps[k].2.1, ps[k].2.2)) := rfl
          obtain ⟨pf, hpf⟩ : ∃ pf, pf = ps[k].1 := ⟨_, rfl⟩
          obtain ⟨pa, hpa⟩ : ∃ pa, pa = ps[k].2.1 := ⟨_, rfl⟩
          obtain ⟨pl, hpl⟩ : ∃ pl, pl = ps[k].2.2 := ⟨_, rfl⟩
          obtain ⟨tk, htk⟩ : ∃ tk, tk = ts[k]'(by rw [HHT.out]; exact hlt) := ⟨_, rfl⟩
          rw [← hpf] at p0 hfile hget hsure HOR
          rw [← hpa] at p1 hget hsure HOR
          rw [← hpl] at p2 hget hsure
          rw [← htk] at q0 hget
          have HPF := hide hpf
          have HPA := hide hpa
          have HPL := hide hpl
          have hpab : pf ≤ 1048576 := (nums_bound hfile).2
          obtain ⟨w8, hw8⟩ : ∃ w8, w8 = wr.alloc (.cells #[.int .i64 pf, .int .i64 pa, .int .i64 pl] PlT) := ⟨_, rfl⟩
          have hb8 : Below wr.heap.size wr w8 := by rw [hw8]; exact below_alloc1 _ _
          have hR8 := hR.below hb8
          have hdat := dat_le hR.vh.ok (show pf ≤ 1048577 by omega)
          have hpB : w8.heap[wr.heap.size]? = some (.cells #[.int .i64 pf, .int .i64 pa, .int .i64 pl] PlT (0, 0)) := by rw [hw8]; exact heap_alloc_new _ _
          have hsm := HQ.out.small k hlt
          rw [← hpa] at hsm
          have hG : Calls Tryz.prog 18 #[.pointer (some ⟨bv6, 0, none⟩), .agg #[.int .i64 pf, .int .i64 pa, .int .i64 pl]] w8 fun e w' => e = .returned (getV (if pa + pl + 8 ≤ Q pf then (tk, 0) else (⟨#[]⟩, 110))) ∧ Below w8.heap.size w8 w' := by
            have := Get_any hR8.vh hfile (pa : Int) (pl : Int) (by omega) (by omega)
            rw [hget] at this
            exact this
          have i1 : (0 : Int) ≤ (k : Int) := by omega
          have i2 : (k : Int) < (ps.length : Int) := by omega
          have i3 : (k : Int) < (ts.length : Int) := by have := HHT.out; omega
          have HR8 := hide hR8
          have HM8 := hide (hMp.below hb8)
          have HPB := hide hpB
          clear hpf hpa hpl htk hc hcB hR hMp hfm hR8 hpB hget hdat HR7 HM
          go_wp2_with fail
          rw [← hw8]
          refine hG.mono ?_
          rintro e w9 ⟨rfl, hb9⟩
          have hR9 := HR8.out.below hb9
          have hM9 := HM8.out.below hb9
          have hb89 := hb8.trans (hb9.mono hb8.size)
          have q9 := (hb89.cell (p := ⟨gB, offB + k, none⟩) hgl2).trans q0
          have x9 : w9.cell? ⟨wr.heap.size, 0, none⟩ = some (.int .i64 pf) := cell_of_block (keepBlk hb9 HPB.out) 0
          have HR9 := hide hR9
          have HM9 := hide hM9
          clear hG hb8 hb89 hb9 hw8 p0 p1 p2 q0 hR9
          by_cases hokq : pa + pl + 8 ≤ Q pf
          · rw [if_pos hokq]
            have hfn : f (pf : Int) = none := by
              rcases HFM.out pf with h | ⟨_, j, hj, hjk, e, hno⟩
              · exact h
              · have := HOR.out j hj hjk e
                exact absurd (by omega) hno
            have hlk := hM9.look (t := 60) (e := 4) Tryz.underlying60 (z := .bool false) (by kernel_rfl) (x := pf) ⟨by omega, by omega⟩
            rw [hfn] at hlk
            have hlk' : (Instr.lookup 60 (.map (some bm)) (.int .i64 pf) false).run Tryz.prog w9 = .ok (.bool false) w9 := hlk
            have beq : (tk.toList == tk.toList) = true := by simp
            clear hlk hM9
            by_cases hks : k < sure
            case' pos => have s1 : (k : Int) < (sure : Int) := by omega
            case' neg => have s1 : ¬ (k : Int) < (sure : Int) := by omega
            all_goals
              go_wp2
              go_roundw
              case rel => exact ⟨k + 1, n, f, by omega, by go_num, by omega, HR9.out, HM9.out, fun m => (HFM.out m).imp id fun ⟨h1, j, hj, hjk, h2⟩ => ⟨h1, j, hj, by omega, h2⟩⟩
              case measure => simp [intOf]; omega
          · rw [if_neg hokq]
            have s1 : ¬ (k : Int) < (sure : Int) := fun h => hokq (hsure (by omega))
            obtain ⟨w10, hrun, hM10, hg10⟩ := hM9.put (t := 60) (e := 4) Tryz.underlying60 (by omega) (x := pf) ⟨by omega, by omega⟩ (.bool true)
            have hR10 := HR9.out.mapped hg10 HNN.out.1 hge HNN.out.2.1 HNN.out.2.2
            have HR10 := hide hR10
            have HM10 := hide hM10
            clear hM9 hM10 hR10 hg10
            go_wp2
            go_roundw
            case rel =>
              refine ⟨k + 1, n + 1, Gk.upd f pf (.bool true), by omega, by go_num, by omega, HR10.out, HM10.out, fun m => ?_⟩
              by_cases em : m = pf
              · subst em
                exact Or.inr ⟨Gk.upd_same _ _ _, k, hlt, by omega, HPF.out.symm, by rw [← HPA.out, ← HPL.out]; exact hokq⟩
              · rw [Gk.upd_other f _ (show (m : Int) ≠ (pf : Int) by omega)]
                exact (HFM.out m).imp id fun ⟨h1, j, hj, hjk, h2⟩ => ⟨h1, j, hj, by omega, h2⟩
            case measure => simp [intOf]; omega
        · obtain rfl : k = ps.length := by omega
          have hbe := hR.vh.base
          clear hR
          go_wp2
          go_ret
          exact ⟨rfl, HB01.out.trans (hbe.mono (by have := HZ1.out; omega))⟩

theorem safe_row (mo : Int) (a : Option Addr) (cap : Nat) (ls : List ByteArray) (x : CrA) (w : World) (hmo : (Lit.int .i64 mo).wf = true) (hL : Gk.TextsAt w a cap ls) (hx : CrAt w x) (hE : Env w) :
    Calls Tryz.prog 5 #[.int .i64 mo, .slice a ls.length cap, .agg #[.int .i64 x.sy, .slice x.a x.ds.length x.cap]] w fun e w' => e = .returned (.bool true) ∧ Below w.heap.size w w' :=
  safe_law mo a cap ls x.sy x.a x.cap x.ds w hmo hL hx.sync hx.toIntsAt hE

end Go.Proofs.YtlojajgehaiefaaGreatDoor.Vl
