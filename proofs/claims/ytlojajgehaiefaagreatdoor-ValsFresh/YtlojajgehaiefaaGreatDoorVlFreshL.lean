/- ValsFresh: for all arguments that can be read the law returns true, and all read as they did. -/
import Derived.Test.YtlojajgehaiefaaGreatDoorVlFreshP
import Derived.Test.YtlojajgehaiefaaGreatDoorGArgs
import Derived.Test.YtlojajgehaiefaaGreatDoorGAmong
import Derived.Deep.CutRange
import Derived.Deep.CutBlock
namespace Go.Proofs.YtlojajgehaiefaaGreatDoor.Vl
open Go.RowKit Go.Joins
open Go.Proofs.YtlojajgehaiefaaGreatDoor.Dk (Bs Fil Fls St St.Ok Held Only Rising)

/-- a text's cell, in worlds that come behind -/
theorem text_cellF {w : World} {a : Option Addr} {cap : Nat} {ts : List ByteArray} (h : Gk.TextsAt w a cap ts) (k : Nat) (hk : k < ts.length) : ∃ b off, a = some ⟨b, off, none⟩ ∧ b < w.heap.size ∧ ∀ W, Below w.heap.size w W → W.cell? ⟨b, off + k, none⟩ = some (.string ts[k]) := by
  obtain ⟨b, off, rfl, hlt, hc⟩ := h.lies.at Gk.tenc_len k hk
  refine ⟨b, off, rfl, hlt, fun W hb => ?_⟩
  obtain ⟨b', off', e, _, hc'⟩ := (h.lies.below hb).at Gk.tenc_len k hk
  cases e
  have := hc' 0 _ rfl
  rwa [Nat.mul_one, Nat.add_zero] at this
/-- what the law's first loop keeps -/
def LpF (w1 wc : World) (bd bv mm : Nat) (vA vB : Value) (ps : List (Nat × Nat × Nat)) (ts : List ByteArray) : Prop := ∃ (own : Nat → Prop) (top : Nat) (S : St), Rws w1 wc own bd bv mm top S vA vB ps ts ∧ Vs S top 508 ps.length ∧ Cln S ∧ Sf S ps ts 0

set_option maxRecDepth 100000 in
set_option maxHeartbeats 12800000 in
theorem fresh_law (mo : Int) (a : Option Addr) (cap : Nat) (ls : List ByteArray) (go : Int) (w : World) (hmo : (Lit.int .i64 mo).wf = true) (hL : Gk.TextsAt w a cap ls) (hgo : (Lit.int .i64 go).wf = true) (hE : Env w) :
    Calls Tryz.prog 6 #[.int .i64 mo, .slice a ls.length cap, .int .i64 go] w fun e w' => e = .returned (.bool true) ∧ Below w.heap.size w w' := by
  have hN := Dk.new_ok 262144 w (by omega)
  obtain ⟨m0, m1⟩ : -9223372036854775808 ≤ mo ∧ mo ≤ 9223372036854775807 := bounds_i64 hmo
  have hAm := fun W => Gk.among_any mo 60 W (by omega) (by omega) m0 m1
  obtain ⟨M, hM⟩ : ∃ M : Nat, (M : Int) = mo % 60 := ⟨(mo % 60).toNat, by omega⟩
  have hMb : M < 60 := by omega
  simp only [← hM] at hAm
  have hgb := bounds_i64 hgo
  clear hM hmo m0 m1 hgo
  have hll : ls.length ≤ 9223372036854775807 := by have := hL.room; have := hL.max; omega
  obtain ⟨mm, hmm⟩ : ∃ mm : Nat, mm = M + 1 := ⟨_, rfl⟩
  have hmc : (1 : Int) + (M : Int) = (mm : Int) := by omega
  have hm1 : 1 ≤ mm := by omega
  have hm2 : mm ≤ 65536 := by omega
  clear hmm
  go_enter Tryz.func6, Tryz.ntmps6
  go_wp2_with fail
  refine hN.mono ?_
  rintro e w2 ⟨bd, rfl, hH2, hb2⟩
  have hWk := works_any w2 (hE.below hb2)
  clear hN
  go_wp2_with fail
  refine hWk.mono ?_
  rintro e w3 ⟨rfl, hb3⟩
  have hO := new_open (most := mm) (c := 508) hE hH2 hb2 hm1 hm2 (by omega) hb3
  clear hWk
  go_wp2_with (first | (go_at_call 14; refine (hAm _).mono ?_; rintro e w3' ⟨rfl, rfl⟩))
  refine hO.mono ?_
  rintro e w4 ⟨bv, own4, S4, rfl, hV4, hs4, hc4, hn4⟩
  have HV4 := hide hV4
  have HS4 := hide (And.intro hs4 hc4)
  clear hO hAm hE hb2 hb3 hH2 hV4 hs4 hc4 hn4 hmc hMb
  go_upto_block 0 with fail
  go_cut [10, 11, 12, 13, 14] from 51 to 88 (fun vA vB _ _ _ wc => ∃ (ps : List (Nat × Nat × Nat)) (ts : List ByteArray), ps.length ≤ 40 ∧ LpF w wc bd bv mm vA vB ps ts)
  case first =>
    go_wp2
    go_loopw [10, 11, 12, 13, 14] (fun vA vB iv _ _ wr => ∃ (k : Nat) (ps : List (Nat × Nat × Nat)) (ts : List ByteArray), k ≤ ls.length ∧ k ≤ 40 ∧ ps.length ≤ k ∧ iv = .int .i64 k ∧ LpF w wr bd bv mm vA vB ps ts) (fun _ _ iv _ _ _ => ls.length - (intOf iv).toNat)
    case atStart => exact ⟨0, [], [], by omega, by omega, Nat.le_refl _, rfl, own4, 0, S4, ⟨HV4.out, World.ownsRow_nil _ _ _ _, World.ownsRow_nil _ _ _ _, by simp [Value.ownBlock], by simp [Value.ownBlock]⟩, HS4.out.1, HS4.out.2, Sf.nil _⟩
    case round =>
      obtain ⟨k, ps, ts, hk, hk50, hpk, rfl, own, top, S, hR, hs, hc, hf⟩ := hrel
      by_cases hin : k < ls.length ∧ k < 40
      · obtain ⟨hkl, hk2⟩ := hin
        obtain ⟨tb, toff, rfl, htb, htc⟩ := text_cellF hL k hkl
        have t0 := htc wr hR.vh.base
        generalize ls[k] = t at *
        have i1 : (0 : Int) ≤ (k : Int) := by omega
        have i2 : (k : Int) < (ls.length : Int) := by omega
        have i3 : (k : Int) < 40 := by omega
        by_cases hlong : t.size ≤ 500
        · have hl' : ¬ (500 : Int) < (t.size : Int) := by omega
          have hP := hR.vh.put hs (by omega) (by omega) t (by omega)
          have HR := hide hR
          have HSC := hide (And.intro hs (And.intro hc hf))
          clear hR hs hc hf
          go_wp2_with fail
          refine hP.mono ?_
          rintro e w5 ⟨n, own5, rfl, hn1, hn2, -, hV5, hs5, hst5, -⟩
          have hR5 := HR.out.step hV5 hst5
          have hf5 := HSC.out.2.2.put HR.out.vh.ok.rising HSC.out.2.1 hn1 (by have := HSC.out.1.topk; omega) (show t.size ≤ 65536 by omega)
          have hc5 := HSC.out.2.1.put (n := n) (s := t) HR.out.vh.ok.rising (show t.size ≤ 65536 by omega)
          generalize (dat S n).length = q at *
          generalize putS S n t = S5 at *
          have HF5 := hide (And.intro hs5 (And.intro hc5 hf5))
          obtain ⟨w6, hw6⟩ : ∃ w6, w6 = w5.alloc (.cells #[.int .i64 n, .int .i64 q, .int .i64 t.size] PlT) := ⟨_, rfl⟩
          have hb6 : Below w5.heap.size w5 w6 := by rw [hw6]; exact below_alloc1 _ _
          have hpb : w6.heap[w5.heap.size]? = some (.cells #[.int .i64 n, .int .i64 q, .int .i64 t.size] PlT (0, 0)) := by rw [hw6]; exact heap_alloc_new _ _
          have hz6 : w6.heap.size = w5.heap.size + 1 := by rw [hw6]; simp
          clear hP hV5 hst5 hs5 hc5 hf5 t0
          go_wp2_with fail
          rw [← hw6]
          have hR6 := hR5.below hb6
          have hTS : TS w own5 bd bv mm (max top n) S5 u10 u11 ps ts w5.heap.size (n, q, t.size) tb (toff + k) t w6 := ⟨⟨cell_of_block hpb 0, cell_of_block hpb 1, cell_of_block hpb 2, htc w6 hR6.vh.base⟩, hR6, by omega, htb, hR5.vh.base.size, fun g hg => by have := (hR5.rA.lt g hg).2; omega, fun g hg => by have := (hR5.rB.lt g hg).2; omega⟩
          have HNE : Hid (∀ g, u10.ownBlock = some g → u11.ownBlock ≠ some g) := fun g hg => hR6.ne hg
          have HNE2 : Hid (∀ g, u11.ownBlock = some g → u10.ownBlock ≠ some g) := fun g hg e => hR6.ne e hg
          have HUA : Hid (∀ g, u10.ownBlock = some g → g < w6.heap.size) := fun g hg => (hR6.rA.lt g hg).2
          have HUB : Hid (∀ g, u11.ownBlock = some g → g < w6.heap.size) := fun g hg => (hR6.rB.lt g hg).2
          have hpl40 : ps.length ≤ 40 := by omega
          have htl40 : ts.length ≤ 40 := by have := HSC.out.2.2.len; omega
          have HR6 := hide hR6
          have c0 := hTS.1.1
          have c1 := hTS.1.2.1
          have c2 := hTS.1.2.2.1
          have c3 := hTS.1.2.2.2
          have HTC := hide htc
          clear hpb hb6 hw6 hR5 hR6 htc hz6
          have HTA : ∀ W, TS w own5 bd bv mm (max top n) S5 u10 u11 ps ts w5.heap.size (n, q, t.size) tb (toff + k) t W → W.ownsRow w.heap.size PlT 3 u10 ps.length (Gk.rc plE ps) := fun W h => h.2.out.1.rA
          have HTB : ∀ W, TS w own5 bd bv mm (max top n) S5 u10 u11 ps ts w5.heap.size (n, q, t.size) tb (toff + k) t W → W.ownsRow w.heap.size StrT 1 u11 ts.length (Gk.rc sE ts) := fun W h => h.2.out.1.rB
          have HTZ : ∀ W, TS w own5 bd bv mm (max top n) S5 u10 u11 ps ts w5.heap.size (n, q, t.size) tb (toff + k) t W → w.heap.size ≤ W.heap.size := fun W h => h.2.out.1.vh.base.size
          go_region_held3 (TS w own5 bd bv mm (max top n) S5 u10 u11 ps ts w5.heap.size (n, q, t.size) tb (toff + k) t) (first | with_reducible exact TS.drew (by assumption) | with_reducible exact TS.alloc (by assumption) _ | with_reducible assumption | with_reducible exact TS.drew (TS.alloc hTS _) | with_reducible exact TS.drew (TS.alloc (TS.alloc hTS _) _) | with_reducible exact TS.keepA (by assumption) (by assumption) (by assumption) | with_reducible exact TS.keepB (by assumption) (by assumption) (by assumption) | fail)
            (first | (refine Gk.step_append_keep (enc := plE) ?_ (.tmp 78) (.tmp 80) 47 ?_ PlT (.agg #[.int .i64 0, .int .i64 0, .int .i64 0]) 24 Tryz.underlying47 pl_info rfl ?_ plE_len plE_one w.heap.size u10 ps ?_ ?_ (w6.heap.size) 0 [(n, q, t.size)] 1 1 ?_ rfl ?_ ?_ ?_ ?_ ?_; rfl; rfl; decide; rfl; exact HTA _ (by assumption); rfl; exact (cellsA (p := (n, q, t.size)) (heap_alloc_new _ _)); (show (ps.length + 1) * 24 ≤ _; omega); (show ps.length + 1 ≤ _; omega); exact HTZ _ (by assumption); intro adA capA wA hrowA hgA hkeepA hatA; have HNA2 : Hid (∀ g, (Value.slice adA (ps.length + [(n, q, t.size)].length) capA).ownBlock = some g → (u11).ownBlock ≠ some g) := neNew hatA HNE.out HUB.out (by first | (simp; done) | (simp; omega) | (have := HSB.out; simp; omega)); have HGA : Hid (∀ g, (Value.slice adA (ps.length + [(n, q, t.size)].length) capA).ownBlock = some g → (u10).ownBlock = some g ∨ w6.heap.size ≤ g) := fun g hg => (hatA g hg).imp id fun h => Nat.le_trans (by first | (simp; done) | (simp; omega) | (have := HSB.out; simp; omega)) h; have HSA : Hid (w6.heap.size ≤ wA.heap.size) := Nat.le_trans (by first | (simp; done) | (simp; omega) | (have := HSB.out; simp; omega)) hgA.size; (first | (have HKB : Hid (wA.heap[w6.heap.size]? = some (.cells #[.string t] StrT (0, 0))) := keepGr hgA (heap_alloc_new _ _) HUA.out (by first | (simp; done) | (simp; omega))) | (have HKB : Hid (wA.heap[w6.heap.size + 1]? = some (.cells #[.string t] StrT (0, 0))) := keepGr hgA (heap_alloc_two _ _ _) HUA.out (by first | (simp; done) | (simp; omega))) | (have HKB : Hid (wA.heap[w6.heap.size]? = some (.cells #[.string t] StrT (0, 0))) := keepGr hgA (keepBlk (below_alloc1 _ _) (heap_alloc_new _ _)) HUA.out (by first | (simp; done) | (simp; omega))) | (have HKB : Hid (wA.heap[w6.heap.size]? = some (.cells #[.string t] StrT (0, 0))) := keepGr hgA (keepBlk (below_alloc1 _ _).drew (heap_alloc_new _ _)) HUA.out (by first | (simp; done) | (simp; omega))) | skip); (first | (have HB2 : Hid (wA.ownsRow w.heap.size StrT 1 (.slice adB (ts.length + [t].length) capB) (ts ++ [t]).length (Gk.rc sE (ts ++ [t]))) := rowKeep hrowB hgA HNB2.out) | (have HB2 : Hid (wA.ownsRow w.heap.size StrT 1 (.slice adB (ts.length + [t].length) capB) (ts ++ [t]).length (Gk.rc sE (ts ++ [t]))) := rowKeep (Gk.own_below hrowB (below_alloc1 _ _)) hgA HNB2.out) | skip)) | (refine Gk.step_append_keep (enc := plE) ?_ (.tmp 78) (.tmp 80) 47 ?_ PlT (.agg #[.int .i64 0, .int .i64 0, .int .i64 0]) 24 Tryz.underlying47 pl_info rfl ?_ plE_len plE_one w.heap.size u10 ps ?_ ?_ (w6.heap.size) 0 [(n, q, t.size)] 1 1 ?_ rfl ?_ ?_ ?_ ?_ ?_; rfl; rfl; decide; rfl; exact HTA _ (by assumption); rfl; exact (cellsA (p := (n, q, t.size)) (keepBlk (below_alloc1 _ _).drew (heap_alloc_new _ _))); (show (ps.length + 1) * 24 ≤ _; omega); (show ps.length + 1 ≤ _; omega); exact HTZ _ (by assumption); intro adA capA wA hrowA hgA hkeepA hatA; have HNA2 : Hid (∀ g, (Value.slice adA (ps.length + [(n, q, t.size)].length) capA).ownBlock = some g → (u11).ownBlock ≠ some g) := neNew hatA HNE.out HUB.out (by first | (simp; done) | (simp; omega) | (have := HSB.out; simp; omega)); have HGA : Hid (∀ g, (Value.slice adA (ps.length + [(n, q, t.size)].length) capA).ownBlock = some g → (u10).ownBlock = some g ∨ w6.heap.size ≤ g) := fun g hg => (hatA g hg).imp id fun h => Nat.le_trans (by first | (simp; done) | (simp; omega) | (have := HSB.out; simp; omega)) h; have HSA : Hid (w6.heap.size ≤ wA.heap.size) := Nat.le_trans (by first | (simp; done) | (simp; omega) | (have := HSB.out; simp; omega)) hgA.size; (first | (have HKB : Hid (wA.heap[w6.heap.size]? = some (.cells #[.string t] StrT (0, 0))) := keepGr hgA (heap_alloc_new _ _) HUA.out (by first | (simp; done) | (simp; omega))) | (have HKB : Hid (wA.heap[w6.heap.size + 1]? = some (.cells #[.string t] StrT (0, 0))) := keepGr hgA (heap_alloc_two _ _ _) HUA.out (by first | (simp; done) | (simp; omega))) | (have HKB : Hid (wA.heap[w6.heap.size]? = some (.cells #[.string t] StrT (0, 0))) := keepGr hgA (keepBlk (below_alloc1 _ _) (heap_alloc_new _ _)) HUA.out (by first | (simp; done) | (simp; omega))) | (have HKB : Hid (wA.heap[w6.heap.size]? = some (.cells #[.string t] StrT (0, 0))) := keepGr hgA (keepBlk (below_alloc1 _ _).drew (heap_alloc_new _ _)) HUA.out (by first | (simp; done) | (simp; omega))) | skip); (first | (have HB2 : Hid (wA.ownsRow w.heap.size StrT 1 (.slice adB (ts.length + [t].length) capB) (ts ++ [t]).length (Gk.rc sE (ts ++ [t]))) := rowKeep hrowB hgA HNB2.out) | (have HB2 : Hid (wA.ownsRow w.heap.size StrT 1 (.slice adB (ts.length + [t].length) capB) (ts ++ [t]).length (Gk.rc sE (ts ++ [t]))) := rowKeep (Gk.own_below hrowB (below_alloc1 _ _)) hgA HNB2.out) | skip)) | (refine Gk.step_append_keep (enc := plE) ?_ (.tmp 78) (.tmp 80) 47 ?_ PlT (.agg #[.int .i64 0, .int .i64 0, .int .i64 0]) 24 Tryz.underlying47 pl_info rfl ?_ plE_len plE_one w.heap.size u10 ps ?_ ?_ (w6.heap.size) 0 [(n, q, t.size)] 1 1 ?_ rfl ?_ ?_ ?_ ?_ ?_; rfl; rfl; decide; rfl; exact HTA _ (by assumption); rfl; exact (cellsA (p := (n, q, t.size)) HKA.out); (show (ps.length + 1) * 24 ≤ _; omega); (show ps.length + 1 ≤ _; omega); exact HTZ _ (by assumption); intro adA capA wA hrowA hgA hkeepA hatA; have HNA2 : Hid (∀ g, (Value.slice adA (ps.length + [(n, q, t.size)].length) capA).ownBlock = some g → (u11).ownBlock ≠ some g) := neNew hatA HNE.out HUB.out (by first | (simp; done) | (simp; omega) | (have := HSB.out; simp; omega)); have HGA : Hid (∀ g, (Value.slice adA (ps.length + [(n, q, t.size)].length) capA).ownBlock = some g → (u10).ownBlock = some g ∨ w6.heap.size ≤ g) := fun g hg => (hatA g hg).imp id fun h => Nat.le_trans (by first | (simp; done) | (simp; omega) | (have := HSB.out; simp; omega)) h; have HSA : Hid (w6.heap.size ≤ wA.heap.size) := Nat.le_trans (by first | (simp; done) | (simp; omega) | (have := HSB.out; simp; omega)) hgA.size; (first | (have HKB : Hid (wA.heap[w6.heap.size]? = some (.cells #[.string t] StrT (0, 0))) := keepGr hgA (heap_alloc_new _ _) HUA.out (by first | (simp; done) | (simp; omega))) | (have HKB : Hid (wA.heap[w6.heap.size + 1]? = some (.cells #[.string t] StrT (0, 0))) := keepGr hgA (heap_alloc_two _ _ _) HUA.out (by first | (simp; done) | (simp; omega))) | (have HKB : Hid (wA.heap[w6.heap.size]? = some (.cells #[.string t] StrT (0, 0))) := keepGr hgA (keepBlk (below_alloc1 _ _) (heap_alloc_new _ _)) HUA.out (by first | (simp; done) | (simp; omega))) | (have HKB : Hid (wA.heap[w6.heap.size]? = some (.cells #[.string t] StrT (0, 0))) := keepGr hgA (keepBlk (below_alloc1 _ _).drew (heap_alloc_new _ _)) HUA.out (by first | (simp; done) | (simp; omega))) | skip); (first | (have HB2 : Hid (wA.ownsRow w.heap.size StrT 1 (.slice adB (ts.length + [t].length) capB) (ts ++ [t]).length (Gk.rc sE (ts ++ [t]))) := rowKeep hrowB hgA HNB2.out) | (have HB2 : Hid (wA.ownsRow w.heap.size StrT 1 (.slice adB (ts.length + [t].length) capB) (ts ++ [t]).length (Gk.rc sE (ts ++ [t]))) := rowKeep (Gk.own_below hrowB (below_alloc1 _ _)) hgA HNB2.out) | skip)) | (refine Gk.step_append_keep (enc := plE) ?_ (.tmp 78) (.tmp 80) 47 ?_ PlT (.agg #[.int .i64 0, .int .i64 0, .int .i64 0]) 24 Tryz.underlying47 pl_info rfl ?_ plE_len plE_one w.heap.size u10 ps ?_ ?_ (w6.heap.size + 1) 0 [(n, q, t.size)] 1 1 ?_ rfl ?_ ?_ ?_ ?_ ?_; rfl; rfl; decide; rfl; exact HTA _ (by assumption); rfl; exact (cellsA (p := (n, q, t.size)) (heap_alloc_two _ _ _)); (show (ps.length + 1) * 24 ≤ _; omega); (show ps.length + 1 ≤ _; omega); exact HTZ _ (by assumption); intro adA capA wA hrowA hgA hkeepA hatA; have HNA2 : Hid (∀ g, (Value.slice adA (ps.length + [(n, q, t.size)].length) capA).ownBlock = some g → (u11).ownBlock ≠ some g) := neNew hatA HNE.out HUB.out (by first | (simp; done) | (simp; omega) | (have := HSB.out; simp; omega)); have HGA : Hid (∀ g, (Value.slice adA (ps.length + [(n, q, t.size)].length) capA).ownBlock = some g → (u10).ownBlock = some g ∨ w6.heap.size ≤ g) := fun g hg => (hatA g hg).imp id fun h => Nat.le_trans (by first | (simp; done) | (simp; omega) | (have := HSB.out; simp; omega)) h; have HSA : Hid (w6.heap.size ≤ wA.heap.size) := Nat.le_trans (by first | (simp; done) | (simp; omega) | (have := HSB.out; simp; omega)) hgA.size; (first | (have HKB : Hid (wA.heap[w6.heap.size]? = some (.cells #[.string t] StrT (0, 0))) := keepGr hgA (heap_alloc_new _ _) HUA.out (by first | (simp; done) | (simp; omega))) | (have HKB : Hid (wA.heap[w6.heap.size + 1]? = some (.cells #[.string t] StrT (0, 0))) := keepGr hgA (heap_alloc_two _ _ _) HUA.out (by first | (simp; done) | (simp; omega))) | (have HKB : Hid (wA.heap[w6.heap.size]? = some (.cells #[.string t] StrT (0, 0))) := keepGr hgA (keepBlk (below_alloc1 _ _) (heap_alloc_new _ _)) HUA.out (by first | (simp; done) | (simp; omega))) | (have HKB : Hid (wA.heap[w6.heap.size]? = some (.cells #[.string t] StrT (0, 0))) := keepGr hgA (keepBlk (below_alloc1 _ _).drew (heap_alloc_new _ _)) HUA.out (by first | (simp; done) | (simp; omega))) | skip); (first | (have HB2 : Hid (wA.ownsRow w.heap.size StrT 1 (.slice adB (ts.length + [t].length) capB) (ts ++ [t]).length (Gk.rc sE (ts ++ [t]))) := rowKeep hrowB hgA HNB2.out) | (have HB2 : Hid (wA.ownsRow w.heap.size StrT 1 (.slice adB (ts.length + [t].length) capB) (ts ++ [t]).length (Gk.rc sE (ts ++ [t]))) := rowKeep (Gk.own_below hrowB (below_alloc1 _ _)) hgA HNB2.out) | skip)) | (refine Gk.step_append_keep (enc := plE) ?_ (.tmp 78) (.tmp 80) 47 ?_ PlT (.agg #[.int .i64 0, .int .i64 0, .int .i64 0]) 24 Tryz.underlying47 pl_info rfl ?_ plE_len plE_one w.heap.size u10 ps ?_ ?_ (w6.heap.size + 1) 0 [(n, q, t.size)] 1 1 ?_ rfl ?_ ?_ ?_ ?_ ?_; rfl; rfl; decide; rfl; exact HTA _ (by assumption); rfl; exact (cellsA (p := (n, q, t.size)) HKA.out); (show (ps.length + 1) * 24 ≤ _; omega); (show ps.length + 1 ≤ _; omega); exact HTZ _ (by assumption); intro adA capA wA hrowA hgA hkeepA hatA; have HNA2 : Hid (∀ g, (Value.slice adA (ps.length + [(n, q, t.size)].length) capA).ownBlock = some g → (u11).ownBlock ≠ some g) := neNew hatA HNE.out HUB.out (by first | (simp; done) | (simp; omega) | (have := HSB.out; simp; omega)); have HGA : Hid (∀ g, (Value.slice adA (ps.length + [(n, q, t.size)].length) capA).ownBlock = some g → (u10).ownBlock = some g ∨ w6.heap.size ≤ g) := fun g hg => (hatA g hg).imp id fun h => Nat.le_trans (by first | (simp; done) | (simp; omega) | (have := HSB.out; simp; omega)) h; have HSA : Hid (w6.heap.size ≤ wA.heap.size) := Nat.le_trans (by first | (simp; done) | (simp; omega) | (have := HSB.out; simp; omega)) hgA.size; (first | (have HKB : Hid (wA.heap[w6.heap.size]? = some (.cells #[.string t] StrT (0, 0))) := keepGr hgA (heap_alloc_new _ _) HUA.out (by first | (simp; done) | (simp; omega))) | (have HKB : Hid (wA.heap[w6.heap.size + 1]? = some (.cells #[.string t] StrT (0, 0))) := keepGr hgA (heap_alloc_two _ _ _) HUA.out (by first | (simp; done) | (simp; omega))) | (have HKB : Hid (wA.heap[w6.heap.size]? = some (.cells #[.string t] StrT (0, 0))) := keepGr hgA (keepBlk (below_alloc1 _ _) (heap_alloc_new _ _)) HUA.out (by first | (simp; done) | (simp; omega))) | (have HKB : Hid (wA.heap[w6.heap.size]? = some (.cells #[.string t] StrT (0, 0))) := keepGr hgA (keepBlk (below_alloc1 _ _).drew (heap_alloc_new _ _)) HUA.out (by first | (simp; done) | (simp; omega))) | skip); (first | (have HB2 : Hid (wA.ownsRow w.heap.size StrT 1 (.slice adB (ts.length + [t].length) capB) (ts ++ [t]).length (Gk.rc sE (ts ++ [t]))) := rowKeep hrowB hgA HNB2.out) | (have HB2 : Hid (wA.ownsRow w.heap.size StrT 1 (.slice adB (ts.length + [t].length) capB) (ts ++ [t]).length (Gk.rc sE (ts ++ [t]))) := rowKeep (Gk.own_below hrowB (below_alloc1 _ _)) hgA HNB2.out) | skip)) | (refine Gk.step_append_keep (enc := plE) ?_ (.tmp 78) (.tmp 80) 47 ?_ PlT (.agg #[.int .i64 0, .int .i64 0, .int .i64 0]) 24 Tryz.underlying47 pl_info rfl ?_ plE_len plE_one w.heap.size u10 ps ?_ ?_ (wB.heap.size) 0 [(n, q, t.size)] 1 1 ?_ rfl ?_ ?_ ?_ ?_ ?_; rfl; rfl; decide; rfl; exact HTA _ (by assumption); rfl; exact (cellsA (p := (n, q, t.size)) (heap_alloc_new _ _)); (show (ps.length + 1) * 24 ≤ _; omega); (show ps.length + 1 ≤ _; omega); exact HTZ _ (by assumption); intro adA capA wA hrowA hgA hkeepA hatA; have HNA2 : Hid (∀ g, (Value.slice adA (ps.length + [(n, q, t.size)].length) capA).ownBlock = some g → (u11).ownBlock ≠ some g) := neNew hatA HNE.out HUB.out (by first | (simp; done) | (simp; omega) | (have := HSB.out; simp; omega)); have HGA : Hid (∀ g, (Value.slice adA (ps.length + [(n, q, t.size)].length) capA).ownBlock = some g → (u10).ownBlock = some g ∨ w6.heap.size ≤ g) := fun g hg => (hatA g hg).imp id fun h => Nat.le_trans (by first | (simp; done) | (simp; omega) | (have := HSB.out; simp; omega)) h; have HSA : Hid (w6.heap.size ≤ wA.heap.size) := Nat.le_trans (by first | (simp; done) | (simp; omega) | (have := HSB.out; simp; omega)) hgA.size; (first | (have HKB : Hid (wA.heap[w6.heap.size]? = some (.cells #[.string t] StrT (0, 0))) := keepGr hgA (heap_alloc_new _ _) HUA.out (by first | (simp; done) | (simp; omega))) | (have HKB : Hid (wA.heap[w6.heap.size + 1]? = some (.cells #[.string t] StrT (0, 0))) := keepGr hgA (heap_alloc_two _ _ _) HUA.out (by first | (simp; done) | (simp; omega))) | (have HKB : Hid (wA.heap[w6.heap.size]? = some (.cells #[.string t] StrT (0, 0))) := keepGr hgA (keepBlk (below_alloc1 _ _) (heap_alloc_new _ _)) HUA.out (by first | (simp; done) | (simp; omega))) | (have HKB : Hid (wA.heap[w6.heap.size]? = some (.cells #[.string t] StrT (0, 0))) := keepGr hgA (keepBlk (below_alloc1 _ _).drew (heap_alloc_new _ _)) HUA.out (by first | (simp; done) | (simp; omega))) | skip); (first | (have HB2 : Hid (wA.ownsRow w.heap.size StrT 1 (.slice adB (ts.length + [t].length) capB) (ts ++ [t]).length (Gk.rc sE (ts ++ [t]))) := rowKeep hrowB hgA HNB2.out) | (have HB2 : Hid (wA.ownsRow w.heap.size StrT 1 (.slice adB (ts.length + [t].length) capB) (ts ++ [t]).length (Gk.rc sE (ts ++ [t]))) := rowKeep (Gk.own_below hrowB (below_alloc1 _ _)) hgA HNB2.out) | skip)) | (refine Gk.step_append_keep (enc := sE) ?_ (.tmp 82) (.tmp 87) 45 ?_ StrT (.string ⟨#[]⟩) 16 Tryz.underlying45 str_inf rfl ?_ sE_len sE_one w.heap.size u11 ts ?_ ?_ (w6.heap.size) 0 [t] 1 1 ?_ rfl ?_ ?_ ?_ ?_ ?_; rfl; rfl; decide; rfl; exact HTB _ (by assumption); rfl; exact (cellsB (heap_alloc_new _ _)); (show (ts.length + 1) * 16 ≤ _; omega); (show ts.length + 1 ≤ _; omega); exact HTZ _ (by assumption); intro adB capB wB hrowB hgB hkeepB hatB; have HNB2 : Hid (∀ g, (Value.slice adB (ts.length + [t].length) capB).ownBlock = some g → (u10).ownBlock ≠ some g) := neNew hatB HNE2.out HUA.out (by first | (simp; done) | (simp; omega) | (have := HSA.out; simp; omega)); have HGB : Hid (∀ g, (Value.slice adB (ts.length + [t].length) capB).ownBlock = some g → (u11).ownBlock = some g ∨ w6.heap.size ≤ g) := fun g hg => (hatB g hg).imp id fun h => Nat.le_trans (by first | (simp; done) | (simp; omega) | (have := HSA.out; simp; omega)) h; have HSB : Hid (w6.heap.size ≤ wB.heap.size) := Nat.le_trans (by first | (simp; done) | (simp; omega) | (have := HSA.out; simp; omega)) hgB.size; (first | (have HKA : Hid (wB.heap[w6.heap.size]? = some (.cells #[.int .i64 n, .int .i64 q, .int .i64 t.size] PlT (0, 0))) := keepGr hgB (heap_alloc_new _ _) HUB.out (by first | (simp; done) | (simp; omega))) | (have HKA : Hid (wB.heap[w6.heap.size + 1]? = some (.cells #[.int .i64 n, .int .i64 q, .int .i64 t.size] PlT (0, 0))) := keepGr hgB (heap_alloc_two _ _ _) HUB.out (by first | (simp; done) | (simp; omega))) | (have HKA : Hid (wB.heap[w6.heap.size]? = some (.cells #[.int .i64 n, .int .i64 q, .int .i64 t.size] PlT (0, 0))) := keepGr hgB (keepBlk (below_alloc1 _ _) (heap_alloc_new _ _)) HUB.out (by first | (simp; done) | (simp; omega))) | (have HKA : Hid (wB.heap[w6.heap.size]? = some (.cells #[.int .i64 n, .int .i64 q, .int .i64 t.size] PlT (0, 0))) := keepGr hgB (keepBlk (below_alloc1 _ _).drew (heap_alloc_new _ _)) HUB.out (by first | (simp; done) | (simp; omega))) | skip); (first | (have HA2 : Hid (wB.ownsRow w.heap.size PlT 3 (.slice adA (ps.length + [(n, q, t.size)].length) capA) (ps ++ [(n, q, t.size)]).length (Gk.rc plE (ps ++ [(n, q, t.size)]))) := rowKeep hrowA hgB HNA2.out) | (have HA2 : Hid (wB.ownsRow w.heap.size PlT 3 (.slice adA (ps.length + [(n, q, t.size)].length) capA) (ps ++ [(n, q, t.size)]).length (Gk.rc plE (ps ++ [(n, q, t.size)]))) := rowKeep (Gk.own_below hrowA (below_alloc1 _ _)) hgB HNA2.out) | skip)) | (refine Gk.step_append_keep (enc := sE) ?_ (.tmp 82) (.tmp 87) 45 ?_ StrT (.string ⟨#[]⟩) 16 Tryz.underlying45 str_inf rfl ?_ sE_len sE_one w.heap.size u11 ts ?_ ?_ (w6.heap.size) 0 [t] 1 1 ?_ rfl ?_ ?_ ?_ ?_ ?_; rfl; rfl; decide; rfl; exact HTB _ (by assumption); rfl; exact (cellsB (keepBlk (below_alloc1 _ _).drew (heap_alloc_new _ _))); (show (ts.length + 1) * 16 ≤ _; omega); (show ts.length + 1 ≤ _; omega); exact HTZ _ (by assumption); intro adB capB wB hrowB hgB hkeepB hatB; have HNB2 : Hid (∀ g, (Value.slice adB (ts.length + [t].length) capB).ownBlock = some g → (u10).ownBlock ≠ some g) := neNew hatB HNE2.out HUA.out (by first | (simp; done) | (simp; omega) | (have := HSA.out; simp; omega)); have HGB : Hid (∀ g, (Value.slice adB (ts.length + [t].length) capB).ownBlock = some g → (u11).ownBlock = some g ∨ w6.heap.size ≤ g) := fun g hg => (hatB g hg).imp id fun h => Nat.le_trans (by first | (simp; done) | (simp; omega) | (have := HSA.out; simp; omega)) h; have HSB : Hid (w6.heap.size ≤ wB.heap.size) := Nat.le_trans (by first | (simp; done) | (simp; omega) | (have := HSA.out; simp; omega)) hgB.size; (first | (have HKA : Hid (wB.heap[w6.heap.size]? = some (.cells #[.int .i64 n, .int .i64 q, .int .i64 t.size] PlT (0, 0))) := keepGr hgB (heap_alloc_new _ _) HUB.out (by first | (simp; done) | (simp; omega))) | (have HKA : Hid (wB.heap[w6.heap.size + 1]? = some (.cells #[.int .i64 n, .int .i64 q, .int .i64 t.size] PlT (0, 0))) := keepGr hgB (heap_alloc_two _ _ _) HUB.out (by first | (simp; done) | (simp; omega))) | (have HKA : Hid (wB.heap[w6.heap.size]? = some (.cells #[.int .i64 n, .int .i64 q, .int .i64 t.size] PlT (0, 0))) := keepGr hgB (keepBlk (below_alloc1 _ _) (heap_alloc_new _ _)) HUB.out (by first | (simp; done) | (simp; omega))) | (have HKA : Hid (wB.heap[w6.heap.size]? = some (.cells #[.int .i64 n, .int .i64 q, .int .i64 t.size] PlT (0, 0))) := keepGr hgB (keepBlk (below_alloc1 _ _).drew (heap_alloc_new _ _)) HUB.out (by first | (simp; done) | (simp; omega))) | skip); (first | (have HA2 : Hid (wB.ownsRow w.heap.size PlT 3 (.slice adA (ps.length + [(n, q, t.size)].length) capA) (ps ++ [(n, q, t.size)]).length (Gk.rc plE (ps ++ [(n, q, t.size)]))) := rowKeep hrowA hgB HNA2.out) | (have HA2 : Hid (wB.ownsRow w.heap.size PlT 3 (.slice adA (ps.length + [(n, q, t.size)].length) capA) (ps ++ [(n, q, t.size)]).length (Gk.rc plE (ps ++ [(n, q, t.size)]))) := rowKeep (Gk.own_below hrowA (below_alloc1 _ _)) hgB HNA2.out) | skip)) | (refine Gk.step_append_keep (enc := sE) ?_ (.tmp 82) (.tmp 87) 45 ?_ StrT (.string ⟨#[]⟩) 16 Tryz.underlying45 str_inf rfl ?_ sE_len sE_one w.heap.size u11 ts ?_ ?_ (w6.heap.size) 0 [t] 1 1 ?_ rfl ?_ ?_ ?_ ?_ ?_; rfl; rfl; decide; rfl; exact HTB _ (by assumption); rfl; exact (cellsB HKB.out); (show (ts.length + 1) * 16 ≤ _; omega); (show ts.length + 1 ≤ _; omega); exact HTZ _ (by assumption); intro adB capB wB hrowB hgB hkeepB hatB; have HNB2 : Hid (∀ g, (Value.slice adB (ts.length + [t].length) capB).ownBlock = some g → (u10).ownBlock ≠ some g) := neNew hatB HNE2.out HUA.out (by first | (simp; done) | (simp; omega) | (have := HSA.out; simp; omega)); have HGB : Hid (∀ g, (Value.slice adB (ts.length + [t].length) capB).ownBlock = some g → (u11).ownBlock = some g ∨ w6.heap.size ≤ g) := fun g hg => (hatB g hg).imp id fun h => Nat.le_trans (by first | (simp; done) | (simp; omega) | (have := HSA.out; simp; omega)) h; have HSB : Hid (w6.heap.size ≤ wB.heap.size) := Nat.le_trans (by first | (simp; done) | (simp; omega) | (have := HSA.out; simp; omega)) hgB.size; (first | (have HKA : Hid (wB.heap[w6.heap.size]? = some (.cells #[.int .i64 n, .int .i64 q, .int .i64 t.size] PlT (0, 0))) := keepGr hgB (heap_alloc_new _ _) HUB.out (by first | (simp; done) | (simp; omega))) | (have HKA : Hid (wB.heap[w6.heap.size + 1]? = some (.cells #[.int .i64 n, .int .i64 q, .int .i64 t.size] PlT (0, 0))) := keepGr hgB (heap_alloc_two _ _ _) HUB.out (by first | (simp; done) | (simp; omega))) | (have HKA : Hid (wB.heap[w6.heap.size]? = some (.cells #[.int .i64 n, .int .i64 q, .int .i64 t.size] PlT (0, 0))) := keepGr hgB (keepBlk (below_alloc1 _ _) (heap_alloc_new _ _)) HUB.out (by first | (simp; done) | (simp; omega))) | (have HKA : Hid (wB.heap[w6.heap.size]? = some (.cells #[.int .i64 n, .int .i64 q, .int .i64 t.size] PlT (0, 0))) := keepGr hgB (keepBlk (below_alloc1 _ _).drew (heap_alloc_new _ _)) HUB.out (by first | (simp; done) | (simp; omega))) | skip); (first | (have HA2 : Hid (wB.ownsRow w.heap.size PlT 3 (.slice adA (ps.length + [(n, q, t.size)].length) capA) (ps ++ [(n, q, t.size)]).length (Gk.rc plE (ps ++ [(n, q, t.size)]))) := rowKeep hrowA hgB HNA2.out) | (have HA2 : Hid (wB.ownsRow w.heap.size PlT 3 (.slice adA (ps.length + [(n, q, t.size)].length) capA) (ps ++ [(n, q, t.size)]).length (Gk.rc plE (ps ++ [(n, q, t.size)]))) := rowKeep (Gk.own_below hrowA (below_alloc1 _ _)) hgB HNA2.out) | skip)) | (refine Gk.step_append_keep (enc := sE) ?_ (.tmp 82) (.tmp 87) 45 ?_ StrT (.string ⟨#[]⟩) 16 Tryz.underlying45 str_inf rfl ?_ sE_len sE_one w.heap.size u11 ts ?_ ?_ (w6.heap.size + 1) 0 [t] 1 1 ?_ rfl ?_ ?_ ?_ ?_ ?_; rfl; rfl; decide; rfl; exact HTB _ (by assumption); rfl; exact (cellsB (heap_alloc_two _ _ _)); (show (ts.length + 1) * 16 ≤ _; omega); (show ts.length + 1 ≤ _; omega); exact HTZ _ (by assumption); intro adB capB wB hrowB hgB hkeepB hatB; have HNB2 : Hid (∀ g, (Value.slice adB (ts.length + [t].length) capB).ownBlock = some g → (u10).ownBlock ≠ some g) := neNew hatB HNE2.out HUA.out (by first | (simp; done) | (simp; omega) | (have := HSA.out; simp; omega)); have HGB : Hid (∀ g, (Value.slice adB (ts.length + [t].length) capB).ownBlock = some g → (u11).ownBlock = some g ∨ w6.heap.size ≤ g) := fun g hg => (hatB g hg).imp id fun h => Nat.le_trans (by first | (simp; done) | (simp; omega) | (have := HSA.out; simp; omega)) h; have HSB : Hid (w6.heap.size ≤ wB.heap.size) := Nat.le_trans (by first | (simp; done) | (simp; omega) | (have := HSA.out; simp; omega)) hgB.size; (first | (have HKA : Hid (wB.heap[w6.heap.size]? = some (.cells #[.int .i64 n, .int .i64 q, .int .i64 t.size] PlT (0, 0))) := keepGr hgB (heap_alloc_new _ _) HUB.out (by first | (simp; done) | (simp; omega))) | (have HKA : Hid (wB.heap[w6.heap.size + 1]? = some (.cells #[.int .i64 n, .int .i64 q, .int .i64 t.size] PlT (0, 0))) := keepGr hgB (heap_alloc_two _ _ _) HUB.out (by first | (simp; done) | (simp; omega))) | (have HKA : Hid (wB.heap[w6.heap.size]? = some (.cells #[.int .i64 n, .int .i64 q, .int .i64 t.size] PlT (0, 0))) := keepGr hgB (keepBlk (below_alloc1 _ _) (heap_alloc_new _ _)) HUB.out (by first | (simp; done) | (simp; omega))) | (have HKA : Hid (wB.heap[w6.heap.size]? = some (.cells #[.int .i64 n, .int .i64 q, .int .i64 t.size] PlT (0, 0))) := keepGr hgB (keepBlk (below_alloc1 _ _).drew (heap_alloc_new _ _)) HUB.out (by first | (simp; done) | (simp; omega))) | skip); (first | (have HA2 : Hid (wB.ownsRow w.heap.size PlT 3 (.slice adA (ps.length + [(n, q, t.size)].length) capA) (ps ++ [(n, q, t.size)]).length (Gk.rc plE (ps ++ [(n, q, t.size)]))) := rowKeep hrowA hgB HNA2.out) | (have HA2 : Hid (wB.ownsRow w.heap.size PlT 3 (.slice adA (ps.length + [(n, q, t.size)].length) capA) (ps ++ [(n, q, t.size)]).length (Gk.rc plE (ps ++ [(n, q, t.size)]))) := rowKeep (Gk.own_below hrowA (below_alloc1 _ _)) hgB HNA2.out) | skip)) | (refine Gk.step_append_keep (enc := sE) ?_ (.tmp 82) (.tmp 87) 45 ?_ StrT (.string ⟨#[]⟩) 16 Tryz.underlying45 str_inf rfl ?_ sE_len sE_one w.heap.size u11 ts ?_ ?_ (w6.heap.size + 1) 0 [t] 1 1 ?_ rfl ?_ ?_ ?_ ?_ ?_; rfl; rfl; decide; rfl; exact HTB _ (by assumption); rfl; exact (cellsB HKB.out); (show (ts.length + 1) * 16 ≤ _; omega); (show ts.length + 1 ≤ _; omega); exact HTZ _ (by assumption); intro adB capB wB hrowB hgB hkeepB hatB; have HNB2 : Hid (∀ g, (Value.slice adB (ts.length + [t].length) capB).ownBlock = some g → (u10).ownBlock ≠ some g) := neNew hatB HNE2.out HUA.out (by first | (simp; done) | (simp; omega) | (have := HSA.out; simp; omega)); have HGB : Hid (∀ g, (Value.slice adB (ts.length + [t].length) capB).ownBlock = some g → (u11).ownBlock = some g ∨ w6.heap.size ≤ g) := fun g hg => (hatB g hg).imp id fun h => Nat.le_trans (by first | (simp; done) | (simp; omega) | (have := HSA.out; simp; omega)) h; have HSB : Hid (w6.heap.size ≤ wB.heap.size) := Nat.le_trans (by first | (simp; done) | (simp; omega) | (have := HSA.out; simp; omega)) hgB.size; (first | (have HKA : Hid (wB.heap[w6.heap.size]? = some (.cells #[.int .i64 n, .int .i64 q, .int .i64 t.size] PlT (0, 0))) := keepGr hgB (heap_alloc_new _ _) HUB.out (by first | (simp; done) | (simp; omega))) | (have HKA : Hid (wB.heap[w6.heap.size + 1]? = some (.cells #[.int .i64 n, .int .i64 q, .int .i64 t.size] PlT (0, 0))) := keepGr hgB (heap_alloc_two _ _ _) HUB.out (by first | (simp; done) | (simp; omega))) | (have HKA : Hid (wB.heap[w6.heap.size]? = some (.cells #[.int .i64 n, .int .i64 q, .int .i64 t.size] PlT (0, 0))) := keepGr hgB (keepBlk (below_alloc1 _ _) (heap_alloc_new _ _)) HUB.out (by first | (simp; done) | (simp; omega))) | (have HKA : Hid (wB.heap[w6.heap.size]? = some (.cells #[.int .i64 n, .int .i64 q, .int .i64 t.size] PlT (0, 0))) := keepGr hgB (keepBlk (below_alloc1 _ _).drew (heap_alloc_new _ _)) HUB.out (by first | (simp; done) | (simp; omega))) | skip); (first | (have HA2 : Hid (wB.ownsRow w.heap.size PlT 3 (.slice adA (ps.length + [(n, q, t.size)].length) capA) (ps ++ [(n, q, t.size)]).length (Gk.rc plE (ps ++ [(n, q, t.size)]))) := rowKeep hrowA hgB HNA2.out) | (have HA2 : Hid (wB.ownsRow w.heap.size PlT 3 (.slice adA (ps.length + [(n, q, t.size)].length) capA) (ps ++ [(n, q, t.size)]).length (Gk.rc plE (ps ++ [(n, q, t.size)]))) := rowKeep (Gk.own_below hrowA (below_alloc1 _ _)) hgB HNA2.out) | skip)) | (refine Gk.step_append_keep (enc := sE) ?_ (.tmp 82) (.tmp 87) 45 ?_ StrT (.string ⟨#[]⟩) 16 Tryz.underlying45 str_inf rfl ?_ sE_len sE_one w.heap.size u11 ts ?_ ?_ (wA.heap.size) 0 [t] 1 1 ?_ rfl ?_ ?_ ?_ ?_ ?_; rfl; rfl; decide; rfl; exact HTB _ (by assumption); rfl; exact (cellsB (heap_alloc_new _ _)); (show (ts.length + 1) * 16 ≤ _; omega); (show ts.length + 1 ≤ _; omega); exact HTZ _ (by assumption); intro adB capB wB hrowB hgB hkeepB hatB; have HNB2 : Hid (∀ g, (Value.slice adB (ts.length + [t].length) capB).ownBlock = some g → (u10).ownBlock ≠ some g) := neNew hatB HNE2.out HUA.out (by first | (simp; done) | (simp; omega) | (have := HSA.out; simp; omega)); have HGB : Hid (∀ g, (Value.slice adB (ts.length + [t].length) capB).ownBlock = some g → (u11).ownBlock = some g ∨ w6.heap.size ≤ g) := fun g hg => (hatB g hg).imp id fun h => Nat.le_trans (by first | (simp; done) | (simp; omega) | (have := HSA.out; simp; omega)) h; have HSB : Hid (w6.heap.size ≤ wB.heap.size) := Nat.le_trans (by first | (simp; done) | (simp; omega) | (have := HSA.out; simp; omega)) hgB.size; (first | (have HKA : Hid (wB.heap[w6.heap.size]? = some (.cells #[.int .i64 n, .int .i64 q, .int .i64 t.size] PlT (0, 0))) := keepGr hgB (heap_alloc_new _ _) HUB.out (by first | (simp; done) | (simp; omega))) | (have HKA : Hid (wB.heap[w6.heap.size + 1]? = some (.cells #[.int .i64 n, .int .i64 q, .int .i64 t.size] PlT (0, 0))) := keepGr hgB (heap_alloc_two _ _ _) HUB.out (by first | (simp; done) | (simp; omega))) | (have HKA : Hid (wB.heap[w6.heap.size]? = some (.cells #[.int .i64 n, .int .i64 q, .int .i64 t.size] PlT (0, 0))) := keepGr hgB (keepBlk (below_alloc1 _ _) (heap_alloc_new _ _)) HUB.out (by first | (simp; done) | (simp; omega))) | (have HKA : Hid (wB.heap[w6.heap.size]? = some (.cells #[.int .i64 n, .int .i64 q, .int .i64 t.size] PlT (0, 0))) := keepGr hgB (keepBlk (below_alloc1 _ _).drew (heap_alloc_new _ _)) HUB.out (by first | (simp; done) | (simp; omega))) | skip); (first | (have HA2 : Hid (wB.ownsRow w.heap.size PlT 3 (.slice adA (ps.length + [(n, q, t.size)].length) capA) (ps ++ [(n, q, t.size)]).length (Gk.rc plE (ps ++ [(n, q, t.size)]))) := rowKeep hrowA hgB HNA2.out) | (have HA2 : Hid (wB.ownsRow w.heap.size PlT 3 (.slice adA (ps.length + [(n, q, t.size)].length) capA) (ps ++ [(n, q, t.size)]).length (Gk.rc plE (ps ++ [(n, q, t.size)]))) := rowKeep (Gk.own_below hrowA (below_alloc1 _ _)) hgB HNA2.out) | skip)) | fail)
          all_goals
            rename_i hHeld
            have hRB := HR6.out.both hHeld.2.out.1.vh HA2.out hrowB HGA.out HGB.out
            rw [show ps.length + [(n, q, t.size)].length = ps.length + 1 from rfl, show ts.length + [t].length = ts.length + 1 from rfl] at hRB
            have HRB := hide hRB
            clear hHeld hrowA hgA hkeepA hatA hrowB hgB hkeepB hatB HA2 HNA2 HGA HNB2 HGB HSA HSB HTA HTB HTZ hTS c0 c1 c2 c3 hRB HNE HNE2 HUA HUB HR6
            go_wp2
            exact ⟨⟨k + 1, ps ++ [(n, q, t.size)], ts ++ [t], by omega, by omega, by rw [List.length_append, List.length_singleton]; omega, by go_num, own5, max top n, S5, HRB.out, by rw [List.length_append]; exact HF5.out.1, HF5.out.2.1, HF5.out.2.2⟩, by simp [intOf]; omega⟩
        · have hl' : (500 : Int) < (t.size : Int) := by omega
          have HLP : Hid (LpF w wr bd bv mm u10 u11 ps ts) := ⟨own, top, S, hR, hs, hc, hf⟩
          clear hR hs hc hf
          go_wp2
          go_roundw
          case rel => exact ⟨k + 1, ps, ts, by omega, by omega, by omega, by go_num, HLP.out⟩
          case measure => simp [intOf]; omega
      · have HLP : Hid (LpF w wr bd bv mm u10 u11 ps ts) := ⟨own, top, S, hR, hs, hc, hf⟩
        clear hR hs hc hf
        by_cases hjl : k < ls.length
        · have j1 : (k : Int) < (ls.length : Int) := by omega
          have j3 : ¬ (k : Int) < 40 := by omega
          go_wp2
          go_meet
          case rel => exact ⟨ps, ts, by omega, HLP.out⟩
        · have j1 : ¬ (k : Int) < (ls.length : Int) := by omega
          go_wp2
          go_meet
          case rel => exact ⟨ps, ts, by omega, HLP.out⟩
  case rest =>
    obtain ⟨ps, ts, hp40, own, top, S, hR, hs, hc, hf⟩ := hcut
    have hFi := Files_any hR.vh
    have hll64 : (nums S).length ≤ 64 := Nat.le_trans nums_len hR.vh.ok.many
    obtain ⟨aA, cA, rfl⟩ := Gk.own_slice hR.rA
    obtain ⟨aB, cB, rfl⟩ := Gk.own_slice hR.rB
    have HR := hide hR
    have HSF := hide (And.intro hs hf)
    obtain ⟨L, hLn⟩ : ∃ L, L = nums S := ⟨_, rfl⟩
    rw [← hLn] at hFi hll64
    have HLN := hide hLn
    clear hR hs hc hf hLn HV4 HS4
    go_wp2_with fail
    refine hFi.mono ?_
    rintro e w5 ⟨vF, rfl, hrow, hb5⟩
    obtain ⟨aF, cF, rfl⟩ := Gk.own_slice hrow
    have hR5 := HR.out.below hb5
    clear hFi
    by_cases hl0 : L.length = 0
    · have hbe := hR5.vh.base
      have z0 : ((L.length : Int) == 0) = true := by rw [beq_iff_eq]; omega
      clear hR5 hrow
      go_wp2
      go_ret
      exact ⟨rfl, hbe⟩
    · have z0 : ((L.length : Int) == 0) = false := by rw [beq_eq_false_iff_ne]; omega
      have hAg := fun W => Gk.among_any go (L.length : Int) W (by omega) (by omega) hgb.1 hgb.2
      obtain ⟨g, hg⟩ : ∃ g : Nat, (g : Int) = go % (L.length : Int) := ⟨(go % (L.length : Int)).toNat, by have := Int.emod_nonneg go (show (L.length : Int) ≠ 0 by omega); omega⟩
      have hgl : g < L.length := by have := Int.emod_lt_of_pos go (show (0 : Int) < (L.length : Int) by omega); omega
      simp only [← hg] at hAg
      obtain ⟨gF, offF, rfl, hglF, hcF⟩ := (Gk.Row.lies (k := 1) (e := IntT) (n := L.length) (cap := cF) (Gk.own_mono hrow (Nat.zero_le _))).at nE_len g hgl
      have f0 := hcF 0 _ rfl
      rw [Nat.mul_one, Nat.add_zero] at f0
      have hmem : L[g] ∈ nums S := by rw [← HLN.out]; exact List.getElem_mem hgl
      generalize L[g] = out at *
      obtain ⟨ff, hff⟩ := nums_get hR5.vh.ok.rising hmem
      have hob := nums_bound hmem
      have hrm := HSF.out.1.up.rem (show out ≤ 1048577 by omega) hff
      have hRm := Remove_yes hR5.vh hmem (by rw [hrm])
      rw [hrm] at hRm
      have i1 : (0 : Int) ≤ (g : Int) := by omega
      have i2 : (g : Int) < (L.length : Int) := by omega
      have HR5 := hide hR5
      have HLO : Hid (out ≤ top) := HSF.out.1.tops out hmem
      clear hg hcF hrow hff hR5 hmem
      go_wp2_with (first | (go_at_call 14; refine (hAg _).mono ?_; rintro e w5' ⟨rfl, rfl⟩))
      refine hRm.mono ?_
      rintro e w6 ⟨rfl, own6, hV6, hst6⟩
      have hR6 := HR5.out.step hV6 hst6
      have hnin : hasN (nums (remS S out)) (out : Int) = false := hasN_no fun h => ((remS_nums HR5.out.vh.ok.rising out).1 h).2 rfl
      have hRn := Remove_no hV6 hnin
      have HVS := hide (HSF.out.1.rem (n := out) HR5.out.vh.ok.rising)
      have HNI := hide hnin
      have HR6 := hide hR6
      have HIN : Hid (∀ j (h : j < ps.length) (h2 : j < ts.length), ps[j].1 ≠ out → In (remS S out) ps[j] ts[j]) := fun j h h2 e => (HSF.out.2.ins j h h2).rem e
      have HLEN : Hid (ps.length = ts.length) := HSF.out.2.len
      clear hRm hAg f0 hV6 hst6 hR6 hnin
      generalize remS S out = S6 at *
      go_wp2_with fail
      refine hRn.mono ?_
      rintro e w7 ⟨rfl, hb7⟩
      have hR7 := HR6.out.below hb7
      have HR7 := hide hR7
      clear hRn hR7 HR6 hb7
      go_upto_block 2 with fail
      go_cut [17, 18, 19, 20] from 113 to 143 (fun _ _ _ _ wc => Below w7.heap.size w7 wc)
      case first =>
        go_wp2
        go_loopw [17, 18, 19, 20, 113] (fun _ _ _ _ iv wr => ∃ k : Nat, k ≤ ps.length ∧ iv = .int .i64 k ∧ Below w7.heap.size w7 wr) (fun _ _ _ _ iv _ => ps.length - (intOf iv).toNat)
        case atStart => exact ⟨0, by omega, rfl, Below.refl _ _⟩
        case round =>
          obtain ⟨k, hk, rfl, hbk⟩ := hrel
          have hR := HR7.out.below hbk
          by_cases hlt : k < ps.length
          · have htl : k < ts.length := by have := HLEN.out; omega
            obtain ⟨gA, offA, rfl, hgl, hcA⟩ := (Gk.Row.lies (k := 3) (e := PlT) (n := ps.length) (cap := cA) (Gk.own_mono hR.rA (Nat.zero_le _))).at plE_len k hlt
            obtain ⟨gB, offB, rfl, hgl2, hcB⟩ := (Gk.Row.lies (k := 1) (e := StrT) (n := ts.length) (cap := cB) (Gk.own_mono hR.rB (Nat.zero_le _))).at sE_len k htl
            have p0 := hcA 0 _ rfl
            have p1 := hcA 1 _ rfl
            have p2 := hcA 2 _ rfl
            rw [Nat.add_zero] at p0
            have q0 := hcB 0 _ rfl
            rw [Nat.mul_one, Nat.add_zero] at q0
            have hIn := HIN.out k hlt htl
            generalize ps[k] = pk at *
            generalize ts[k] = tk at *
            obtain ⟨pf, pa, pl⟩ := pk
            simp only at p0 p1 p2 hIn
            have i1 : (0 : Int) ≤ (k : Int) := by omega
            have i2 : (k : Int) < (ps.length : Int) := by omega
            have i3 : (k : Int) < (ts.length : Int) := by omega
            obtain ⟨w8, hw8⟩ : ∃ w8, w8 = wr.alloc (.cells #[.int .i64 pf, .int .i64 pa, .int .i64 pl] PlT) := ⟨_, rfl⟩
            have hb8 : Below wr.heap.size wr w8 := by rw [hw8]; exact below_alloc1 _ _
            have hpb : w8.heap[wr.heap.size]? = some (.cells #[.int .i64 pf, .int .i64 pa, .int .i64 pl] PlT (0, 0)) := by rw [hw8]; exact heap_alloc_new _ _
            have HBK := hide hbk
            by_cases hpo : pf = out
            · have hG := Get_no (hR.vh.below hb8) (z := (pf : Int)) (by rw [hpo]; exact HNI.out) (pa : Int) (pl : Int)
              have n1 : ((pf : Int) != (out : Int)) = false := by simp [hpo]
              clear hcA hcB hR hIn hpo hbk
              go_wp2_with fail
              rw [← hw8]
              refine hG.mono ?_
              rintro e w9 ⟨rfl, hb9⟩
              have x9 : w9.cell? ⟨wr.heap.size, 0, none⟩ = some (.int .i64 pf) := cell_of_block (keepBlk hb9 hpb) 0
              have hbz : Below w7.heap.size w7 w9 := HBK.out.trans ((hb8.trans (hb9.mono hb8.size)).mono HBK.out.size)
              clear hG p0 p1 p2 q0 hw8 hb8 hb9 hpb
              go_wp2
              go_roundw
              case rel => exact ⟨k + 1, by omega, by go_num, hbz⟩
              case measure => simp [intOf]; omega
            · have hI := hIn hpo
              have hget := hI.get
              have hle := hI.le
              have hdl := dat_le hR.vh.ok (show pf ≤ 1048577 by have := hI.2.1; simp only at this; omega)
              simp only at hget hle
              have hG := Get_any (hR.vh.below hb8) hI.file (pa : Int) (pl : Int) (by omega) (by omega)
              simp only at hG
              rw [hget] at hG
              have n1 : ((pf : Int) != (out : Int)) = true := by rw [bne_iff_ne]; omega
              have beq : (tk.toList == tk.toList) = true := by simp
              clear hcA hcB hR hIn hpo hI hget hle hdl hbk
              go_wp2_with fail
              rw [← hw8]
              refine hG.mono ?_
              rintro e w9 ⟨rfl, hb9⟩
              have x9 : w9.cell? ⟨wr.heap.size, 0, none⟩ = some (.int .i64 pf) := cell_of_block (keepBlk hb9 hpb) 0
              have hb89 := hb8.trans (hb9.mono hb8.size)
              have q9 := (hb89.cell (p := ⟨gB, offB + k, none⟩) hgl2).trans q0
              have hbz : Below w7.heap.size w7 w9 := HBK.out.trans (hb89.mono HBK.out.size)
              clear hG p0 p1 p2 q0 hw8 hb8 hb9 hpb hb89
              go_wp2
              go_roundw
              case rel => exact ⟨k + 1, by omega, by go_num, hbz⟩
              case measure => simp [intOf]; omega
          · obtain rfl : k = ps.length := by omega
            clear hR
            go_wp2
            go_meet
            case rel => exact hbk
      case rest =>
        have hVc := HR7.out.vh.below hcut
        have HVC := hide hVc
        have HNM : Hid (out ∉ nums S6) := fun h => by have := HNI.out; rw [hasN_yes h] at this; cases this
        clear hVc hcut HR7 HIN
        go_wp2
        go_loopw [21, 22, 144] (fun _ _ iv wr => ∃ (k : Nat) (own' : Nat → Prop) (top' : Nat) (S' : St), k ≤ 3 ∧ iv = .int .i64 k ∧ VH w wr own' bd bv mm top' S' ∧ Vs S' top' 508 (ps.length + k) ∧ out ∉ nums S' ∧ out ≤ top') (fun _ _ iv _ => 3 - (intOf iv).toNat)
        case atStart => exact ⟨0, own6, top, S6, by omega, rfl, HVC.out, HVS.out, HNM.out, HLO.out⟩
        case round =>
          obtain ⟨k, own', top', S', hk, rfl, hV, hs, hno, hto⟩ := hrel
          by_cases hlt : k < 3
          · have i1 : (k : Int) < 3 := by omega
            have hP := hV.put hs (by omega) (by omega) ⟨#[109, 111, 114, 101]⟩ (by decide)
            have HVV := hide (And.intro hV.ok.rising (And.intro hno (And.intro hto hs)))
            clear hV hs hno hto
            go_wp2_with fail
            refine hP.mono ?_
            rintro e w9 ⟨n, own9, rfl, hn1, hn2, hn3, hV9, hs9, hst9, -⟩
            have hne : n ≠ out := by
              rcases hn3 with h | h
              · exact fun e => HVV.out.2.1 (e ▸ h)
              · have := HVV.out.2.2.1; omega
            have n1 : ((n : Int) == (out : Int)) = false := by rw [beq_eq_false_iff_ne]; omega
            have HK9 : Hid (VH w (w9.alloc (.cells #[.int .i64 n, .int .i64 (dat S' n).length, .int .i64 (ByteArray.mk #[109, 111, 114, 101]).size] PlT)) own9 bd bv mm (max top' n) (putS S' n ⟨#[109, 111, 114, 101]⟩)) := hV9.below (below_alloc1 _ _)
            have HN9 : Hid (Vs (putS S' n ⟨#[109, 111, 114, 101]⟩) (max top' n) 508 (ps.length + k + 1) ∧ out ∉ nums (putS S' n ⟨#[109, 111, 114, 101]⟩) ∧ out ≤ max top' n) := ⟨hs9, fun h => by
              rcases (putS_nums HVV.out.1 hn1 (by have := HVV.out.2.2.2.topk; omega) out).1 h with h | h
              · exact HVV.out.2.1 h
              · exact hne h.symm, by have := HVV.out.2.2.1; omega⟩
            clear hP hV9 hs9 hst9 hn3
            generalize putS S' n ⟨#[109, 111, 114, 101]⟩ = S9 at *
            go_wp2
            go_roundw
            case rel => exact ⟨k + 1, own9, max top' n, S9, by omega, by go_num, HK9.out, HN9.out.1, HN9.out.2.1, HN9.out.2.2⟩
            case measure => simp [intOf]; omega
          · obtain rfl : k = 3 := by omega
            have hbe := hV.base
            clear hV
            go_wp2
            go_ret
            exact ⟨rfl, hbe⟩

end Go.Proofs.YtlojajgehaiefaaGreatDoor.Vl
