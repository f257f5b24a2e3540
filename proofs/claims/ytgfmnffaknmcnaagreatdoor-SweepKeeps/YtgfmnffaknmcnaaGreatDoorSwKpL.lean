/- SweepKeeps: for all arguments that can be read the law returns true, and all read as they did. -/
import Derived.Test.YtgfmnffaknmcnaaGreatDoorSwTwo
import Derived.Test.YtgfmnffaknmcnaaGreatDoorSwWorks
import Derived.Test.YtgfmnffaknmcnaaGreatDoorSwRds
import Derived.Test.YtgfmnffaknmcnaaGreatDoorVlSize
import Derived.Test.YtgfmnffaknmcnaaGreatDoorSwPlan
import Derived.Test.YtgfmnffaknmcnaaGreatDoorGAmong
import Derived.Deep.CutRange
import Derived.Deep.CutBlock
namespace Go.Proofs.YtgfmnffaknmcnaaGreatDoor.Sw
open Go.RowKit Go.Joins Go.Sort Go.Maps Gk
open Go.Proofs.YtgfmnffaknmcnaaGreatDoor.Dk (St Rising getL fileOr Bs Fil crashL syncL)
open Go.Proofs.YtgfmnffaknmcnaaGreatDoor.Vl (VH Up nums dat putS In Cln Stp wi PlT nm Sf Vs Rws TS plus StrT plE sE plE_len plE_one sE_len sE_one pl_info str_inf neNew keepGr rowKeep heap_alloc_two cellsA cellsB Env)

theorem text_cell {w : World} {a : Option Addr} {cap : Nat} {ts : List ByteArray} (h : Gk.TextsAt w a cap ts) (k : Nat) (hk : k < ts.length) : ∃ b off, a = some ⟨b, off, none⟩ ∧ b < w.heap.size ∧ ∀ W, Below w.heap.size w W → W.cell? ⟨b, off + k, none⟩ = some (.string ts[k]) := by
  obtain ⟨b, off, rfl, hlt, hc⟩ := h.lies.at Gk.tenc_len k hk
  refine ⟨b, off, rfl, hlt, fun W hb => ?_⟩
  obtain ⟨b', off', e, _, hc'⟩ := (h.lies.below hb).at Gk.tenc_len k hk
  cases e
  have := hc' 0 _ rfl
  rwa [Nat.mul_one, Nat.add_zero] at this
/-- what the law's first loop keeps -/
def Lp (w1 wc : World) (bd bv mm : Nat) (vA vB : Value) (ps : List Np) (ts : List ByteArray) : Prop := ∃ (own : Nat → Prop) (top : Nat) (S : St), Rws w1 wc own bd bv mm top S vA vB ps ts ∧ Vs S top 508 ps.length ∧ Cln S ∧ Nb S ∧ All2 (In S) ps ts
abbrev RdT : TypeId := 63
/-- what the rounds keep -/
def Lq (w wc : World) (bd bv mm top : Nat) (vA vB : Value) (ps : List Np) (ts : List ByteArray) : Prop := ∃ (own : Nat → Prop) (S : St), Rws w wc own bd bv mm top S vA vB ps ts ∧ Kp S ps ts ∧ Cln S ∧ Nb S ∧ Up S ∧ ∀ n ∈ nums S, n ≤ top
/-- the sizes of all files -/
def szsOf (S : St) : List Sz := (nums S).map fun (n : Nat) => ((n : Int), ((dat S n).length : Int))
theorem szsOf_len (S : St) : (szsOf S).length = (nums S).length := by simp [szsOf]
theorem plE_pc (l : List Np) : rc plE l = rc penc (l.map toPc) := by
  induction l with
  | nil => rfl
  | cons x r ih => rw [List.map_cons, rc_cons, rc_cons, ih]; rfl
theorem at_lies {W : World} {B : Nat} {a : Option Addr} {c n : Nat} {ps : List Np} (h : W.ownsRow B PlT 3 (.slice a n c) ps.length (rc plE ps)) : Lies W penc a (ps.map toPc) := by
  rcases Row.lies (enc := plE) (k := 3) (e := PlT) (n := n) (cap := c) (own_mono h (Nat.zero_le _)) with h0 | ⟨b, off, e, hlt, hc⟩
  · exact Or.inl (by rw [h0]; rfl)
  · exact Or.inr ⟨b, off, e, hlt, fun j u hj => hc j u (by rw [plE_pc]; exact hj)⟩
theorem zs_lies {W : World} {B : Nat} {a : Option Addr} {c n : Nat} {F : List Nat} (h : W.ownsRow B NT 1 (.slice a n c) F.length (rc Vl.nE F)) : Lies W nenc' a (zs F) := by
  rcases Row.lies (enc := Vl.nE) (k := 1) (e := NT) (n := n) (cap := c) (own_mono h (Nat.zero_le _)) with h0 | ⟨b, off, e, hlt, hc⟩
  · exact Or.inl (by rw [h0]; rfl)
  · exact Or.inr ⟨b, off, e, hlt, fun j u hj => hc j u (by rw [← zs_rc]; exact hj)⟩
theorem own_addr {W : World} {B e k : Nat} {a : Option Addr} {n c m : Nat} {xs : List Value} (h : W.ownsRow B e k (.slice a n c) m xs) {b off : Nat} (ha : a = some ⟨b, off, none⟩) : (Value.slice a n c).ownBlock = some b := by
  rcases h.2 with ⟨e1, _⟩ | ⟨g, cap, cur, e1, _⟩
  · rw [ha] at e1; cases e1
  · rw [ha] at e1; cases e1; rw [ha]; rfl
theorem szsOf_ok {S : St} (hok : S.Ok) : szOk 0 (szsOf S) = true := by
  have hr := Vl.nums_rise hok.rising
  have hb : ∀ n ∈ nums S, 1 ≤ n ∧ (dat S n).length ≤ 262144 := fun n hn => ⟨(Vl.nums_bound hn).1, Vl.dat_le hok (by have := (Vl.nums_bound hn).2; omega)⟩
  have key : ∀ (l : List Nat) (f : Nat), l.Pairwise (· < ·) → (∀ n ∈ l, f < n ∧ (dat S n).length ≤ 262144) → szOk (f : Int) (l.map fun (n : Nat) => ((n : Int), ((dat S n).length : Int))) = true := fun l => by
    induction l with
    | nil => intro f _ _; rfl
    | cons x r ih =>
      intro f hp hb
      obtain ⟨h1, h2⟩ := hb x (by simp)
      rw [List.map_cons, szOk, if_neg (by simp only; omega)]
      exact ih x (List.pairwise_cons.1 hp).2 fun n hn => ⟨(List.pairwise_cons.1 hp).1 n hn, (hb n (by simp [hn])).2⟩
  exact key (nums S) 0 hr fun n hn => ⟨(hb n hn).1, (hb n hn).2⟩
/-- the files that are planned: none is the last -/
theorem plan_nats {S : St} (hr : Rising S.files) (L : List Pc) (pc : Int) : ∃ F : List Nat, planL L pc (szsOf S) = zs F ∧ F.Nodup ∧ (∀ f ∈ F, f ∈ nums S ∧ ∃ n ∈ nums S, f < n) ∧ F.length ≤ (nums S).length := by
  have hp := Vl.nums_rise hr
  refine ⟨(nums S).dropLast.filter (fun (n : Nat) => low L pc ((n : Int), ((dat S n).length : Int))), ?_, ?_, fun f hf => ?_, ?_⟩
  · unfold planL szsOf
    rw [← List.map_dropLast, List.filter_map, List.map_map]
    rfl
  · have h1 : ((nums S).dropLast.filter fun (n : Nat) => low L pc ((n : Int), ((dat S n).length : Int))).Pairwise (· < ·) := (hp.sublist (List.dropLast_sublist _)).sublist List.filter_sublist
    exact h1.imp fun h => Nat.ne_of_lt h
  · have hf := (List.mem_filter.1 hf).1
    refine ⟨(List.dropLast_sublist _).subset hf, ?_⟩
    have hne : nums S ≠ [] := fun e => by rw [e] at hf; cases hf
    refine ⟨(nums S).getLast hne, List.getLast_mem hne, ?_⟩
    rw [← List.dropLast_concat_getLast hne, List.pairwise_append] at hp
    exact hp.2.2 f hf _ (by simp)
  · refine Nat.le_trans (List.length_filter_le _ _) ?_
    rw [List.length_dropLast]; omega
theorem rd_cell {w : World} {a : Option Addr} {cap : Nat} {rs : List RdA} (h : RdsAt w a cap rs) (k : Nat) (hk : k < rs.length) : ∃ b off, a = some ⟨b, off, none⟩ ∧ b < w.heap.size ∧ ∀ W, Below w.heap.size w W → ∀ j u, (rdE rs[k])[j]? = some u → W.cell? ⟨b, off + k * 4 + j, none⟩ = some u := by
  obtain ⟨b, off, rfl, hlt, hc⟩ := h.lies.at rdE_len k hk
  refine ⟨b, off, rfl, hlt, fun W hb => ?_⟩
  obtain ⟨b', off', e, _, hc'⟩ := (h.lies.below hb).at rdE_len k hk
  cases e
  exact hc'

set_option maxRecDepth 100000 in
set_option maxHeartbeats 12800000 in
theorem keeps_law (mo : Int) (a : Option Addr) (cap : Nat) (ls : List ByteArray) (ra : Option Addr) (rcp : Nat) (rs : List RdA) (w : World) (hmo : (Lit.int .i64 mo).wf = true) (hL : Gk.TextsAt w a cap ls) (hRs : RdsAt w ra rcp rs) (hE : Env w) :
    Calls Tryz.prog 4 #[.int .i64 mo, .slice a ls.length cap, .slice ra rs.length rcp] w fun e w' => e = .returned (.bool true) ∧ Below w.heap.size w w' := by
  have hN := Dk.new_ok 262144 w (by omega)
  obtain ⟨m0, m1⟩ : -9223372036854775808 ≤ mo ∧ mo ≤ 9223372036854775807 := bounds_i64 hmo
  have hAm := fun W => Gk.among_any mo 100 W (by omega) (by omega) m0 m1
  obtain ⟨M, hM⟩ : ∃ M : Nat, (M : Int) = mo % 100 := ⟨(mo % 100).toNat, by omega⟩
  have hMb : M < 100 := by omega
  simp only [← hM] at hAm
  clear hM hmo m0 m1
  have hll : ls.length ≤ 9223372036854775807 := by have := hL.room; have := hL.max; omega
  obtain ⟨mm, hmm⟩ : ∃ mm : Nat, mm = M + 1 := ⟨_, rfl⟩
  have hmc : (1 : Int) + (M : Int) = (mm : Int) := by omega
  have hm1 : 1 ≤ mm := by omega
  have hm2 : mm ≤ 65536 := by omega
  clear hmm
  go_enter Tryz.func4, Tryz.ntmps4
  go_wp2_with fail
  refine hN.mono ?_
  rintro e w2 ⟨bd, rfl, hH2, hb2⟩
  have hWk := works_any w2
  clear hN
  go_wp2_with fail
  refine hWk.mono ?_
  rintro e w3 ⟨rfl, hb3⟩
  have hO := Vl.new_open (most := mm) (c := 508) hE hH2 hb2 hm1 hm2 (by omega) hb3
  clear hWk
  go_wp2_with (first | (go_at_call 25; refine (hAm _).mono ?_; rintro e w3' ⟨rfl, rfl⟩))
  refine hO.mono ?_
  rintro e w4 ⟨bv, own4, S4, rfl, hV4, hs4, hc4, -⟩
  clear hO hAm hb2 hb3 hH2
  have hnb4 : Nb S4 := fun n _ _ => by
    have : S4.files = [] := List.eq_nil_of_length_eq_zero (Nat.le_zero.1 hs4.many)
    rw [this]; rfl
  have HV4 := hide hV4
  have HS4 := hide (And.intro hs4 (And.intro hc4 hnb4))
  clear hV4 hs4 hc4 hnb4 hMb
  go_upto_block 0 with fail
  go_cut [10, 11, 12, 13, 14] from 67 to 105 (fun vB vA _ _ _ wc => ∃ (ps : List Np) (ts : List ByteArray), ps.length ≤ 20 ∧ Lp w wc bd bv mm vA vB ps ts)
  case first =>
    as_aux_lemma =>
      go_wp2
      go_loopw [10, 11, 12, 13, 14] (fun vB vA iv _ _ wr => ∃ (k : Nat) (ps : List Np) (ts : List ByteArray), k ≤ ls.length ∧ k ≤ 20 ∧ ps.length ≤ k ∧ iv = .int .i64 k ∧ Lp w wr bd bv mm vA vB ps ts) (fun _ _ iv _ _ _ => ls.length - (intOf iv).toNat)
      case atStart => exact ⟨0, [], [], by omega, by omega, Nat.le_refl _, rfl, own4, 0, S4, ⟨HV4.out, World.ownsRow_nil _ _ _ _, World.ownsRow_nil _ _ _ _, by simp [Value.ownBlock], by simp [Value.ownBlock]⟩, HS4.out.1, HS4.out.2.1, HS4.out.2.2, trivial⟩
      case round =>
        obtain ⟨k, ps, ts, hk, hk20, hpk, rfl, own, top, S, hR, hs, hc, hnb, hf⟩ := hrel
        by_cases hin : k < ls.length ∧ k < 20
        · obtain ⟨hkl, hk2⟩ := hin
          obtain ⟨tb, toff, rfl, htb, htc⟩ := text_cell hL k hkl
          have hbw : Below w.heap.size w wr := hR.vh.base
          have t0 := htc wr hbw
          generalize ls[k] = t at *
          have i1 : (0 : Int) ≤ (k : Int) := by omega
          have i2 : (k : Int) < (ls.length : Int) := by omega
          have i3 : (k : Int) < 20 := by omega
          by_cases hlong : t.size ≤ 500
          · have hl' : ¬ (500 : Int) < (t.size : Int) := by omega
            have hP := hR.vh.put hs (by omega) (by omega) t (by omega)
            have HR := hide hR
            have HSC := hide (And.intro hs (And.intro hc (And.intro hnb hf)))
            have HBW := hide hbw
            clear hR hs hc hf hnb hbw
            go_wp2_with fail
            refine hP.mono ?_
            rintro e w5 ⟨n, own5, rfl, hn1, hn2, -, hV5, hs5, hst5, -⟩
            have hR5 := HR.out.step hV5 hst5
            have hrs := HR.out.vh.ok.rising
            have hnm : n ≤ 1048576 := by have := HSC.out.1.topk; omega
            have hf5 : All2 (In (putS S n t)) (ps ++ [(n, (dat S n).length, t.size)]) (ts ++ [t]) := All2.snoc (Vl.In.new HSC.out.2.1 hrs hn1 hnm (show t.size ≤ 65536 by omega)) (All2.imp (fun p t' h => h.put hrs) HSC.out.2.2.2)
            have hc5 := HSC.out.2.1.put (n := n) (s := t) hrs (show t.size ≤ 65536 by omega)
            have hnb5 := HSC.out.2.2.1.put (s := t) hrs hn1 hnm
            have hlen := HSC.out.2.2.2.len
            generalize (dat S n).length = q at *
            generalize putS S n t = S5 at *
            have HF5 := hide (And.intro hs5 (And.intro hc5 (And.intro hnb5 hf5)))
            obtain ⟨w6, hw6⟩ : ∃ w6, w6 = w5.alloc (.cells #[.int .i64 n, .int .i64 q, .int .i64 t.size] PlT) := ⟨_, rfl⟩
            have hb6 : Below w5.heap.size w5 w6 := by rw [hw6]; exact below_alloc1 _ _
            have hpb : w6.heap[w5.heap.size]? = some (.cells #[.int .i64 n, .int .i64 q, .int .i64 t.size] PlT (0, 0)) := by rw [hw6]; exact heap_alloc_new _ _
            have hz6 : w6.heap.size = w5.heap.size + 1 := by rw [hw6]; simp
            clear hP hV5 hst5 hs5 hc5 hf5 hnb5 t0 hrs
            go_wp2_with fail
            rw [← hw6]
            have hR6 := hR5.below hb6
            have hTS : TS w own5 bd bv mm (max top n) S5 u11 u10 ps ts w5.heap.size (n, q, t.size) tb (toff + k) t w6 := ⟨⟨cell_of_block hpb 0, cell_of_block hpb 1, cell_of_block hpb 2, htc w6 hR6.vh.base⟩, hR6, by omega, htb, hR5.vh.base.size, fun g hg => by have := (hR5.rA.lt g hg).2; omega, fun g hg => by have := (hR5.rB.lt g hg).2; omega⟩
            have HNE : Hid (∀ g, u11.ownBlock = some g → u10.ownBlock ≠ some g) := fun g hg => hR6.ne hg
            have HNE2 : Hid (∀ g, u10.ownBlock = some g → u11.ownBlock ≠ some g) := fun g hg e => hR6.ne e hg
            have HUA : Hid (∀ g, u11.ownBlock = some g → g < w6.heap.size) := fun g hg => (hR6.rA.lt g hg).2
            have HUB : Hid (∀ g, u10.ownBlock = some g → g < w6.heap.size) := fun g hg => (hR6.rB.lt g hg).2
            have hpl40 : ps.length ≤ 40 := by omega
            have htl40 : ts.length ≤ 40 := by omega
            have HR6 := hide hR6
            have c0 := hTS.1.1
            have c1 := hTS.1.2.1
            have c2 := hTS.1.2.2.1
            have c3 := hTS.1.2.2.2
            have HTC := hide htc
            have HLEN := hide hlen
            clear hpb hb6 hw6 hR5 hR6 htc hz6 hlen
            have HTA : ∀ W, TS w own5 bd bv mm (max top n) S5 u11 u10 ps ts w5.heap.size (n, q, t.size) tb (toff + k) t W → W.ownsRow w.heap.size PlT 3 u11 ps.length (Gk.rc plE ps) := fun W h => h.2.out.1.rA
            have HTB : ∀ W, TS w own5 bd bv mm (max top n) S5 u11 u10 ps ts w5.heap.size (n, q, t.size) tb (toff + k) t W → W.ownsRow w.heap.size StrT 1 u10 ts.length (Gk.rc sE ts) := fun W h => h.2.out.1.rB
            have HTZ : ∀ W, TS w own5 bd bv mm (max top n) S5 u11 u10 ps ts w5.heap.size (n, q, t.size) tb (toff + k) t W → w.heap.size ≤ W.heap.size := fun W h => h.2.out.1.vh.base.size
            go_region_held3 (TS w own5 bd bv mm (max top n) S5 u11 u10 ps ts w5.heap.size (n, q, t.size) tb (toff + k) t) (first | with_reducible exact TS.drew (by assumption) | with_reducible exact TS.alloc (by assumption) _ | with_reducible assumption | with_reducible exact TS.drew (TS.alloc hTS _) | with_reducible exact TS.drew (TS.alloc (TS.alloc hTS _) _) | with_reducible exact TS.keepA (by assumption) (by assumption) (by assumption) | with_reducible exact TS.keepB (by assumption) (by assumption) (by assumption) | fail)
              (first | (refine Gk.step_append_keep (enc := plE) ?_ (.tmp 101) (.tmp 103) 24 ?_ PlT (.agg #[.int .i64 0, .int .i64 0, .int .i64 0]) 24 Tryz.underlying24 pl_info rfl ?_ plE_len plE_one w.heap.size u11 ps ?_ ?_ (w6.heap.size) 0 [(n, q, t.size)] 1 1 ?_ rfl ?_ ?_ ?_ ?_ ?_; rfl; rfl; decide; rfl; exact HTA _ (by assumption); rfl; exact (cellsA (p := (n, q, t.size)) (heap_alloc_new _ _)); (show (ps.length + 1) * 24 ≤ _; omega); (show ps.length + 1 ≤ _; omega); exact HTZ _ (by assumption); intro adA capA wA hrowA hgA hkeepA hatA; have HNA2 : Hid (∀ g, (Value.slice adA (ps.length + [(n, q, t.size)].length) capA).ownBlock = some g → (u10).ownBlock ≠ some g) := neNew hatA HNE.out HUB.out (by first | (simp; done) | (simp; omega) | (have := HSB.out; simp; omega)); have HGA : Hid (∀ g, (Value.slice adA (ps.length + [(n, q, t.size)].length) capA).ownBlock = some g → (u11).ownBlock = some g ∨ w6.heap.size ≤ g) := fun g hg => (hatA g hg).imp id fun h => Nat.le_trans (by first | (simp; done) | (simp; omega) | (have := HSB.out; simp; omega)) h; have HSA : Hid (w6.heap.size ≤ wA.heap.size) := Nat.le_trans (by first | (simp; done) | (simp; omega) | (have := HSB.out; simp; omega)) hgA.size; (first | (have HKB : Hid (wA.heap[w6.heap.size]? = some (.cells #[.string t] StrT (0, 0))) := keepGr hgA (heap_alloc_new _ _) HUA.out (by first | (simp; done) | (simp; omega))) | (have HKB : Hid (wA.heap[w6.heap.size + 1]? = some (.cells #[.string t] StrT (0, 0))) := keepGr hgA (heap_alloc_two _ _ _) HUA.out (by first | (simp; done) | (simp; omega))) | (have HKB : Hid (wA.heap[w6.heap.size]? = some (.cells #[.string t] StrT (0, 0))) := keepGr hgA (keepBlk (below_alloc1 _ _) (heap_alloc_new _ _)) HUA.out (by first | (simp; done) | (simp; omega))) | (have HKB : Hid (wA.heap[w6.heap.size]? = some (.cells #[.string t] StrT (0, 0))) := keepGr hgA (keepBlk (below_alloc1 _ _).drew (heap_alloc_new _ _)) HUA.out (by first | (simp; done) | (simp; omega))) | skip); (first | (have HB2 : Hid (wA.ownsRow w.heap.size StrT 1 (.slice adB (ts.length + [t].length) capB) (ts ++ [t]).length (Gk.rc sE (ts ++ [t]))) := rowKeep hrowB hgA HNB2.out) | (have HB2 : Hid (wA.ownsRow w.heap.size StrT 1 (.slice adB (ts.length + [t].length) capB) (ts ++ [t]).length (Gk.rc sE (ts ++ [t]))) := rowKeep (Gk.own_below hrowB (below_alloc1 _ _)) hgA HNB2.out) | skip)) | (refine Gk.step_append_keep (enc := plE) ?_ (.tmp 101) (.tmp 103) 24 ?_ PlT (.agg #[.int .i64 0, .int .i64 0, .int .i64 0]) 24 Tryz.underlying24 pl_info rfl ?_ plE_len plE_one w.heap.size u11 ps ?_ ?_ (w6.heap.size) 0 [(n, q, t.size)] 1 1 ?_ rfl ?_ ?_ ?_ ?_ ?_; rfl; rfl; decide; rfl; exact HTA _ (by assumption); rfl; exact (cellsA (p := (n, q, t.size)) (keepBlk (below_alloc1 _ _).drew (heap_alloc_new _ _))); (show (ps.length + 1) * 24 ≤ _; omega); (show ps.length + 1 ≤ _; omega); exact HTZ _ (by assumption); intro adA capA wA hrowA hgA hkeepA hatA; have HNA2 : Hid (∀ g, (Value.slice adA (ps.length + [(n, q, t.size)].length) capA).ownBlock = some g → (u10).ownBlock ≠ some g) := neNew hatA HNE.out HUB.out (by first | (simp; done) | (simp; omega) | (have := HSB.out; simp; omega)); have HGA : Hid (∀ g, (Value.slice adA (ps.length + [(n, q, t.size)].length) capA).ownBlock = some g → (u11).ownBlock = some g ∨ w6.heap.size ≤ g) := fun g hg => (hatA g hg).imp id fun h => Nat.le_trans (by first | (simp; done) | (simp; omega) | (have := HSB.out; simp; omega)) h; have HSA : Hid (w6.heap.size ≤ wA.heap.size) := Nat.le_trans (by first | (simp; done) | (simp; omega) | (have := HSB.out; simp; omega)) hgA.size; (first | (have HKB : Hid (wA.heap[w6.heap.size]? = some (.cells #[.string t] StrT (0, 0))) := keepGr hgA (heap_alloc_new _ _) HUA.out (by first | (simp; done) | (simp; omega))) | (have HKB : Hid (wA.heap[w6.heap.size + 1]? = some (.cells #[.string t] StrT (0, 0))) := keepGr hgA (heap_alloc_two _ _ _) HUA.out (by first | (simp; done) | (simp; omega))) | (have HKB : Hid (wA.heap[w6.heap.size]? = some (.cells #[.string t] StrT (0, 0))) := keepGr hgA (keepBlk (below_alloc1 _ _) (heap_alloc_new _ _)) HUA.out (by first | (simp; done) | (simp; omega))) | (have HKB : Hid (wA.heap[w6.heap.size]? = some (.cells #[.string t] StrT (0, 0))) := keepGr hgA (keepBlk (below_alloc1 _ _).drew (heap_alloc_new _ _)) HUA.out (by first | (simp; done) | (simp; omega))) | skip); (first | (have HB2 : Hid (wA.ownsRow w.heap.size StrT 1 (.slice adB (ts.length + [t].length) capB) (ts ++ [t]).length (Gk.rc sE (ts ++ [t]))) := rowKeep hrowB hgA HNB2.out) | (have HB2 : Hid (wA.ownsRow w.heap.size StrT 1 (.slice adB (ts.length + [t].length) capB) (ts ++ [t]).length (Gk.rc sE (ts ++ [t]))) := rowKeep (Gk.own_below hrowB (below_alloc1 _ _)) hgA HNB2.out) | skip)) | (refine Gk.step_append_keep (enc := plE) ?_ (.tmp 101) (.tmp 103) 24 ?_ PlT (.agg #[.int .i64 0, .int .i64 0, .int .i64 0]) 24 Tryz.underlying24 pl_info rfl ?_ plE_len plE_one w.heap.size u11 ps ?_ ?_ (w6.heap.size) 0 [(n, q, t.size)] 1 1 ?_ rfl ?_ ?_ ?_ ?_ ?_; rfl; rfl; decide; rfl; exact HTA _ (by assumption); rfl; exact (cellsA (p := (n, q, t.size)) HKA.out); (show (ps.length + 1) * 24 ≤ _; omega); (show ps.length + 1 ≤ _; omega); exact HTZ _ (by assumption); intro adA capA wA hrowA hgA hkeepA hatA; have HNA2 : Hid (∀ g, (Value.slice adA (ps.length + [(n, q, t.size)].length) capA).ownBlock = some g → (u10).ownBlock ≠ some g) := neNew hatA HNE.out HUB.out (by first | (simp; done) | (simp; omega) | (have := HSB.out; simp; omega)); have HGA : Hid (∀ g, (Value.slice adA (ps.length + [(n, q, t.size)].length) capA).ownBlock = some g → (u11).ownBlock = some g ∨ w6.heap.size ≤ g) := fun g hg => (hatA g hg).imp id fun h => Nat.le_trans (by first | (simp; done) | (simp; omega) | (have := HSB.out; simp; omega)) h; have HSA : Hid (w6.heap.size ≤ wA.heap.size) := Nat.le_trans (by first | (simp; done) | (simp; omega) | (have := HSB.out; simp; omega)) hgA.size; (first | (have HKB : Hid (wA.heap[w6.heap.size]? = some (.cells #[.string t] StrT (0, 0))) := keepGr hgA (heap_alloc_new _ _) HUA.out (by first | (simp; done) | (simp; omega))) | (have HKB : Hid (wA.heap[w6.heap.size + 1]? = some (.cells #[.string t] StrT (0, 0))) := keepGr hgA (heap_alloc_two _ _ _) HUA.out (by first | (simp; done) | (simp; omega))) | (have HKB : Hid (wA.heap[w6.heap.size]? = some (.cells #[.string t] StrT (0, 0))) := keepGr hgA (keepBlk (below_alloc1 _ _) (heap_alloc_new _ _)) HUA.out (by first | (simp; done) | (simp; omega))) | (have HKB : Hid (wA.heap[w6.heap.size]? = some (.cells #[.string t] StrT (0, 0))) := keepGr hgA (keepBlk (below_alloc1 _ _).drew (heap_alloc_new _ _)) HUA.out (by first | (simp; done) | (simp; omega))) | skip); (first | (have HB2 : Hid (wA.ownsRow w.heap.size StrT 1 (.slice adB (ts.length + [t].length) capB) (ts ++ [t]).length (Gk.rc sE (ts ++ [t]))) := rowKeep hrowB hgA HNB2.out) | (have HB2 : Hid (wA.ownsRow w.heap.size StrT 1 (.slice adB (ts.length + [t].length) capB) (ts ++ [t]).length (Gk.rc sE (ts ++ [t]))) := rowKeep (Gk.own_below hrowB (below_alloc1 _ _)) hgA HNB2.out) | skip)) | (refine Gk.step_append_keep (enc := plE) ?_ (.tmp 101) (.tmp 103) 24 ?_ PlT (.agg #[.int .i64 0, .int .i64 0, .int .i64 0]) 24 Tryz.underlying24 pl_info rfl ?_ plE_len plE_one w.heap.size u11 ps ?_ ?_ (w6.heap.size + 1) 0 [(n, q, t.size)] 1 1 ?_ rfl ?_ ?_ ?_ ?_ ?_; rfl; rfl; decide; rfl; exact HTA _ (by assumption); rfl; exact (cellsA (p := (n, q, t.size)) (heap_alloc_two _ _ _)); (show (ps.length + 1) * 24 ≤ _; omega); (show ps.length + 1 ≤ _; omega); exact HTZ _ (by assumption); intro adA capA wA hrowA hgA hkeepA hatA; have HNA2 : Hid (∀ g, (Value.slice adA (ps.length + [(n, q, t.size)].length) capA).ownBlock = some g → (u10).ownBlock ≠ some g) := neNew hatA HNE.out HUB.out (by first | (simp; done) | (simp; omega) | (have := HSB.out; simp; omega)); have HGA : Hid (∀ g, (Value.slice adA (ps.length + [(n, q, t.size)].length) capA).ownBlock = some g → (u11).ownBlock = some g ∨ w6.heap.size ≤ g) := fun g hg => (hatA g hg).imp id fun h => Nat.le_trans (by first | (simp; done) | (simp; omega) | (have := HSB.out; simp; omega)) h; have HSA : Hid (w6.heap.size ≤ wA.heap.size) := Nat.le_trans (by first | (simp; done) | (simp; omega) | (have := HSB.out; simp; omega)) hgA.size; (first | (have HKB : Hid (wA.heap[w6.heap.size]? = some (.cells #[.string t] StrT (0, 0))) := keepGr hgA (heap_alloc_new _ _) HUA.out (by first | (simp; done) | (simp; omega))) | (have HKB : Hid (wA.heap[w6.heap.size + 1]? = some (.cells #[.string t] StrT (0, 0))) := keepGr hgA (heap_alloc_two _ _ _) HUA.out (by first | (simp; done) | (simp; omega))) | (have HKB : Hid (wA.heap[w6.heap.size]? = some (.cells #[.string t] StrT (0, 0))) := keepGr hgA (keepBlk (below_alloc1 _ _) (heap_alloc_new _ _)) HUA.out (by first | (simp; done) | (simp; omega))) | (have HKB : Hid (wA.heap[w6.heap.size]? = some (.cells #[.string t] StrT (0, 0))) := keepGr hgA (keepBlk (below_alloc1 _ _).drew (heap_alloc_new _ _)) HUA.out (by first | (simp; done) | (simp; omega))) | skip); (first | (have HB2 : Hid (wA.ownsRow w.heap.size StrT 1 (.slice adB (ts.length + [t].length) capB) (ts ++ [t]).length (Gk.rc sE (ts ++ [t]))) := rowKeep hrowB hgA HNB2.out) | (have HB2 : Hid (wA.ownsRow w.heap.size StrT 1 (.slice adB (ts.length + [t].length) capB) (ts ++ [t]).length (Gk.rc sE (ts ++ [t]))) := rowKeep (Gk.own_below hrowB (below_alloc1 _ _)) hgA HNB2.out) | skip)) | (refine Gk.step_append_keep (enc := plE) ?_ (.tmp 101) (.tmp 103) 24 ?_ PlT (.agg #[.int .i64 0, .int .i64 0, .int .i64 0]) 24 Tryz.underlying24 pl_info rfl ?_ plE_len plE_one w.heap.size u11 ps ?_ ?_ (w6.heap.size + 1) 0 [(n, q, t.size)] 1 1 ?_ rfl ?_ ?_ ?_ ?_ ?_; rfl; rfl; decide; rfl; exact HTA _ (by assumption); rfl; exact (cellsA (p := (n, q, t.size)) HKA.out); (show (ps.length + 1) * 24 ≤ _; omega); (show ps.length + 1 ≤ _; omega); exact HTZ _ (by assumption); intro adA capA wA hrowA hgA hkeepA hatA; have HNA2 : Hid (∀ g, (Value.slice adA (ps.length + [(n, q, t.size)].length) capA).ownBlock = some g → (u10).ownBlock ≠ some g) := neNew hatA HNE.out HUB.out (by first | (simp; done) | (simp; omega) | (have := HSB.out; simp; omega)); have HGA : Hid (∀ g, (Value.slice adA (ps.length + [(n, q, t.size)].length) capA).ownBlock = some g → (u11).ownBlock = some g ∨ w6.heap.size ≤ g) := fun g hg => (hatA g hg).imp id fun h => Nat.le_trans (by first | (simp; done) | (simp; omega) | (have := HSB.out; simp; omega)) h; have HSA : Hid (w6.heap.size ≤ wA.heap.size) := Nat.le_trans (by first | (simp; done) | (simp; omega) | (have := HSB.out; simp; omega)) hgA.size; (first | (have HKB : Hid (wA.heap[w6.heap.size]? = some (.cells #[.string t] StrT (0, 0))) := keepGr hgA (heap_alloc_new _ _) HUA.out (by first | (simp; done) | (simp; omega))) | (have HKB : Hid (wA.heap[w6.heap.size + 1]? = some (.cells #[.string t] StrT (0, 0))) := keepGr hgA (heap_alloc_two _ _ _) HUA.out (by first | (simp; done) | (simp; omega))) | (have HKB : Hid (wA.heap[w6.heap.size]? = some (.cells #[.string t] StrT (0, 0))) := keepGr hgA (keepBlk (below_alloc1 _ _) (heap_alloc_new _ _)) HUA.out (by first | (simp; done) | (simp; omega))) | (have HKB : Hid (wA.heap[w6.heap.size]? = some (.cells #[.string t] StrT (0, 0))) := keepGr hgA (keepBlk (below_alloc1 _ _).drew (heap_alloc_new _ _)) HUA.out (by first | (simp; done) | (simp; omega))) | skip); (first | (have HB2 : Hid (wA.ownsRow w.heap.size StrT 1 (.slice adB (ts.length + [t].length) capB) (ts ++ [t]).length (Gk.rc sE (ts ++ [t]))) := rowKeep hrowB hgA HNB2.out) | (have HB2 : Hid (wA.ownsRow w.heap.size StrT 1 (.slice adB (ts.length + [t].length) capB) (ts ++ [t]).length (Gk.rc sE (ts ++ [t]))) := rowKeep (Gk.own_below hrowB (below_alloc1 _ _)) hgA HNB2.out) | skip)) | (refine Gk.step_append_keep (enc := plE) ?_ (.tmp 101) (.tmp 103) 24 ?_ PlT (.agg #[.int .i64 0, .int .i64 0, .int .i64 0]) 24 Tryz.underlying24 pl_info rfl ?_ plE_len plE_one w.heap.size u11 ps ?_ ?_ (wB.heap.size) 0 [(n, q, t.size)] 1 1 ?_ rfl ?_ ?_ ?_ ?_ ?_; rfl; rfl; decide; rfl; exact HTA _ (by assumption); rfl; exact (cellsA (p := (n, q, t.size)) (heap_alloc_new _ _)); (show (ps.length + 1) * 24 ≤ _; omega); (show ps.length + 1 ≤ _; omega); exact HTZ _ (by assumption); intro adA capA wA hrowA hgA hkeepA hatA; have HNA2 : Hid (∀ g, (Value.slice adA (ps.length + [(n, q, t.size)].length) capA).ownBlock = some g → (u10).ownBlock ≠ some g) := neNew hatA HNE.out HUB.out (by first | (simp; done) | (simp; omega) | (have := HSB.out; simp; omega)); have HGA : Hid (∀ g, (Value.slice adA (ps.length + [(n, q, t.size)].length) capA).ownBlock = some g → (u11).ownBlock = some g ∨ w6.heap.size ≤ g) := fun g hg => (hatA g hg).imp id fun h => Nat.le_trans (by first | (simp; done) | (simp; omega) | (have := HSB.out; simp; omega)) h; have HSA : Hid (w6.heap.size ≤ wA.heap.size) := Nat.le_trans (by first | (simp; done) | (simp; omega) | (have := HSB.out; simp; omega)) hgA.size; (first | (have HKB : Hid (wA.heap[w6.heap.size]? = some (.cells #[.string t] StrT (0, 0))) := keepGr hgA (heap_alloc_new _ _) HUA.out (by first | (simp; done) | (simp; omega))) | (have HKB : Hid (wA.heap[w6.heap.size + 1]? = some (.cells #[.string t] StrT (0, 0))) := keepGr hgA (heap_alloc_two _ _ _) HUA.out (by first | (simp; done) | (simp; omega))) | (have HKB : Hid (wA.heap[w6.heap.size]? = some (.cells #[.string t] StrT (0, 0))) := keepGr hgA (keepBlk (below_alloc1 _ _) (heap_alloc_new _ _)) HUA.out (by first | (simp; done) | (simp; omega))) | (have HKB : Hid (wA.heap[w6.heap.size]? = some (.cells #[.string t] StrT (0, 0))) := keepGr hgA (keepBlk (below_alloc1 _ _).drew (heap_alloc_new _ _)) HUA.out (by first | (simp; done) | (simp; omega))) | skip); (first | (have HB2 : Hid (wA.ownsRow w.heap.size StrT 1 (.slice adB (ts.length + [t].length) capB) (ts ++ [t]).length (Gk.rc sE (ts ++ [t]))) := rowKeep hrowB hgA HNB2.out) | (have HB2 : Hid (wA.ownsRow w.heap.size StrT 1 (.slice adB (ts.length + [t].length) capB) (ts ++ [t]).length (Gk.rc sE (ts ++ [t]))) := rowKeep (Gk.own_below hrowB (below_alloc1 _ _)) hgA HNB2.out) | skip)) | (refine Gk.step_append_keep (enc := sE) ?_ (.tmp 94) (.tmp 99) 22 ?_ StrT (.string ⟨#[]⟩) 16 Tryz.underlying22 str_inf rfl ?_ sE_len sE_one w.heap.size u10 ts ?_ ?_ (w6.heap.size) 0 [t] 1 1 ?_ rfl ?_ ?_ ?_ ?_ ?_; rfl; rfl; decide; rfl; exact HTB _ (by assumption); rfl; exact (cellsB (heap_alloc_new _ _)); (show (ts.length + 1) * 16 ≤ _; omega); (show ts.length + 1 ≤ _; omega); exact HTZ _ (by assumption); intro adB capB wB hrowB hgB hkeepB hatB; have HNB2 : Hid (∀ g, (Value.slice adB (ts.length + [t].length) capB).ownBlock = some g → (u11).ownBlock ≠ some g) := neNew hatB HNE2.out HUA.out (by first | (simp; done) | (simp; omega) | (have := HSA.out; simp; omega)); have HGB : Hid (∀ g, (Value.slice adB (ts.length + [t].length) capB).ownBlock = some g → (u10).ownBlock = some g ∨ w6.heap.size ≤ g) := fun g hg => (hatB g hg).imp id fun h => Nat.le_trans (by first | (simp; done) | (simp; omega) | (have := HSA.out; simp; omega)) h; have HSB : Hid (w6.heap.size ≤ wB.heap.size) := Nat.le_trans (by first | (simp; done) | (simp; omega) | (have := HSA.out; simp; omega)) hgB.size; (first | (have HKA : Hid (wB.heap[w6.heap.size]? = some (.cells #[.int .i64 n, .int .i64 q, .int .i64 t.size] PlT (0, 0))) := keepGr hgB (heap_alloc_new _ _) HUB.out (by first | (simp; done) | (simp; omega))) | (have HKA : Hid (wB.heap[w6.heap.size + 1]? = some (.cells #[.int .i64 n, .int .i64 q, .int .i64 t.size] PlT (0, 0))) := keepGr hgB (heap_alloc_two _ _ _) HUB.out (by first | (simp; done) | (simp; omega))) | (have HKA : Hid (wB.heap[w6.heap.size]? = some (.cells #[.int .i64 n, .int .i64 q, .int .i64 t.size] PlT (0, 0))) := keepGr hgB (keepBlk (below_alloc1 _ _) (heap_alloc_new _ _)) HUB.out (by first | (simp; done) | (simp; omega))) | (have HKA : Hid (wB.heap[w6.heap.size]? = some (.cells #[.int .i64 n, .int .i64 q, .int .i64 t.size] PlT (0, 0))) := keepGr hgB (keepBlk (below_alloc1 _ _).drew (heap_alloc_new _ _)) HUB.out (by first | (simp; done) | (simp; omega))) | skip); (first | (have HA2 : Hid (wB.ownsRow w.heap.size PlT 3 (.slice adA (ps.length + [(n, q, t.size)].length) capA) (ps ++ [(n, q, t.size)]).length (Gk.rc plE (ps ++ [(n, q, t.size)]))) := rowKeep hrowA hgB HNA2.out) | (have HA2 : Hid (wB.ownsRow w.heap.size PlT 3 (.slice adA (ps.length + [(n, q, t.size)].length) capA) (ps ++ [(n, q, t.size)]).length (Gk.rc plE (ps ++ [(n, q, t.size)]))) := rowKeep (Gk.own_below hrowA (below_alloc1 _ _)) hgB HNA2.out) | skip)) | (refine Gk.step_append_keep (enc := sE) ?_ (.tmp 94) (.tmp 99) 22 ?_ StrT (.string ⟨#[]⟩) 16 Tryz.underlying22 str_inf rfl ?_ sE_len sE_one w.heap.size u10 ts ?_ ?_ (w6.heap.size) 0 [t] 1 1 ?_ rfl ?_ ?_ ?_ ?_ ?_; rfl; rfl; decide; rfl; exact HTB _ (by assumption); rfl; exact (cellsB (keepBlk (below_alloc1 _ _).drew (heap_alloc_new _ _))); (show (ts.length + 1) * 16 ≤ _; omega); (show ts.length + 1 ≤ _; omega); exact HTZ _ (by assumption); intro adB capB wB hrowB hgB hkeepB hatB; have HNB2 : Hid (∀ g, (Value.slice adB (ts.length + [t].length) capB).ownBlock = some g → (u11).ownBlock ≠ some g) := neNew hatB HNE2.out HUA.out (by first | (simp; done) | (simp; omega) | (have := HSA.out; simp; omega)); have HGB : Hid (∀ g, (Value.slice adB (ts.length + [t].length) capB).ownBlock = some g → (u10).ownBlock = some g ∨ w6.heap.size ≤ g) := fun g hg => (hatB g hg).imp id fun h => Nat.le_trans (by first | (simp; done) | (simp; omega) | (have := HSA.out; simp; omega)) h; have HSB : Hid (w6.heap.size ≤ wB.heap.size) := Nat.le_trans (by first | (simp; done) | (simp; omega) | (have := HSA.out; simp; omega)) hgB.size; (first | (have HKA : Hid (wB.heap[w6.heap.size]? = some (.cells #[.int .i64 n, .int .i64 q, .int .i64 t.size] PlT (0, 0))) := keepGr hgB (heap_alloc_new _ _) HUB.out (by first | (simp; done) | (simp; omega))) | (have HKA : Hid (wB.heap[w6.heap.size + 1]? = some (.cells #[.int .i64 n, .int .i64 q, .int .i64 t.size] PlT (0, 0))) := keepGr hgB (heap_alloc_two _ _ _) HUB.out (by first | (simp; done) | (simp; omega))) | (have HKA : Hid (wB.heap[w6.heap.size]? = some (.cells #[.int .i64 n, .int .i64 q, .int .i64 t.size] PlT (0, 0))) := keepGr hgB (keepBlk (below_alloc1 _ _) (heap_alloc_new _ _)) HUB.out (by first | (simp; done) | (simp; omega))) | (have HKA : Hid (wB.heap[w6.heap.size]? = some (.cells #[.int .i64 n, .int .i64 q, .int .i64 t.size] PlT (0, 0))) := keepGr hgB (keepBlk (below_alloc1 _ _).drew (heap_alloc_new _ _)) HUB.out (by first | (simp; done) | (simp; omega))) | skip); (first | (have HA2 : Hid (wB.ownsRow w.heap.size PlT 3 (.slice adA (ps.length + [(n, q, t.size)].length) capA) (ps ++ [(n, q, t.size)]).length (Gk.rc plE (ps ++ [(n, q, t.size)]))) := rowKeep hrowA hgB HNA2.out) | (have HA2 : Hid (wB.ownsRow w.heap.size PlT 3 (.slice adA (ps.length + [(n, q, t.size)].length) capA) (ps ++ [(n, q, t.size)]).length (Gk.rc plE (ps ++ [(n, q, t.size)]))) := rowKeep (Gk.own_below hrowA (below_alloc1 _ _)) hgB HNA2.out) | skip)) | (refine Gk.step_append_keep (enc := sE) ?_ (.tmp 94) (.tmp 99) 22 ?_ StrT (.string ⟨#[]⟩) 16 Tryz.underlying22 str_inf rfl ?_ sE_len sE_one w.heap.size u10 ts ?_ ?_ (w6.heap.size) 0 [t] 1 1 ?_ rfl ?_ ?_ ?_ ?_ ?_; rfl; rfl; decide; rfl; exact HTB _ (by assumption); rfl; exact (cellsB HKB.out); (show (ts.length + 1) * 16 ≤ _; omega); (show ts.length + 1 ≤ _; omega); exact HTZ _ (by assumption); intro adB capB wB hrowB hgB hkeepB hatB; have HNB2 : Hid (∀ g, (Value.slice adB (ts.length + [t].length) capB).ownBlock = some g → (u11).ownBlock ≠ some g) := neNew hatB HNE2.out HUA.out (by first | (simp; done) | (simp; omega) | (have := HSA.out; simp; omega)); have HGB : Hid (∀ g, (Value.slice adB (ts.length + [t].length) capB).ownBlock = some g → (u10).ownBlock = some g ∨ w6.heap.size ≤ g) := fun g hg => (hatB g hg).imp id fun h => Nat.le_trans (by first | (simp; done) | (simp; omega) | (have := HSA.out; simp; omega)) h; have HSB : Hid (w6.heap.size ≤ wB.heap.size) := Nat.le_trans (by first | (simp; done) | (simp; omega) | (have := HSA.out; simp; omega)) hgB.size; (first | (have HKA : Hid (wB.heap[w6.heap.size]? = some (.cells #[.int .i64 n, .int .i64 q, .int .i64 t.size] PlT (0, 0))) := keepGr hgB (heap_alloc_new _ _) HUB.out (by first | (simp; done) | (simp; omega))) | (have HKA : Hid (wB.heap[w6.heap.size + 1]? = some (.cells #[.int .i64 n, .int .i64 q, .int .i64 t.size] PlT (0, 0))) := keepGr hgB (heap_alloc_two _ _ _) HUB.out (by first | (simp; done) | (simp; omega))) | (have HKA : Hid (wB.heap[w6.heap.size]? = some (.cells #[.int .i64 n, .int .i64 q, .int .i64 t.size] PlT (0, 0))) := keepGr hgB (keepBlk (below_alloc1 _ _) (heap_alloc_new _ _)) HUB.out (by first | (simp; done) | (simp; omega))) | (have HKA : Hid (wB.heap[w6.heap.size]? = some (.cells #[.int .i64 n, .int .i64 q, .int .i64 t.size] PlT (0, 0))) := keepGr hgB (keepBlk (below_alloc1 _ _).drew (heap_alloc_new _ _)) HUB.out (by first | (simp; done) | (simp; omega))) | skip); (first | (have HA2 : Hid (wB.ownsRow w.heap.size PlT 3 (.slice adA (ps.length + [(n, q, t.size)].length) capA) (ps ++ [(n, q, t.size)]).length (Gk.rc plE (ps ++ [(n, q, t.size)]))) := rowKeep hrowA hgB HNA2.out) | (have HA2 : Hid (wB.ownsRow w.heap.size PlT 3 (.slice adA (ps.length + [(n, q, t.size)].length) capA) (ps ++ [(n, q, t.size)]).length (Gk.rc plE (ps ++ [(n, q, t.size)]))) := rowKeep (Gk.own_below hrowA (below_alloc1 _ _)) hgB HNA2.out) | skip)) | (refine Gk.step_append_keep (enc := sE) ?_ (.tmp 94) (.tmp 99) 22 ?_ StrT (.string ⟨#[]⟩) 16 Tryz.underlying22 str_inf rfl ?_ sE_len sE_one w.heap.size u10 ts ?_ ?_ (w6.heap.size + 1) 0 [t] 1 1 ?_ rfl ?_ ?_ ?_ ?_ ?_; rfl; rfl; decide; rfl; exact HTB _ (by assumption); rfl; exact (cellsB (heap_alloc_two _ _ _)); (show (ts.length + 1) * 16 ≤ _; omega); (show ts.length + 1 ≤ _; omega); exact HTZ _ (by assumption); intro adB capB wB hrowB hgB hkeepB hatB; have HNB2 : Hid (∀ g, (Value.slice adB (ts.length + [t].length) capB).ownBlock = some g → (u11).ownBlock ≠ some g) := neNew hatB HNE2.out HUA.out (by first | (simp; done) | (simp; omega) | (have := HSA.out; simp; omega)); have HGB : Hid (∀ g, (Value.slice adB (ts.length + [t].length) capB).ownBlock = some g → (u10).ownBlock = some g ∨ w6.heap.size ≤ g) := fun g hg => (hatB g hg).imp id fun h => Nat.le_trans (by first | (simp; done) | (simp; omega) | (have := HSA.out; simp; omega)) h; have HSB : Hid (w6.heap.size ≤ wB.heap.size) := Nat.le_trans (by first | (simp; done) | (simp; omega) | (have := HSA.out; simp; omega)) hgB.size; (first | (have HKA : Hid (wB.heap[w6.heap.size]? = some (.cells #[.int .i64 n, .int .i64 q, .int .i64 t.size] PlT (0, 0))) := keepGr hgB (heap_alloc_new _ _) HUB.out (by first | (simp; done) | (simp; omega))) | (have HKA : Hid (wB.heap[w6.heap.size + 1]? = some (.cells #[.int .i64 n, .int .i64 q, .int .i64 t.size] PlT (0, 0))) := keepGr hgB (heap_alloc_two _ _ _) HUB.out (by first | (simp; done) | (simp; omega))) | (have HKA : Hid (wB.heap[w6.heap.size]? = some (.cells #[.int .i64 n, .int .i64 q, .int .i64 t.size] PlT (0, 0))) := keepGr hgB (keepBlk (below_alloc1 _ _) (heap_alloc_new _ _)) HUB.out (by first | (simp; done) | (simp; omega))) | (have HKA : Hid (wB.heap[w6.heap.size]? = some (.cells #[.int .i64 n, .int .i64 q, .int .i64 t.size] PlT (0, 0))) := keepGr hgB (keepBlk (below_alloc1 _ _).drew (heap_alloc_new _ _)) HUB.out (by first | (simp; done) | (simp; omega))) | skip); (first | (have HA2 : Hid (wB.ownsRow w.heap.size PlT 3 (.slice adA (ps.length + [(n, q, t.size)].length) capA) (ps ++ [(n, q, t.size)]).length (Gk.rc plE (ps ++ [(n, q, t.size)]))) := rowKeep hrowA hgB HNA2.out) | (have HA2 : Hid (wB.ownsRow w.heap.size PlT 3 (.slice adA (ps.length + [(n, q, t.size)].length) capA) (ps ++ [(n, q, t.size)]).length (Gk.rc plE (ps ++ [(n, q, t.size)]))) := rowKeep (Gk.own_below hrowA (below_alloc1 _ _)) hgB HNA2.out) | skip)) | (refine Gk.step_append_keep (enc := sE) ?_ (.tmp 94) (.tmp 99) 22 ?_ StrT (.string ⟨#[]⟩) 16 Tryz.underlying22 str_inf rfl ?_ sE_len sE_one w.heap.size u10 ts ?_ ?_ (w6.heap.size + 1) 0 [t] 1 1 ?_ rfl ?_ ?_ ?_ ?_ ?_; rfl; rfl; decide; rfl; exact HTB _ (by assumption); rfl; exact (cellsB HKB.out); (show (ts.length + 1) * 16 ≤ _; omega); (show ts.length + 1 ≤ _; omega); exact HTZ _ (by assumption); intro adB capB wB hrowB hgB hkeepB hatB; have HNB2 : Hid (∀ g, (Value.slice adB (ts.length + [t].length) capB).ownBlock = some g → (u11).ownBlock ≠ some g) := neNew hatB HNE2.out HUA.out (by first | (simp; done) | (simp; omega) | (have := HSA.out; simp; omega)); have HGB : Hid (∀ g, (Value.slice adB (ts.length + [t].length) capB).ownBlock = some g → (u10).ownBlock = some g ∨ w6.heap.size ≤ g) := fun g hg => (hatB g hg).imp id fun h => Nat.le_trans (by first | (simp; done) | (simp; omega) | (have := HSA.out; simp; omega)) h; have HSB : Hid (w6.heap.size ≤ wB.heap.size) := Nat.le_trans (by first | (simp; done) | (simp; omega) | (have := HSA.out; simp; omega)) hgB.size; (first | (have HKA : Hid (wB.heap[w6.heap.size]? = some (.cells #[.int .i64 n, .int .i64 q, .int .i64 t.size] PlT (0, 0))) := keepGr hgB (heap_alloc_new _ _) HUB.out (by first | (simp; done) | (simp; omega))) | (have HKA : Hid (wB.heap[w6.heap.size + 1]? = some (.cells #[.int .i64 n, .int .i64 q, .int .i64 t.size] PlT (0, 0))) := keepGr hgB (heap_alloc_two _ _ _) HUB.out (by first | (simp; done) | (simp; omega))) | (have HKA : Hid (wB.heap[w6.heap.size]? = some (.cells #[.int .i64 n, .int .i64 q, .int .i64 t.size] PlT (0, 0))) := keepGr hgB (keepBlk (below_alloc1 _ _) (heap_alloc_new _ _)) HUB.out (by first | (simp; done) | (simp; omega))) | (have HKA : Hid (wB.heap[w6.heap.size]? = some (.cells #[.int .i64 n, .int .i64 q, .int .i64 t.size] PlT (0, 0))) := keepGr hgB (keepBlk (below_alloc1 _ _).drew (heap_alloc_new _ _)) HUB.out (by first | (simp; done) | (simp; omega))) | skip); (first | (have HA2 : Hid (wB.ownsRow w.heap.size PlT 3 (.slice adA (ps.length + [(n, q, t.size)].length) capA) (ps ++ [(n, q, t.size)]).length (Gk.rc plE (ps ++ [(n, q, t.size)]))) := rowKeep hrowA hgB HNA2.out) | (have HA2 : Hid (wB.ownsRow w.heap.size PlT 3 (.slice adA (ps.length + [(n, q, t.size)].length) capA) (ps ++ [(n, q, t.size)]).length (Gk.rc plE (ps ++ [(n, q, t.size)]))) := rowKeep (Gk.own_below hrowA (below_alloc1 _ _)) hgB HNA2.out) | skip)) | (refine Gk.step_append_keep (enc := sE) ?_ (.tmp 94) (.tmp 99) 22 ?_ StrT (.string ⟨#[]⟩) 16 Tryz.underlying22 str_inf rfl ?_ sE_len sE_one w.heap.size u10 ts ?_ ?_ (wA.heap.size) 0 [t] 1 1 ?_ rfl ?_ ?_ ?_ ?_ ?_; rfl; rfl; decide; rfl; exact HTB _ (by assumption); rfl; exact (cellsB (heap_alloc_new _ _)); (show (ts.length + 1) * 16 ≤ _; omega); (show ts.length + 1 ≤ _; omega); exact HTZ _ (by assumption); intro adB capB wB hrowB hgB hkeepB hatB; have HNB2 : Hid (∀ g, (Value.slice adB (ts.length + [t].length) capB).ownBlock = some g → (u11).ownBlock ≠ some g) := neNew hatB HNE2.out HUA.out (by first | (simp; done) | (simp; omega) | (have := HSA.out; simp; omega)); have HGB : Hid (∀ g, (Value.slice adB (ts.length + [t].length) capB).ownBlock = some g → (u10).ownBlock = some g ∨ w6.heap.size ≤ g) := fun g hg => (hatB g hg).imp id fun h => Nat.le_trans (by first | (simp; done) | (simp; omega) | (have := HSA.out; simp; omega)) h; have HSB : Hid (w6.heap.size ≤ wB.heap.size) := Nat.le_trans (by first | (simp; done) | (simp; omega) | (have := HSA.out; simp; omega)) hgB.size; (first | (have HKA : Hid (wB.heap[w6.heap.size]? = some (.cells #[.int .i64 n, .int .i64 q, .int .i64 t.size] PlT (0, 0))) := keepGr hgB (heap_alloc_new _ _) HUB.out (by first | (simp; done) | (simp; omega))) | (have HKA : Hid (wB.heap[w6.heap.size + 1]? = some (.cells #[.int .i64 n, .int .i64 q, .int .i64 t.size] PlT (0, 0))) := keepGr hgB (heap_alloc_two _ _ _) HUB.out (by first | (simp; done) | (simp; omega))) | (have HKA : Hid (wB.heap[w6.heap.size]? = some (.cells #[.int .i64 n, .int .i64 q, .int .i64 t.size] PlT (0, 0))) := keepGr hgB (keepBlk (below_alloc1 _ _) (heap_alloc_new _ _)) HUB.out (by first | (simp; done) | (simp; omega))) | (have HKA : Hid (wB.heap[w6.heap.size]? = some (.cells #[.int .i64 n, .int .i64 q, .int .i64 t.size] PlT (0, 0))) := keepGr hgB (keepBlk (below_alloc1 _ _).drew (heap_alloc_new _ _)) HUB.out (by first | (simp; done) | (simp; omega))) | skip); (first | (have HA2 : Hid (wB.ownsRow w.heap.size PlT 3 (.slice adA (ps.length + [(n, q, t.size)].length) capA) (ps ++ [(n, q, t.size)]).length (Gk.rc plE (ps ++ [(n, q, t.size)]))) := rowKeep hrowA hgB HNA2.out) | (have HA2 : Hid (wB.ownsRow w.heap.size PlT 3 (.slice adA (ps.length + [(n, q, t.size)].length) capA) (ps ++ [(n, q, t.size)]).length (Gk.rc plE (ps ++ [(n, q, t.size)]))) := rowKeep (Gk.own_below hrowA (below_alloc1 _ _)) hgB HNA2.out) | skip)) | fail)
            all_goals
              rename_i hHeld
              have hRB := HR6.out.both hHeld.2.out.1.vh hrowA HB2.out HGA.out HGB.out
              rw [show ps.length + [(n, q, t.size)].length = ps.length + 1 from rfl, show ts.length + [t].length = ts.length + 1 from rfl] at hRB
              have HRB := hide hRB
              clear hHeld hrowA hgA hkeepA hatA hrowB hgB hkeepB hatB HB2 HNA2 HGA HNB2 HGB HSA HSB HTA HTB HTZ hTS c0 c1 c2 c3 hRB HNE HNE2 HUA HUB HR6
              go_wp2
              exact ⟨⟨k + 1, ps ++ [(n, q, t.size)], ts ++ [t], by omega, by omega, by rw [List.length_append, List.length_singleton]; omega, by go_num, own5, max top n, S5, HRB.out, by rw [List.length_append]; exact HF5.out.1, HF5.out.2.1, HF5.out.2.2.1, HF5.out.2.2.2⟩, by simp [intOf]; omega⟩
          · have hl' : (500 : Int) < (t.size : Int) := by omega
            have HLP : Hid (Lp w wr bd bv mm u11 u10 ps ts) := ⟨own, top, S, hR, hs, hc, hnb, hf⟩
            clear hR hs hc hf hnb
            go_wp2
            go_roundw
            case rel => exact ⟨k + 1, ps, ts, by omega, by omega, by omega, by go_num, HLP.out⟩
            case measure => simp [intOf]; omega
        · have HLP : Hid (Lp w wr bd bv mm u11 u10 ps ts) := ⟨own, top, S, hR, hs, hc, hnb, hf⟩
          clear hR hs hc hf hnb
          by_cases hjl : k < ls.length
          · have j1 : (k : Int) < (ls.length : Int) := by omega
            have j3 : ¬ (k : Int) < 20 := by omega
            go_wp2
            go_meet
            case rel => exact ⟨ps, ts, by omega, HLP.out⟩
          · have j1 : ¬ (k : Int) < (ls.length : Int) := by omega
            go_wp2
            go_meet
            case rel => exact ⟨ps, ts, by omega, HLP.out⟩
  case rest =>
    obtain ⟨ps, ts, hp20, own, top, S, hR, hs, hc, hnb, hf⟩ := hcut
    have hSy := Dk.sync_any wc (hR.vh.disk.own (own' := plus own wc.heap.size) fun _ _ ho => Or.inl ho)
    rw [hs.up.sync] at hSy
    have HR := hide hR
    have HF := hide (And.intro hs (And.intro hc (And.intro hnb hf)))
    clear hR hs hc hnb hf HV4 HS4
    go_wp2_with fail
    refine hSy.mono ?_
    rintro e w5 ⟨rfl, hH5, hO5⟩
    have hT := HR.out.vh.turn hH5 hO5
    have hR5 := HR.out.step hT.1 hT.2
    clear hSy hH5 hO5 hT
    have hk5 := sync_kp HF.out.2.2.2
    have hc5 := HF.out.2.1.sync
    have hnb5 := HF.out.2.2.1.sync
    have hu5 : Up { S with files := syncL S.files } := ⟨HF.out.1.up.fuse, HF.out.1.up.down⟩
    have htp5 : ∀ n ∈ nums { S with files := syncL S.files }, n ≤ top := by rw [sync_nums HR.out.vh.ok.rising]; exact HF.out.1.tops
    have htk5 : top ≤ 20 := by have := HF.out.1.topk; omega
    generalize ({ S with files := syncL S.files } : St) = S5 at *
    have HR5 := hide hR5
    have HK5 := hide (And.intro hk5 (And.intro hc5 (And.intro hnb5 (And.intro hu5 htp5))))
    clear hR5 hk5 hc5 hnb5 hu5 htp5 HR HF
    have hrl : rs.length ≤ 9223372036854775807 := by have := hRs.room; have := hRs.max; omega
    go_wp2
    go_loopw [9, 10, 11, 15] (fun vv vB vA iv wr => ∃ (k bv top : Nat) (ps : List Np) (ts : List ByteArray), k ≤ rs.length ∧ k ≤ 6 ∧ ps.length ≤ 20 ∧ top ≤ 20 + 20 * k ∧ iv = .int .i64 k ∧ vv = .pointer (some ⟨bv, 0, none⟩) ∧ Lq w wr bd bv mm top vA vB ps ts) (fun _ _ _ iv _ => rs.length - (intOf iv).toNat)
    case atStart => exact ⟨0, bv, top, ps, ts, by omega, by omega, hp20, htk5, rfl, rfl, _, S5, HR5.out, HK5.out.1, HK5.out.2.1, HK5.out.2.2.1, HK5.out.2.2.2.1, HK5.out.2.2.2.2⟩
    case round =>
      clear HR5 HK5 hp20 htk5
      obtain ⟨k, bv, top, ps, ts, hk, hk6, hp20, htop, rfl, rfl, own, S, hR, hK, hc, hnb, hu, htp⟩ := hrel
      by_cases hin : k < rs.length ∧ k < 6
      · obtain ⟨hkl, hk2⟩ := hin
        obtain ⟨rb, roff, rfl, hrb, hrc⟩ := rd_cell hRs k hkl
        obtain ⟨aA, cA, rfl⟩ := Gk.own_slice hR.rA
        obtain ⟨aB, cB, rfl⟩ := Gk.own_slice hR.rB
        have hX := hRs.each rs[k] (List.getElem_mem hkl)
        have r0 := hrc wr hR.vh.base 0 _ rfl
        have r1 := hrc wr hR.vh.base 1 _ rfl
        have r2 := hrc wr hR.vh.base 2 _ rfl
        have r3 := hrc wr hR.vh.base 3 _ rfl
        rw [Nat.add_zero] at r0
        generalize rs[k] = x at *
        obtain ⟨la, lc, lv, pc, cu, da, dc, ds⟩ := x
        replace r0 : wr.cell? ⟨rb, roff + k * 4, none⟩ = some (.slice la lv.length lc) := r0
        replace r1 : wr.cell? ⟨rb, roff + k * 4 + 1, none⟩ = some (.int .i64 pc) := r1
        replace r2 : wr.cell? ⟨rb, roff + k * 4 + 2, none⟩ = some (.int .i64 cu) := r2
        replace r3 : wr.cell? ⟨rb, roff + k * 4 + 3, none⟩ = some (.slice da ds.length dc) := r3
        have i1 : (0 : Int) ≤ (k : Int) := by omega
        have i2 : (k : Int) < (rs.length : Int) := by omega
        have i3 : (k : Int) < 6 := by omega
        obtain ⟨w6, hw6⟩ : ∃ w6, w6 = wr.alloc (.cells #[.slice la lv.length lc, .int .i64 pc, .int .i64 cu, .slice da ds.length dc] RdT) := ⟨_, rfl⟩
        have hb6 : Below wr.heap.size wr w6 := by rw [hw6]; exact below_alloc1 _ _
        have hX6 : w6.heap[wr.heap.size]? = some (.cells #[.slice la lv.length lc, .int .i64 pc, .int .i64 cu, .slice da ds.length dc] RdT (0, 0)) := by rw [hw6]; exact heap_alloc_new _ _
        have hR6 := hR.below hb6
        have hxn : ¬ wi own bv wr.heap.size := hR.fresh (Nat.le_refl _)
        have hxA : ∀ g, (Value.slice aA ps.length cA).ownBlock = some g → g < wr.heap.size := fun g hg => (hR.rA.lt g hg).2
        have hxB : ∀ g, (Value.slice aB ts.length cB).ownBlock = some g → g < wr.heap.size := fun g hg => (hR.rB.lt g hg).2
        have HR6 := hide hR6
        have HK := hide (And.intro hK (And.intro hc (And.intro hnb (And.intro hu htp))))
        have HX := hide hX
        have HX6 := hide (And.intro hX6 (And.intro hxn (And.intro hxA hxB)))
        have HBA := hide hR.vh.base.size
        clear hR hK hc hnb hu htp hX hrc hR6 hX6 hxn hxA hxB hb6
        by_cases hdl : 4096 < ds.length
        · have d1 : (4096 : Int) < (ds.length : Int) := by omega
          go_wp2
          go_ret
          exact ⟨rfl, by rw [← hw6]; exact HR6.out.vh.base⟩
        · have d1 : ¬ (4096 : Int) < (ds.length : Int) := by omega
          have hz6 : w6.heap.size = wr.heap.size + 1 := by rw [hw6]; simp
          have HT0 : Hid (TR w w6 own bd bv mm top S (.slice aA ps.length cA) (.slice aB ts.length cB) ps ts wr.heap.size (.cells #[.slice la lv.length lc, .int .i64 pc, .int .i64 cu, .slice da ds.length dc] RdT (0, 0)) (.slice none 0 0) (.slice none 0 0) [] [] w6) :=
            ⟨HR6.out, World.ownsRow_nil _ _ _ _, World.ownsRow_nil _ _ _ _, by simp [Value.ownBlock], by simp [Value.ownBlock], Nat.le_refl _, HR6.out.vh.base.size, fun g hg => by have := HX6.out.2.2.1 g hg; omega, fun g hg => by have := HX6.out.2.2.2 g hg; omega, HX6.out.1, by omega⟩
          have hlen : ts.length = ps.length := HK.out.1.len.symm
          have HLEN := hide hlen
          clear hz6 hlen
          go_wp2
          rw [← hw6]
          clear hw6 r0 r1 r2 r3
          generalize hbx : wr.heap.size = bx at *
          clear hbx
          obtain ⟨X, hX⟩ : ∃ X, X = Obj.cells #[.slice la lv.length lc, .int .i64 pc, .int .i64 cu, .slice da ds.length dc] RdT (0, 0) := ⟨_, rfl⟩
          rw [← hX] at HT0
          have HXX := hide hX
          clear hX
          go_loopw [17, 18, 128] (fun vB' vA' iv wq => ∃ (j : Nat) (ps' : List Np) (ts' : List ByteArray), j ≤ ps.length ∧ ps'.length ≤ j ∧ iv = .int .i64 j ∧ TR w w6 own bd bv mm top S (.slice aA ps.length cA) (.slice aB ts.length cB) ps ts bx X vA' vB' ps' ts' wq ∧ Kp S ps' ts') (fun _ _ iv _ => ps.length - (intOf iv).toNat)
          case atStart => exact ⟨0, [], [], by omega, Nat.le_refl _, rfl, HT0.out, trivial⟩
          case round =>
            as_aux_lemma =>
              clear HT0
              obtain ⟨j, ps', ts', hj, hpj, rfl, hT, hKp⟩ := hrel
              by_cases hjl : j < ps.length
              · have hjt : j < ts.length := by have := HLEN.out; omega
                obtain ⟨gA, offA, rfl, hgA, hcA⟩ := (Gk.Row.lies (k := 3) (e := PlT) (n := ps.length) (cap := cA) (Gk.own_mono hT.old.rA (Nat.zero_le _))).at Vl.plE_len j hjl
                obtain ⟨gB, offB, rfl, hgB, hcB⟩ := (Gk.Row.lies (k := 1) (e := StrT) (n := ts.length) (cap := cB) (Gk.own_mono hT.old.rB (Nat.zero_le _))).at sE_len j hjt
                have c0 := hcA 0 _ rfl
                have c1 := hcA 1 _ rfl
                have c2 := hcA 2 _ rfl
                rw [Nat.add_zero] at c0
                have c3 := hcB 0 _ rfl
                rw [Nat.mul_one, Nat.add_zero] at c3
                have hone := HK.out.1.get j hjl hjt
                generalize ps[j] = p at *
                generalize ts[j] = t at *
                obtain ⟨pn, pq, pl⟩ := p
                replace c0 : wr.cell? ⟨gA, offA + j * 3, none⟩ = some (.int .i64 (pn : Int)) := c0
                replace c1 : wr.cell? ⟨gA, offA + j * 3 + 1, none⟩ = some (.int .i64 (pq : Int)) := c1
                replace c2 : wr.cell? ⟨gA, offA + j * 3 + 2, none⟩ = some (.int .i64 (pl : Int)) := c2
                have j1 : (0 : Int) ≤ (j : Int) := by omega
                have j2 : (j : Int) < (ps.length : Int) := by omega
                have j3 : (j : Int) < (ts.length : Int) := by omega
                have x0 : wr.cell? ⟨bx, 0, none⟩ = some (.slice la lv.length lc) := by
                  rw [cell_of_block (hT.box.trans (congrArg some HXX.out))]; rfl
                have HT := hide hT
                have HKP := hide hKp
                have HONE := hide hone
                have hgA6 : gA < w6.heap.size := hT.oA gA rfl
                have hgB6 : gB < w6.heap.size := hT.oB gB rfl
                clear hT hKp hone hcA hcB
                have hTQ : TQ w w6 own bd bv mm top S (.slice (some ⟨gA, offA, none⟩) ps.length cA) (.slice (some ⟨gB, offB, none⟩) ts.length cB) ps ts bx X u18 u17 ps' ts' gA (offA + j * 3) (pn, pq, pl) gB (offB + j) t wr := ⟨⟨c0, c1, c2, c3⟩, HT.out, hgA6, hgB6⟩
                have HNE : Hid (∀ g, u18.ownBlock = some g → u17.ownBlock ≠ some g) := fun g hg => HT.out.ne hg
                have HNE2 : Hid (∀ g, u17.ownBlock = some g → u18.ownBlock ≠ some g) := fun g hg e => HT.out.ne e hg
                have HUA : Hid (∀ g, u18.ownBlock = some g → g < wr.heap.size) := fun g hg => (HT.out.rA.lt g hg).2
                have HUB : Hid (∀ g, u17.ownBlock = some g → g < wr.heap.size) := fun g hg => (HT.out.rB.lt g hg).2
                have hpl40 : ps'.length ≤ 40 := by omega
                have htl40 : ts'.length ≤ 40 := by have := HKP.out.len; omega
                have HEND : Hid (∀ ps2 ts2 vA2 vB2 W2, ps2.length ≤ ps'.length + 1 → TR w w6 own bd bv mm top S (.slice (some ⟨gA, offA, none⟩) ps.length cA) (.slice (some ⟨gB, offB, none⟩) ts.length cB) ps ts bx X vA2 vB2 ps2 ts2 W2 → Kp S ps2 ts2 → (∃ (j_1 : Nat) (ps' : List Np) (ts' : List ByteArray), j_1 ≤ ps.length ∧ ps'.length ≤ j_1 ∧ Value.int IntKind.i64 (↑j + 1) = Value.int IntKind.i64 ↑j_1 ∧ TR w w6 own bd bv mm top S (.slice (some ⟨gA, offA, none⟩) ps.length cA) (.slice (some ⟨gB, offB, none⟩) ts.length cB) ps ts bx X vA2 vB2 ps' ts' W2 ∧ Kp S ps' ts') ∧ ps.length - (intOf (Value.int IntKind.i64 (↑j + 1))).toNat < ps.length - (intOf (Value.int IntKind.i64 ↑j)).toNat) := fun ps2 ts2 vA2 vB2 W2 h1 h2 h3 => ⟨⟨j + 1, ps2, ts2, by omega, by omega, by go_num, h2, h3⟩, by simp [intOf]; omega⟩
                --@a{
                by_cases hlv : j < lv.length
                case' pos =>
                  obtain ⟨lb, loff, rfl, hlb, hlc⟩ := (HX.out.lv.lies.below HT.out.old.vh.base).at Gk.ienc_len j hlv
                  have l0 := hlc 0 _ rfl
                  rw [Nat.mul_one, Nat.add_zero] at l0
                  have k1 : ¬ (lv.length : Int) ≤ (j : Int) := by omega
                  have k2 : (j : Int) < (lv.length : Int) := by omega
                  generalize lv[j] = y at *
                  clear hlc
                  go_wp2
                  case roundEnd => exact HEND.out ps' ts' _ _ _ (by omega) HT.out HKP.out
                case' neg =>
                  have k1 : (lv.length : Int) ≤ (j : Int) := by omega
                  have k2 : ¬ (j : Int) < (lv.length : Int) := by omega
                  go_wp2
                all_goals
                  clear k1 k2 x0
                  have HTA : ∀ W, TQ w w6 own bd bv mm top S (.slice (some ⟨gA, offA, none⟩) ps.length cA) (.slice (some ⟨gB, offB, none⟩) ts.length cB) ps ts bx X u18 u17 ps' ts' gA (offA + j * 3) (pn, pq, pl) gB (offB + j) t W → W.ownsRow w6.heap.size PlT 3 u18 ps'.length (Gk.rc plE ps') := fun W h => h.2.out.1.rA
                  have HTB : ∀ W, TQ w w6 own bd bv mm top S (.slice (some ⟨gA, offA, none⟩) ps.length cA) (.slice (some ⟨gB, offB, none⟩) ts.length cB) ps ts bx X u18 u17 ps' ts' gA (offA + j * 3) (pn, pq, pl) gB (offB + j) t W → W.ownsRow w6.heap.size StrT 1 u17 ts'.length (Gk.rc sE ts') := fun W h => h.2.out.1.rB
                  have HTZ : ∀ W, TQ w w6 own bd bv mm top S (.slice (some ⟨gA, offA, none⟩) ps.length cA) (.slice (some ⟨gB, offB, none⟩) ts.length cB) ps ts bx X u18 u17 ps' ts' gA (offA + j * 3) (pn, pq, pl) gB (offB + j) t W → w6.heap.size ≤ W.heap.size := fun W h => h.2.out.1.z
                  go_region_held3 (TQ w w6 own bd bv mm top S (.slice (some ⟨gA, offA, none⟩) ps.length cA) (.slice (some ⟨gB, offB, none⟩) ts.length cB) ps ts bx X u18 u17 ps' ts' gA (offA + j * 3) (pn, pq, pl) gB (offB + j) t) (first | with_reducible exact TQ.drew (by assumption) | with_reducible exact TQ.alloc (by assumption) _ | with_reducible assumption | with_reducible exact TQ.drew (TQ.alloc hTQ _) | with_reducible exact TQ.drew (TQ.alloc (TQ.alloc hTQ _) _) | with_reducible exact TQ.keepA (by assumption) (by assumption) (by assumption) | with_reducible exact TQ.keepB (by assumption) (by assumption) (by assumption) | fail)
                    (first | (refine Gk.step_append_keep (enc := plE) ?_ (.tmp 152) (.tmp 157) 24 ?_ PlT (.agg #[.int .i64 0, .int .i64 0, .int .i64 0]) 24 Tryz.underlying24 pl_info rfl ?_ plE_len plE_one w6.heap.size u18 ps' ?_ ?_ (wr.heap.size) 0 [(pn, pq, pl)] 1 1 ?_ rfl ?_ ?_ ?_ ?_ ?_; rfl; rfl; decide; rfl; exact HTA _ (by assumption); rfl; exact (cellsA (p := (pn, pq, pl)) (heap_alloc_new _ _)); (show (ps'.length + 1) * 24 ≤ _; omega); (show ps'.length + 1 ≤ _; omega); exact HTZ _ (by assumption); intro adA capA wA hrowA hgA hkeepA hatA; have HNA2 : Hid (∀ g, (Value.slice adA (ps'.length + [(pn, pq, pl)].length) capA).ownBlock = some g → (u17).ownBlock ≠ some g) := neNew hatA HNE.out HUB.out (by first | (simp; done) | (simp; omega) | (have := HSB.out; simp; omega)); have HGA : Hid (∀ g, (Value.slice adA (ps'.length + [(pn, pq, pl)].length) capA).ownBlock = some g → (u18).ownBlock = some g ∨ wr.heap.size ≤ g) := fun g hg => (hatA g hg).imp id fun h => Nat.le_trans (by first | (simp; done) | (simp; omega) | (have := HSB.out; simp; omega)) h; have HSA : Hid (wr.heap.size ≤ wA.heap.size) := Nat.le_trans (by first | (simp; done) | (simp; omega) | (have := HSB.out; simp; omega)) hgA.size; (first | (have HKB : Hid (wA.heap[wr.heap.size]? = some (.cells #[.string t] StrT (0, 0))) := keepGr hgA (heap_alloc_new _ _) HUA.out (by first | (simp; done) | (simp; omega))) | (have HKB : Hid (wA.heap[wr.heap.size + 1]? = some (.cells #[.string t] StrT (0, 0))) := keepGr hgA (heap_alloc_two _ _ _) HUA.out (by first | (simp; done) | (simp; omega))) | (have HKB : Hid (wA.heap[wr.heap.size]? = some (.cells #[.string t] StrT (0, 0))) := keepGr hgA (keepBlk (below_alloc1 _ _) (heap_alloc_new _ _)) HUA.out (by first | (simp; done) | (simp; omega))) | (have HKB : Hid (wA.heap[wr.heap.size]? = some (.cells #[.string t] StrT (0, 0))) := keepGr hgA (keepBlk (below_alloc1 _ _).drew (heap_alloc_new _ _)) HUA.out (by first | (simp; done) | (simp; omega))) | skip); (first | (have HB2 : Hid (wA.ownsRow w6.heap.size StrT 1 (.slice adB (ts'.length + [t].length) capB) (ts' ++ [t]).length (Gk.rc sE (ts' ++ [t]))) := rowKeep hrowB hgA HNB2.out) | (have HB2 : Hid (wA.ownsRow w6.heap.size StrT 1 (.slice adB (ts'.length + [t].length) capB) (ts' ++ [t]).length (Gk.rc sE (ts' ++ [t]))) := rowKeep (Gk.own_below hrowB (below_alloc1 _ _)) hgA HNB2.out) | skip)) | (refine Gk.step_append_keep (enc := plE) ?_ (.tmp 152) (.tmp 157) 24 ?_ PlT (.agg #[.int .i64 0, .int .i64 0, .int .i64 0]) 24 Tryz.underlying24 pl_info rfl ?_ plE_len plE_one w6.heap.size u18 ps' ?_ ?_ (wr.heap.size) 0 [(pn, pq, pl)] 1 1 ?_ rfl ?_ ?_ ?_ ?_ ?_; rfl; rfl; decide; rfl; exact HTA _ (by assumption); rfl; exact (cellsA (p := (pn, pq, pl)) (keepBlk (below_alloc1 _ _).drew (heap_alloc_new _ _))); (show (ps'.length + 1) * 24 ≤ _; omega); (show ps'.length + 1 ≤ _; omega); exact HTZ _ (by assumption); intro adA capA wA hrowA hgA hkeepA hatA; have HNA2 : Hid (∀ g, (Value.slice adA (ps'.length + [(pn, pq, pl)].length) capA).ownBlock = some g → (u17).ownBlock ≠ some g) := neNew hatA HNE.out HUB.out (by first | (simp; done) | (simp; omega) | (have := HSB.out; simp; omega)); have HGA : Hid (∀ g, (Value.slice adA (ps'.length + [(pn, pq, pl)].length) capA).ownBlock = some g → (u18).ownBlock = some g ∨ wr.heap.size ≤ g) := fun g hg => (hatA g hg).imp id fun h => Nat.le_trans (by first | (simp; done) | (simp; omega) | (have := HSB.out; simp; omega)) h; have HSA : Hid (wr.heap.size ≤ wA.heap.size) := Nat.le_trans (by first | (simp; done) | (simp; omega) | (have := HSB.out; simp; omega)) hgA.size; (first | (have HKB : Hid (wA.heap[wr.heap.size]? = some (.cells #[.string t] StrT (0, 0))) := keepGr hgA (heap_alloc_new _ _) HUA.out (by first | (simp; done) | (simp; omega))) | (have HKB : Hid (wA.heap[wr.heap.size + 1]? = some (.cells #[.string t] StrT (0, 0))) := keepGr hgA (heap_alloc_two _ _ _) HUA.out (by first | (simp; done) | (simp; omega))) | (have HKB : Hid (wA.heap[wr.heap.size]? = some (.cells #[.string t] StrT (0, 0))) := keepGr hgA (keepBlk (below_alloc1 _ _) (heap_alloc_new _ _)) HUA.out (by first | (simp; done) | (simp; omega))) | (have HKB : Hid (wA.heap[wr.heap.size]? = some (.cells #[.string t] StrT (0, 0))) := keepGr hgA (keepBlk (below_alloc1 _ _).drew (heap_alloc_new _ _)) HUA.out (by first | (simp; done) | (simp; omega))) | skip); (first | (have HB2 : Hid (wA.ownsRow w6.heap.size StrT 1 (.slice adB (ts'.length + [t].length) capB) (ts' ++ [t]).length (Gk.rc sE (ts' ++ [t]))) := rowKeep hrowB hgA HNB2.out) | (have HB2 : Hid (wA.ownsRow w6.heap.size StrT 1 (.slice adB (ts'.length + [t].length) capB) (ts' ++ [t]).length (Gk.rc sE (ts' ++ [t]))) := rowKeep (Gk.own_below hrowB (below_alloc1 _ _)) hgA HNB2.out) | skip)) | (refine Gk.step_append_keep (enc := plE) ?_ (.tmp 152) (.tmp 157) 24 ?_ PlT (.agg #[.int .i64 0, .int .i64 0, .int .i64 0]) 24 Tryz.underlying24 pl_info rfl ?_ plE_len plE_one w6.heap.size u18 ps' ?_ ?_ (wr.heap.size) 0 [(pn, pq, pl)] 1 1 ?_ rfl ?_ ?_ ?_ ?_ ?_; rfl; rfl; decide; rfl; exact HTA _ (by assumption); rfl; exact (cellsA (p := (pn, pq, pl)) HKA.out); (show (ps'.length + 1) * 24 ≤ _; omega); (show ps'.length + 1 ≤ _; omega); exact HTZ _ (by assumption); intro adA capA wA hrowA hgA hkeepA hatA; have HNA2 : Hid (∀ g, (Value.slice adA (ps'.length + [(pn, pq, pl)].length) capA).ownBlock = some g → (u17).ownBlock ≠ some g) := neNew hatA HNE.out HUB.out (by first | (simp; done) | (simp; omega) | (have := HSB.out; simp; omega)); have HGA : Hid (∀ g, (Value.slice adA (ps'.length + [(pn, pq, pl)].length) capA).ownBlock = some g → (u18).ownBlock = some g ∨ wr.heap.size ≤ g) := fun g hg => (hatA g hg).imp id fun h => Nat.le_trans (by first | (simp; done) | (simp; omega) | (have := HSB.out; simp; omega)) h; have HSA : Hid (wr.heap.size ≤ wA.heap.size) := Nat.le_trans (by first | (simp; done) | (simp; omega) | (have := HSB.out; simp; omega)) hgA.size; (first | (have HKB : Hid (wA.heap[wr.heap.size]? = some (.cells #[.string t] StrT (0, 0))) := keepGr hgA (heap_alloc_new _ _) HUA.out (by first | (simp; done) | (simp; omega))) | (have HKB : Hid (wA.heap[wr.heap.size + 1]? = some (.cells #[.string t] StrT (0, 0))) := keepGr hgA (heap_alloc_two _ _ _) HUA.out (by first | (simp; done) | (simp; omega))) | (have HKB : Hid (wA.heap[wr.heap.size]? = some (.cells #[.string t] StrT (0, 0))) := keepGr hgA (keepBlk (below_alloc1 _ _) (heap_alloc_new _ _)) HUA.out (by first | (simp; done) | (simp; omega))) | (have HKB : Hid (wA.heap[wr.heap.size]? = some (.cells #[.string t] StrT (0, 0))) := keepGr hgA (keepBlk (below_alloc1 _ _).drew (heap_alloc_new _ _)) HUA.out (by first | (simp; done) | (simp; omega))) | skip); (first | (have HB2 : Hid (wA.ownsRow w6.heap.size StrT 1 (.slice adB (ts'.length + [t].length) capB) (ts' ++ [t]).length (Gk.rc sE (ts' ++ [t]))) := rowKeep hrowB hgA HNB2.out) | (have HB2 : Hid (wA.ownsRow w6.heap.size StrT 1 (.slice adB (ts'.length + [t].length) capB) (ts' ++ [t]).length (Gk.rc sE (ts' ++ [t]))) := rowKeep (Gk.own_below hrowB (below_alloc1 _ _)) hgA HNB2.out) | skip)) | (refine Gk.step_append_keep (enc := plE) ?_ (.tmp 152) (.tmp 157) 24 ?_ PlT (.agg #[.int .i64 0, .int .i64 0, .int .i64 0]) 24 Tryz.underlying24 pl_info rfl ?_ plE_len plE_one w6.heap.size u18 ps' ?_ ?_ (wr.heap.size + 1) 0 [(pn, pq, pl)] 1 1 ?_ rfl ?_ ?_ ?_ ?_ ?_; rfl; rfl; decide; rfl; exact HTA _ (by assumption); rfl; exact (cellsA (p := (pn, pq, pl)) (heap_alloc_two _ _ _)); (show (ps'.length + 1) * 24 ≤ _; omega); (show ps'.length + 1 ≤ _; omega); exact HTZ _ (by assumption); intro adA capA wA hrowA hgA hkeepA hatA; have HNA2 : Hid (∀ g, (Value.slice adA (ps'.length + [(pn, pq, pl)].length) capA).ownBlock = some g → (u17).ownBlock ≠ some g) := neNew hatA HNE.out HUB.out (by first | (simp; done) | (simp; omega) | (have := HSB.out; simp; omega)); have HGA : Hid (∀ g, (Value.slice adA (ps'.length + [(pn, pq, pl)].length) capA).ownBlock = some g → (u18).ownBlock = some g ∨ wr.heap.size ≤ g) := fun g hg => (hatA g hg).imp id fun h => Nat.le_trans (by first | (simp; done) | (simp; omega) | (have := HSB.out; simp; omega)) h; have HSA : Hid (wr.heap.size ≤ wA.heap.size) := Nat.le_trans (by first | (simp; done) | (simp; omega) | (have := HSB.out; simp; omega)) hgA.size; (first | (have HKB : Hid (wA.heap[wr.heap.size]? = some (.cells #[.string t] StrT (0, 0))) := keepGr hgA (heap_alloc_new _ _) HUA.out (by first | (simp; done) | (simp; omega))) | (have HKB : Hid (wA.heap[wr.heap.size + 1]? = some (.cells #[.string t] StrT (0, 0))) := keepGr hgA (heap_alloc_two _ _ _) HUA.out (by first | (simp; done) | (simp; omega))) | (have HKB : Hid (wA.heap[wr.heap.size]? = some (.cells #[.string t] StrT (0, 0))) := keepGr hgA (keepBlk (below_alloc1 _ _) (heap_alloc_new _ _)) HUA.out (by first | (simp; done) | (simp; omega))) | (have HKB : Hid (wA.heap[wr.heap.size]? = some (.cells #[.string t] StrT (0, 0))) := keepGr hgA (keepBlk (below_alloc1 _ _).drew (heap_alloc_new _ _)) HUA.out (by first | (simp; done) | (simp; omega))) | skip); (first | (have HB2 : Hid (wA.ownsRow w6.heap.size StrT 1 (.slice adB (ts'.length + [t].length) capB) (ts' ++ [t]).length (Gk.rc sE (ts' ++ [t]))) := rowKeep hrowB hgA HNB2.out) | (have HB2 : Hid (wA.ownsRow w6.heap.size StrT 1 (.slice adB (ts'.length + [t].length) capB) (ts' ++ [t]).length (Gk.rc sE (ts' ++ [t]))) := rowKeep (Gk.own_below hrowB (below_alloc1 _ _)) hgA HNB2.out) | skip)) | (refine Gk.step_append_keep (enc := plE) ?_ (.tmp 152) (.tmp 157) 24 ?_ PlT (.agg #[.int .i64 0, .int .i64 0, .int .i64 0]) 24 Tryz.underlying24 pl_info rfl ?_ plE_len plE_one w6.heap.size u18 ps' ?_ ?_ (wr.heap.size + 1) 0 [(pn, pq, pl)] 1 1 ?_ rfl ?_ ?_ ?_ ?_ ?_; rfl; rfl; decide; rfl; exact HTA _ (by assumption); rfl; exact (cellsA (p := (pn, pq, pl)) HKA.out); (show (ps'.length + 1) * 24 ≤ _; omega); (show ps'.length + 1 ≤ _; omega); exact HTZ _ (by assumption); intro adA capA wA hrowA hgA hkeepA hatA; have HNA2 : Hid (∀ g, (Value.slice adA (ps'.length + [(pn, pq, pl)].length) capA).ownBlock = some g → (u17).ownBlock ≠ some g) := neNew hatA HNE.out HUB.out (by first | (simp; done) | (simp; omega) | (have := HSB.out; simp; omega)); have HGA : Hid (∀ g, (Value.slice adA (ps'.length + [(pn, pq, pl)].length) capA).ownBlock = some g → (u18).ownBlock = some g ∨ wr.heap.size ≤ g) := fun g hg => (hatA g hg).imp id fun h => Nat.le_trans (by first | (simp; done) | (simp; omega) | (have := HSB.out; simp; omega)) h; have HSA : Hid (wr.heap.size ≤ wA.heap.size) := Nat.le_trans (by first | (simp; done) | (simp; omega) | (have := HSB.out; simp; omega)) hgA.size; (first | (have HKB : Hid (wA.heap[wr.heap.size]? = some (.cells #[.string t] StrT (0, 0))) := keepGr hgA (heap_alloc_new _ _) HUA.out (by first | (simp; done) | (simp; omega))) | (have HKB : Hid (wA.heap[wr.heap.size + 1]? = some (.cells #[.string t] StrT (0, 0))) := keepGr hgA (heap_alloc_two _ _ _) HUA.out (by first | (simp; done) | (simp; omega))) | (have HKB : Hid (wA.heap[wr.heap.size]? = some (.cells #[.string t] StrT (0, 0))) := keepGr hgA (keepBlk (below_alloc1 _ _) (heap_alloc_new _ _)) HUA.out (by first | (simp; done) | (simp; omega))) | (have HKB : Hid (wA.heap[wr.heap.size]? = some (.cells #[.string t] StrT (0, 0))) := keepGr hgA (keepBlk (below_alloc1 _ _).drew (heap_alloc_new _ _)) HUA.out (by first | (simp; done) | (simp; omega))) | skip); (first | (have HB2 : Hid (wA.ownsRow w6.heap.size StrT 1 (.slice adB (ts'.length + [t].length) capB) (ts' ++ [t]).length (Gk.rc sE (ts' ++ [t]))) := rowKeep hrowB hgA HNB2.out) | (have HB2 : Hid (wA.ownsRow w6.heap.size StrT 1 (.slice adB (ts'.length + [t].length) capB) (ts' ++ [t]).length (Gk.rc sE (ts' ++ [t]))) := rowKeep (Gk.own_below hrowB (below_alloc1 _ _)) hgA HNB2.out) | skip)) | (refine Gk.step_append_keep (enc := plE) ?_ (.tmp 152) (.tmp 157) 24 ?_ PlT (.agg #[.int .i64 0, .int .i64 0, .int .i64 0]) 24 Tryz.underlying24 pl_info rfl ?_ plE_len plE_one w6.heap.size u18 ps' ?_ ?_ (wB.heap.size) 0 [(pn, pq, pl)] 1 1 ?_ rfl ?_ ?_ ?_ ?_ ?_; rfl; rfl; decide; rfl; exact HTA _ (by assumption); rfl; exact (cellsA (p := (pn, pq, pl)) (heap_alloc_new _ _)); (show (ps'.length + 1) * 24 ≤ _; omega); (show ps'.length + 1 ≤ _; omega); exact HTZ _ (by assumption); intro adA capA wA hrowA hgA hkeepA hatA; have HNA2 : Hid (∀ g, (Value.slice adA (ps'.length + [(pn, pq, pl)].length) capA).ownBlock = some g → (u17).ownBlock ≠ some g) := neNew hatA HNE.out HUB.out (by first | (simp; done) | (simp; omega) | (have := HSB.out; simp; omega)); have HGA : Hid (∀ g, (Value.slice adA (ps'.length + [(pn, pq, pl)].length) capA).ownBlock = some g → (u18).ownBlock = some g ∨ wr.heap.size ≤ g) := fun g hg => (hatA g hg).imp id fun h => Nat.le_trans (by first | (simp; done) | (simp; omega) | (have := HSB.out; simp; omega)) h; have HSA : Hid (wr.heap.size ≤ wA.heap.size) := Nat.le_trans (by first | (simp; done) | (simp; omega) | (have := HSB.out; simp; omega)) hgA.size; (first | (have HKB : Hid (wA.heap[wr.heap.size]? = some (.cells #[.string t] StrT (0, 0))) := keepGr hgA (heap_alloc_new _ _) HUA.out (by first | (simp; done) | (simp; omega))) | (have HKB : Hid (wA.heap[wr.heap.size + 1]? = some (.cells #[.string t] StrT (0, 0))) := keepGr hgA (heap_alloc_two _ _ _) HUA.out (by first | (simp; done) | (simp; omega))) | (have HKB : Hid (wA.heap[wr.heap.size]? = some (.cells #[.string t] StrT (0, 0))) := keepGr hgA (keepBlk (below_alloc1 _ _) (heap_alloc_new _ _)) HUA.out (by first | (simp; done) | (simp; omega))) | (have HKB : Hid (wA.heap[wr.heap.size]? = some (.cells #[.string t] StrT (0, 0))) := keepGr hgA (keepBlk (below_alloc1 _ _).drew (heap_alloc_new _ _)) HUA.out (by first | (simp; done) | (simp; omega))) | skip); (first | (have HB2 : Hid (wA.ownsRow w6.heap.size StrT 1 (.slice adB (ts'.length + [t].length) capB) (ts' ++ [t]).length (Gk.rc sE (ts' ++ [t]))) := rowKeep hrowB hgA HNB2.out) | (have HB2 : Hid (wA.ownsRow w6.heap.size StrT 1 (.slice adB (ts'.length + [t].length) capB) (ts' ++ [t]).length (Gk.rc sE (ts' ++ [t]))) := rowKeep (Gk.own_below hrowB (below_alloc1 _ _)) hgA HNB2.out) | skip)) | (refine Gk.step_append_keep (enc := sE) ?_ (.tmp 145) (.tmp 150) 22 ?_ StrT (.string ⟨#[]⟩) 16 Tryz.underlying22 str_inf rfl ?_ sE_len sE_one w6.heap.size u17 ts' ?_ ?_ (wr.heap.size) 0 [t] 1 1 ?_ rfl ?_ ?_ ?_ ?_ ?_; rfl; rfl; decide; rfl; exact HTB _ (by assumption); rfl; exact (cellsB (heap_alloc_new _ _)); (show (ts'.length + 1) * 16 ≤ _; omega); (show ts'.length + 1 ≤ _; omega); exact HTZ _ (by assumption); intro adB capB wB hrowB hgB hkeepB hatB; have HNB2 : Hid (∀ g, (Value.slice adB (ts'.length + [t].length) capB).ownBlock = some g → (u18).ownBlock ≠ some g) := neNew hatB HNE2.out HUA.out (by first | (simp; done) | (simp; omega) | (have := HSA.out; simp; omega)); have HGB : Hid (∀ g, (Value.slice adB (ts'.length + [t].length) capB).ownBlock = some g → (u17).ownBlock = some g ∨ wr.heap.size ≤ g) := fun g hg => (hatB g hg).imp id fun h => Nat.le_trans (by first | (simp; done) | (simp; omega) | (have := HSA.out; simp; omega)) h; have HSB : Hid (wr.heap.size ≤ wB.heap.size) := Nat.le_trans (by first | (simp; done) | (simp; omega) | (have := HSA.out; simp; omega)) hgB.size; (first | (have HKA : Hid (wB.heap[wr.heap.size]? = some (.cells #[.int .i64 pn, .int .i64 pq, .int .i64 pl] PlT (0, 0))) := keepGr hgB (heap_alloc_new _ _) HUB.out (by first | (simp; done) | (simp; omega))) | (have HKA : Hid (wB.heap[wr.heap.size + 1]? = some (.cells #[.int .i64 pn, .int .i64 pq, .int .i64 pl] PlT (0, 0))) := keepGr hgB (heap_alloc_two _ _ _) HUB.out (by first | (simp; done) | (simp; omega))) | (have HKA : Hid (wB.heap[wr.heap.size]? = some (.cells #[.int .i64 pn, .int .i64 pq, .int .i64 pl] PlT (0, 0))) := keepGr hgB (keepBlk (below_alloc1 _ _) (heap_alloc_new _ _)) HUB.out (by first | (simp; done) | (simp; omega))) | (have HKA : Hid (wB.heap[wr.heap.size]? = some (.cells #[.int .i64 pn, .int .i64 pq, .int .i64 pl] PlT (0, 0))) := keepGr hgB (keepBlk (below_alloc1 _ _).drew (heap_alloc_new _ _)) HUB.out (by first | (simp; done) | (simp; omega))) | skip); (first | (have HA2 : Hid (wB.ownsRow w6.heap.size PlT 3 (.slice adA (ps'.length + [(pn, pq, pl)].length) capA) (ps' ++ [(pn, pq, pl)]).length (Gk.rc plE (ps' ++ [(pn, pq, pl)]))) := rowKeep hrowA hgB HNA2.out) | (have HA2 : Hid (wB.ownsRow w6.heap.size PlT 3 (.slice adA (ps'.length + [(pn, pq, pl)].length) capA) (ps' ++ [(pn, pq, pl)]).length (Gk.rc plE (ps' ++ [(pn, pq, pl)]))) := rowKeep (Gk.own_below hrowA (below_alloc1 _ _)) hgB HNA2.out) | skip)) | (refine Gk.step_append_keep (enc := sE) ?_ (.tmp 145) (.tmp 150) 22 ?_ StrT (.string ⟨#[]⟩) 16 Tryz.underlying22 str_inf rfl ?_ sE_len sE_one w6.heap.size u17 ts' ?_ ?_ (wr.heap.size) 0 [t] 1 1 ?_ rfl ?_ ?_ ?_ ?_ ?_; rfl; rfl; decide; rfl; exact HTB _ (by assumption); rfl; exact (cellsB (keepBlk (below_alloc1 _ _).drew (heap_alloc_new _ _))); (show (ts'.length + 1) * 16 ≤ _; omega); (show ts'.length + 1 ≤ _; omega); exact HTZ _ (by assumption); intro adB capB wB hrowB hgB hkeepB hatB; have HNB2 : Hid (∀ g, (Value.slice adB (ts'.length + [t].length) capB).ownBlock = some g → (u18).ownBlock ≠ some g) := neNew hatB HNE2.out HUA.out (by first | (simp; done) | (simp; omega) | (have := HSA.out; simp; omega)); have HGB : Hid (∀ g, (Value.slice adB (ts'.length + [t].length) capB).ownBlock = some g → (u17).ownBlock = some g ∨ wr.heap.size ≤ g) := fun g hg => (hatB g hg).imp id fun h => Nat.le_trans (by first | (simp; done) | (simp; omega) | (have := HSA.out; simp; omega)) h; have HSB : Hid (wr.heap.size ≤ wB.heap.size) := Nat.le_trans (by first | (simp; done) | (simp; omega) | (have := HSA.out; simp; omega)) hgB.size; (first | (have HKA : Hid (wB.heap[wr.heap.size]? = some (.cells #[.int .i64 pn, .int .i64 pq, .int .i64 pl] PlT (0, 0))) := keepGr hgB (heap_alloc_new _ _) HUB.out (by first | (simp; done) | (simp; omega))) | (have HKA : Hid (wB.heap[wr.heap.size + 1]? = some (.cells #[.int .i64 pn, .int .i64 pq, .int .i64 pl] PlT (0, 0))) := keepGr hgB (heap_alloc_two _ _ _) HUB.out (by first | (simp; done) | (simp; omega))) | (have HKA : Hid (wB.heap[wr.heap.size]? = some (.cells #[.int .i64 pn, .int .i64 pq, .int .i64 pl] PlT (0, 0))) := keepGr hgB (keepBlk (below_alloc1 _ _) (heap_alloc_new _ _)) HUB.out (by first | (simp; done) | (simp; omega))) | (have HKA : Hid (wB.heap[wr.heap.size]? = some (.cells #[.int .i64 pn, .int .i64 pq, .int .i64 pl] PlT (0, 0))) := keepGr hgB (keepBlk (below_alloc1 _ _).drew (heap_alloc_new _ _)) HUB.out (by first | (simp; done) | (simp; omega))) | skip); (first | (have HA2 : Hid (wB.ownsRow w6.heap.size PlT 3 (.slice adA (ps'.length + [(pn, pq, pl)].length) capA) (ps' ++ [(pn, pq, pl)]).length (Gk.rc plE (ps' ++ [(pn, pq, pl)]))) := rowKeep hrowA hgB HNA2.out) | (have HA2 : Hid (wB.ownsRow w6.heap.size PlT 3 (.slice adA (ps'.length + [(pn, pq, pl)].length) capA) (ps' ++ [(pn, pq, pl)]).length (Gk.rc plE (ps' ++ [(pn, pq, pl)]))) := rowKeep (Gk.own_below hrowA (below_alloc1 _ _)) hgB HNA2.out) | skip)) | (refine Gk.step_append_keep (enc := sE) ?_ (.tmp 145) (.tmp 150) 22 ?_ StrT (.string ⟨#[]⟩) 16 Tryz.underlying22 str_inf rfl ?_ sE_len sE_one w6.heap.size u17 ts' ?_ ?_ (wr.heap.size) 0 [t] 1 1 ?_ rfl ?_ ?_ ?_ ?_ ?_; rfl; rfl; decide; rfl; exact HTB _ (by assumption); rfl; exact (cellsB HKB.out); (show (ts'.length + 1) * 16 ≤ _; omega); (show ts'.length + 1 ≤ _; omega); exact HTZ _ (by assumption); intro adB capB wB hrowB hgB hkeepB hatB; have HNB2 : Hid (∀ g, (Value.slice adB (ts'.length + [t].length) capB).ownBlock = some g → (u18).ownBlock ≠ some g) := neNew hatB HNE2.out HUA.out (by first | (simp; done) | (simp; omega) | (have := HSA.out; simp; omega)); have HGB : Hid (∀ g, (Value.slice adB (ts'.length + [t].length) capB).ownBlock = some g → (u17).ownBlock = some g ∨ wr.heap.size ≤ g) := fun g hg => (hatB g hg).imp id fun h => Nat.le_trans (by first | (simp; done) | (simp; omega) | (have := HSA.out; simp; omega)) h; have HSB : Hid (wr.heap.size ≤ wB.heap.size) := Nat.le_trans (by first | (simp; done) | (simp; omega) | (have := HSA.out; simp; omega)) hgB.size; (first | (have HKA : Hid (wB.heap[wr.heap.size]? = some (.cells #[.int .i64 pn, .int .i64 pq, .int .i64 pl] PlT (0, 0))) := keepGr hgB (heap_alloc_new _ _) HUB.out (by first | (simp; done) | (simp; omega))) | (have HKA : Hid (wB.heap[wr.heap.size + 1]? = some (.cells #[.int .i64 pn, .int .i64 pq, .int .i64 pl] PlT (0, 0))) := keepGr hgB (heap_alloc_two _ _ _) HUB.out (by first | (simp; done) | (simp; omega))) | (have HKA : Hid (wB.heap[wr.heap.size]? = some (.cells #[.int .i64 pn, .int .i64 pq, .int .i64 pl] PlT (0, 0))) := keepGr hgB (keepBlk (below_alloc1 _ _) (heap_alloc_new _ _)) HUB.out (by first | (simp; done) | (simp; omega))) | (have HKA : Hid (wB.heap[wr.heap.size]? = some (.cells #[.int .i64 pn, .int .i64 pq, .int .i64 pl] PlT (0, 0))) := keepGr hgB (keepBlk (below_alloc1 _ _).drew (heap_alloc_new _ _)) HUB.out (by first | (simp; done) | (simp; omega))) | skip); (first | (have HA2 : Hid (wB.ownsRow w6.heap.size PlT 3 (.slice adA (ps'.length + [(pn, pq, pl)].length) capA) (ps' ++ [(pn, pq, pl)]).length (Gk.rc plE (ps' ++ [(pn, pq, pl)]))) := rowKeep hrowA hgB HNA2.out) | (have HA2 : Hid (wB.ownsRow w6.heap.size PlT 3 (.slice adA (ps'.length + [(pn, pq, pl)].length) capA) (ps' ++ [(pn, pq, pl)]).length (Gk.rc plE (ps' ++ [(pn, pq, pl)]))) := rowKeep (Gk.own_below hrowA (below_alloc1 _ _)) hgB HNA2.out) | skip)) | (refine Gk.step_append_keep (enc := sE) ?_ (.tmp 145) (.tmp 150) 22 ?_ StrT (.string ⟨#[]⟩) 16 Tryz.underlying22 str_inf rfl ?_ sE_len sE_one w6.heap.size u17 ts' ?_ ?_ (wr.heap.size + 1) 0 [t] 1 1 ?_ rfl ?_ ?_ ?_ ?_ ?_; rfl; rfl; decide; rfl; exact HTB _ (by assumption); rfl; exact (cellsB (heap_alloc_two _ _ _)); (show (ts'.length + 1) * 16 ≤ _; omega); (show ts'.length + 1 ≤ _; omega); exact HTZ _ (by assumption); intro adB capB wB hrowB hgB hkeepB hatB; have HNB2 : Hid (∀ g, (Value.slice adB (ts'.length + [t].length) capB).ownBlock = some g → (u18).ownBlock ≠ some g) := neNew hatB HNE2.out HUA.out (by first | (simp; done) | (simp; omega) | (have := HSA.out; simp; omega)); have HGB : Hid (∀ g, (Value.slice adB (ts'.length + [t].length) capB).ownBlock = some g → (u17).ownBlock = some g ∨ wr.heap.size ≤ g) := fun g hg => (hatB g hg).imp id fun h => Nat.le_trans (by first | (simp; done) | (simp; omega) | (have := HSA.out; simp; omega)) h; have HSB : Hid (wr.heap.size ≤ wB.heap.size) := Nat.le_trans (by first | (simp; done) | (simp; omega) | (have := HSA.out; simp; omega)) hgB.size; (first | (have HKA : Hid (wB.heap[wr.heap.size]? = some (.cells #[.int .i64 pn, .int .i64 pq, .int .i64 pl] PlT (0, 0))) := keepGr hgB (heap_alloc_new _ _) HUB.out (by first | (simp; done) | (simp; omega))) | (have HKA : Hid (wB.heap[wr.heap.size + 1]? = some (.cells #[.int .i64 pn, .int .i64 pq, .int .i64 pl] PlT (0, 0))) := keepGr hgB (heap_alloc_two _ _ _) HUB.out (by first | (simp; done) | (simp; omega))) | (have HKA : Hid (wB.heap[wr.heap.size]? = some (.cells #[.int .i64 pn, .int .i64 pq, .int .i64 pl] PlT (0, 0))) := keepGr hgB (keepBlk (below_alloc1 _ _) (heap_alloc_new _ _)) HUB.out (by first | (simp; done) | (simp; omega))) | (have HKA : Hid (wB.heap[wr.heap.size]? = some (.cells #[.int .i64 pn, .int .i64 pq, .int .i64 pl] PlT (0, 0))) := keepGr hgB (keepBlk (below_alloc1 _ _).drew (heap_alloc_new _ _)) HUB.out (by first | (simp; done) | (simp; omega))) | skip); (first | (have HA2 : Hid (wB.ownsRow w6.heap.size PlT 3 (.slice adA (ps'.length + [(pn, pq, pl)].length) capA) (ps' ++ [(pn, pq, pl)]).length (Gk.rc plE (ps' ++ [(pn, pq, pl)]))) := rowKeep hrowA hgB HNA2.out) | (have HA2 : Hid (wB.ownsRow w6.heap.size PlT 3 (.slice adA (ps'.length + [(pn, pq, pl)].length) capA) (ps' ++ [(pn, pq, pl)]).length (Gk.rc plE (ps' ++ [(pn, pq, pl)]))) := rowKeep (Gk.own_below hrowA (below_alloc1 _ _)) hgB HNA2.out) | skip)) | (refine Gk.step_append_keep (enc := sE) ?_ (.tmp 145) (.tmp 150) 22 ?_ StrT (.string ⟨#[]⟩) 16 Tryz.underlying22 str_inf rfl ?_ sE_len sE_one w6.heap.size u17 ts' ?_ ?_ (wr.heap.size + 1) 0 [t] 1 1 ?_ rfl ?_ ?_ ?_ ?_ ?_; rfl; rfl; decide; rfl; exact HTB _ (by assumption); rfl; exact (cellsB HKB.out); (show (ts'.length + 1) * 16 ≤ _; omega); (show ts'.length + 1 ≤ _; omega); exact HTZ _ (by assumption); intro adB capB wB hrowB hgB hkeepB hatB; have HNB2 : Hid (∀ g, (Value.slice adB (ts'.length + [t].length) capB).ownBlock = some g → (u18).ownBlock ≠ some g) := neNew hatB HNE2.out HUA.out (by first | (simp; done) | (simp; omega) | (have := HSA.out; simp; omega)); have HGB : Hid (∀ g, (Value.slice adB (ts'.length + [t].length) capB).ownBlock = some g → (u17).ownBlock = some g ∨ wr.heap.size ≤ g) := fun g hg => (hatB g hg).imp id fun h => Nat.le_trans (by first | (simp; done) | (simp; omega) | (have := HSA.out; simp; omega)) h; have HSB : Hid (wr.heap.size ≤ wB.heap.size) := Nat.le_trans (by first | (simp; done) | (simp; omega) | (have := HSA.out; simp; omega)) hgB.size; (first | (have HKA : Hid (wB.heap[wr.heap.size]? = some (.cells #[.int .i64 pn, .int .i64 pq, .int .i64 pl] PlT (0, 0))) := keepGr hgB (heap_alloc_new _ _) HUB.out (by first | (simp; done) | (simp; omega))) | (have HKA : Hid (wB.heap[wr.heap.size + 1]? = some (.cells #[.int .i64 pn, .int .i64 pq, .int .i64 pl] PlT (0, 0))) := keepGr hgB (heap_alloc_two _ _ _) HUB.out (by first | (simp; done) | (simp; omega))) | (have HKA : Hid (wB.heap[wr.heap.size]? = some (.cells #[.int .i64 pn, .int .i64 pq, .int .i64 pl] PlT (0, 0))) := keepGr hgB (keepBlk (below_alloc1 _ _) (heap_alloc_new _ _)) HUB.out (by first | (simp; done) | (simp; omega))) | (have HKA : Hid (wB.heap[wr.heap.size]? = some (.cells #[.int .i64 pn, .int .i64 pq, .int .i64 pl] PlT (0, 0))) := keepGr hgB (keepBlk (below_alloc1 _ _).drew (heap_alloc_new _ _)) HUB.out (by first | (simp; done) | (simp; omega))) | skip); (first | (have HA2 : Hid (wB.ownsRow w6.heap.size PlT 3 (.slice adA (ps'.length + [(pn, pq, pl)].length) capA) (ps' ++ [(pn, pq, pl)]).length (Gk.rc plE (ps' ++ [(pn, pq, pl)]))) := rowKeep hrowA hgB HNA2.out) | (have HA2 : Hid (wB.ownsRow w6.heap.size PlT 3 (.slice adA (ps'.length + [(pn, pq, pl)].length) capA) (ps' ++ [(pn, pq, pl)]).length (Gk.rc plE (ps' ++ [(pn, pq, pl)]))) := rowKeep (Gk.own_below hrowA (below_alloc1 _ _)) hgB HNA2.out) | skip)) | (refine Gk.step_append_keep (enc := sE) ?_ (.tmp 145) (.tmp 150) 22 ?_ StrT (.string ⟨#[]⟩) 16 Tryz.underlying22 str_inf rfl ?_ sE_len sE_one w6.heap.size u17 ts' ?_ ?_ (wA.heap.size) 0 [t] 1 1 ?_ rfl ?_ ?_ ?_ ?_ ?_; rfl; rfl; decide; rfl; exact HTB _ (by assumption); rfl; exact (cellsB (heap_alloc_new _ _)); (show (ts'.length + 1) * 16 ≤ _; omega); (show ts'.length + 1 ≤ _; omega); exact HTZ _ (by assumption); intro adB capB wB hrowB hgB hkeepB hatB; have HNB2 : Hid (∀ g, (Value.slice adB (ts'.length + [t].length) capB).ownBlock = some g → (u18).ownBlock ≠ some g) := neNew hatB HNE2.out HUA.out (by first | (simp; done) | (simp; omega) | (have := HSA.out; simp; omega)); have HGB : Hid (∀ g, (Value.slice adB (ts'.length + [t].length) capB).ownBlock = some g → (u17).ownBlock = some g ∨ wr.heap.size ≤ g) := fun g hg => (hatB g hg).imp id fun h => Nat.le_trans (by first | (simp; done) | (simp; omega) | (have := HSA.out; simp; omega)) h; have HSB : Hid (wr.heap.size ≤ wB.heap.size) := Nat.le_trans (by first | (simp; done) | (simp; omega) | (have := HSA.out; simp; omega)) hgB.size; (first | (have HKA : Hid (wB.heap[wr.heap.size]? = some (.cells #[.int .i64 pn, .int .i64 pq, .int .i64 pl] PlT (0, 0))) := keepGr hgB (heap_alloc_new _ _) HUB.out (by first | (simp; done) | (simp; omega))) | (have HKA : Hid (wB.heap[wr.heap.size + 1]? = some (.cells #[.int .i64 pn, .int .i64 pq, .int .i64 pl] PlT (0, 0))) := keepGr hgB (heap_alloc_two _ _ _) HUB.out (by first | (simp; done) | (simp; omega))) | (have HKA : Hid (wB.heap[wr.heap.size]? = some (.cells #[.int .i64 pn, .int .i64 pq, .int .i64 pl] PlT (0, 0))) := keepGr hgB (keepBlk (below_alloc1 _ _) (heap_alloc_new _ _)) HUB.out (by first | (simp; done) | (simp; omega))) | (have HKA : Hid (wB.heap[wr.heap.size]? = some (.cells #[.int .i64 pn, .int .i64 pq, .int .i64 pl] PlT (0, 0))) := keepGr hgB (keepBlk (below_alloc1 _ _).drew (heap_alloc_new _ _)) HUB.out (by first | (simp; done) | (simp; omega))) | skip); (first | (have HA2 : Hid (wB.ownsRow w6.heap.size PlT 3 (.slice adA (ps'.length + [(pn, pq, pl)].length) capA) (ps' ++ [(pn, pq, pl)]).length (Gk.rc plE (ps' ++ [(pn, pq, pl)]))) := rowKeep hrowA hgB HNA2.out) | (have HA2 : Hid (wB.ownsRow w6.heap.size PlT 3 (.slice adA (ps'.length + [(pn, pq, pl)].length) capA) (ps' ++ [(pn, pq, pl)]).length (Gk.rc plE (ps' ++ [(pn, pq, pl)]))) := rowKeep (Gk.own_below hrowA (below_alloc1 _ _)) hgB HNA2.out) | skip)) | fail)
                  all_goals
                    rename_i hHeld
                    have hRB := HT.out.both hHeld.2.out.1 hrowA HB2.out HGA.out HGB.out
                    rw [show ps'.length + [(pn, pq, pl)].length = ps'.length + 1 from rfl, show ts'.length + [t].length = ts'.length + 1 from rfl] at hRB
                    have HRB := hide hRB
                    clear hHeld hrowA hgA hkeepA hatA hrowB hgB hkeepB hatB HB2 HNA2 HGA HNB2 HGB HSA HSB HTA HTB HTZ hTQ c0 c1 c2 c3 hRB HNE HNE2 HUA HUB
                    go_wp2
                    exact HEND.out _ _ _ _ _ (by rw [List.length_append, List.length_singleton]; omega) HRB.out (All2.snoc HONE.out HKP.out)
                --@a}
              · obtain rfl : j = ps.length := by omega
                have i4 : ¬ (ps.length : Int) < (ps.length : Int) := by omega
                have hR2 : Rws w wr own bd bv mm top S u18 u17 ps' ts' := ⟨hT.old.vh, Gk.own_mono hT.rA hT.z0, Gk.own_mono hT.rB hT.z0, hT.nA, hT.nB⟩
                have hFi := Vl.Files_any hT.old.vh
                have HX2 : Hid (wr.heap[bx]? = some X ∧ bx < w6.heap.size ∧ ¬ wi own bv bx ∧ (∀ g, u18.ownBlock = some g → w6.heap.size ≤ g) ∧ (∀ g, u17.ownBlock = some g → w6.heap.size ≤ g)) := ⟨hT.box, hT.bxl, HX6.out.2.1, fun g hg => (hT.rA.lt g hg).1, fun g hg => (hT.rB.lt g hg).1⟩
                have hp20' : ps'.length ≤ 20 := by omega
                have HR2 := hide hR2
                have HK2 : Hid (Kp S ps' ts' ∧ Cln S ∧ Nb S ∧ Up S ∧ ∀ n ∈ nums S, n ≤ top) := ⟨hKp, HK.out.2⟩
                clear hT hKp hR2 HK HR6 HX6 HLEN hpj
                go_wp2_with fail
                refine hFi.mono ?_
                rintro e w7 ⟨v7, rfl, hr7, hb7⟩
                obtain ⟨a7, c7, rfl⟩ := own_slice hr7
                clear hFi
                go_wp2
                have HS0 : Hid (w7.ownsRow w7.heap.size SzT 2 (.slice none 0 0) 0 (rc szE ([] : List Sz))) := World.ownsRow_nil _ _ _ _
                have hnl : (nums S).length ≤ 64 := Nat.le_trans Vl.nums_len HR2.out.vh.ok.many
                have HR7 := hide (Gk.own_mono hr7 (Nat.zero_le _))
                have HRW := hide (HR2.out.below hb7)
                have HXW : Hid (w7.heap[bx]? = some X ∧ bx < w6.heap.size ∧ ¬ wi own bv bx ∧ (∀ g, u18.ownBlock = some g → w6.heap.size ≤ g) ∧ (∀ g, u17.ownBlock = some g → w6.heap.size ≤ g)) := ⟨(hb7.block bx (Array.getElem?_eq_some_iff.1 HX2.out.1).1).trans HX2.out.1, HX2.out.2⟩
                clear hr7 hb7 hj hjl i4 HR2 HX2
                go_loopw [20, 165] (fun vz iv wr => ∃ j : Nat, j ≤ (nums S).length ∧ iv = .int .i64 j ∧ wr.ownsRow w7.heap.size SzT 2 vz ((szsOf S).take j).length (rc szE ((szsOf S).take j)) ∧ Below w7.heap.size w7 wr) (fun _ iv _ => (nums S).length - (intOf iv).toNat)
                case atStart => exact ⟨0, Nat.zero_le _, rfl, HS0.out, Below.refl _ _⟩
                case round =>
                  as_aux_lemma =>
                    clear HS0
                    obtain ⟨j, hj, rfl, hrow, hb⟩ := hrel
                    by_cases hjl : j < (nums S).length
                    · obtain ⟨gF, offF, rfl, hgF, hcF⟩ := (Gk.Row.lies (k := 1) (e := Vl.IntT) (n := (nums S).length) (cap := c7) (Gk.own_mono (Gk.own_below HR7.out hb) (Nat.zero_le _))).at Vl.nE_len j hjl
                      have f0 := hcF 0 _ rfl
                      rw [Nat.mul_one, Nat.add_zero] at f0
                      have hmem : (nums S)[j] ∈ nums S := List.getElem_mem hjl
                      have hnx : (szsOf S).take (j + 1) = (szsOf S).take j ++ [(((nums S)[j] : Int), ((dat S (nums S)[j]).length : Int))] := by
                        rw [List.take_succ_eq_append_getElem (by rw [szsOf_len]; exact hjl)]
                        simp [szsOf]
                      replace f0 : wr.cell? ⟨gF, offF + j, none⟩ = some (.int .i64 ((nums S)[j] : Int)) := f0
                      generalize (nums S)[j] = n at *
                      have hSz := Vl.Size_yes (HRW.out.vh.below hb) hmem
                      have i4 : (0 : Int) ≤ (j : Int) := by omega
                      have i5 : (j : Int) < ((nums S).length : Int) := by omega
                      have htl : ((szsOf S).take j).length ≤ 64 := by rw [List.length_take, szsOf_len]; omega
                      have HRO := hide hrow
                      have HBB := hide hb
                      have HNX := hide hnx
                      clear hrow hb hnx hcF hmem
                      go_wp2_with fail
                      refine hSz.mono ?_
                      rintro e w8 ⟨rfl, hb8⟩
                      have hrow8 := Gk.own_below HRO.out hb8
                      have HR8 := hide hrow8
                      have HB8 := hide hb8
                      have HZ8 : Hid (w7.heap.size ≤ w8.heap.size) := Nat.le_trans HBB.out.size hb8.size
                      clear hSz hrow8 hb8 f0
                      generalize (dat S n).length = q at *
                      go_wp2_with (at_builtin; refine wpList_push (enc := szE) (k := 2) rfl (.tmp 177) (.tmp 181) 64 rfl SzT (.agg #[.int .i64 0, .int .i64 0]) 16 Tryz.underlying64 sz_info rfl (by decide) szE_len szE_one w7.heap.size _ ((szsOf S).take j) rfl (Gk.own_below HR8.out (below_alloc1 w8 _)) w8.heap.size ((n : Int), (q : Int)) rfl (heap_alloc_new w8 _) ?c1 ?c2 ?c3 ?_)
                      case c1 => omega
                      case c2 => omega
                      case c3 => have := HZ8.out; simp; omega
                      intro v9 w9 ho9 hg9 hat9
                      have HF : Hid (w9.ownsRow w7.heap.size SzT 2 v9 ((szsOf S).take (j + 1)).length (rc szE ((szsOf S).take (j + 1))) ∧ Below w7.heap.size w7 w9) := by
                        rw [HNX.out, List.length_append, List.length_take]
                        refine ⟨ho9, (((HBB.out.trans (HB8.out.mono HBB.out.size)).alloc HZ8.out _).grown hg9 (by have := HZ8.out; simp; omega) fun g e => (HR8.out.lt g e).1)⟩
                      clear ho9 hg9 hat9 HR8
                      go_wp2
                      go_roundw
                      case rel => exact ⟨j + 1, by omega, by go_num, HF.out.1, HF.out.2⟩
                      case measure => simp [intOf]; omega
                    · obtain rfl : j = (nums S).length := by omega
                      have i5 : ¬ ((nums S).length : Int) < ((nums S).length : Int) := by omega
                      rw [← szsOf_len, List.take_length] at hrow
                      obtain ⟨az, cz, rfl⟩ := own_slice hrow
                      have hR8 := HRW.out.below hb
                      obtain ⟨aA', cA', rfl⟩ := own_slice hR8.rA
                      obtain ⟨aB', cB', rfl⟩ := own_slice hR8.rB
                      have hxb : wr.heap[bx]? = some (.cells #[.slice la lv.length lc, .int .i64 pc, .int .i64 cu, .slice da ds.length dc] RdT (0, 0)) := ((hb.block bx (Array.getElem?_eq_some_iff.1 HXW.out.1).1).trans HXW.out.1).trans (congrArg some HXX.out)
                      have y1 : wr.cell? ⟨bx, 1, none⟩ = some (.int .i64 pc) := by rw [cell_of_block hxb]; rfl
                      have hAp := fun W => Gk.among_any pc 100 W (by omega) (by omega) HX.out.pc.1 HX.out.pc.2
                      obtain ⟨P, hP⟩ : ∃ P : Nat, (P : Int) = pc % 100 := ⟨(pc % 100).toNat, by omega⟩
                      have hPb : P < 100 := by omega
                      simp only [← hP] at hAp
                      have hPl := Plan_any az cz (szsOf S) aA' cA' (ps'.map toPc) (1 + (P : Int)) wr (Row.lies (enc := szE) (k := 2) (e := SzT) (n := (szsOf S).length) (cap := cz) (own_mono hrow (Nat.zero_le _))) (by rw [szsOf_len]; omega) (at_lies hR8.rA) (fun s hs => by
                        obtain ⟨n, hn, rfl⟩ := List.mem_map.1 hs
                        have := Vl.nums_bound hn
                        show -9223372036854775808 ≤ (n : Int) ∧ (n : Int) ≤ 9223372036854775807
                        omega) (fun p hp => by
                        obtain ⟨p', hp', rfl⟩ := List.mem_map.1 hp
                        obtain ⟨t, ht⟩ := HK2.out.1.left p' hp'
                        exact (In.fit ht.1 hR8.vh.ok).1)
                      rw [List.length_map] at hPl
                      have HR8 := hide hR8
                      have HXB := hide hxb
                      have HSO : Hid (szOk 0 (szsOf S) = true) := szsOf_ok hR8.vh.ok
                      clear hP hrow hb hR8 hxb HRW
                      go_wp2_with (first | (go_at_call 25; refine (hAp _).mono ?_; rintro e w3' ⟨rfl, rfl⟩))
                      refine hPl.mono ?_
                      rintro e w8 ⟨v8, rfl, hr8, hb8⟩
                      obtain ⟨F, fv, hv8, hFr, hFd, hFm, hFn⟩ : ∃ (F : List Nat) (fv : Value), v8 = .tuple #[fv, .int .i64 0] ∧ w8.ownsRow wr.heap.size NT 1 fv F.length (rc Vl.nE F) ∧ F.Nodup ∧ (∀ f ∈ F, f ∈ nums S ∧ ∃ n ∈ nums S, f < n) ∧ F.length ≤ 64 := by
                        rcases hr8.out with ⟨h, -⟩ | ⟨-, h, -⟩ | ⟨-, -, h, -⟩ | ⟨-, -, -, L, f, -, e, hrw⟩
                        · rw [HSO.out] at h; cases h
                        · rw [List.length_map] at h; omega
                        · exact absurd (by omega) h
                        · obtain ⟨F, e1, h1, h2, h3⟩ := plan_nats HR8.out.vh.ok.rising L (1 + (P : Int))
                          refine ⟨F, f, e, ?_, h1, h2, by omega⟩
                          rw [e1] at hrw
                          have := zs_rc F
                          rw [List.length_map] at hrw
                          rw [← this]; exact hrw
                      subst hv8
                      have hR9 := HR8.out.below hb8
                      have hFB : ∀ g, fv.ownBlock = some g → ¬ wi own bv g := fun g hg => HR8.out.fresh (hFr.lt g hg).1
                      obtain ⟨aF, cF, rfl⟩ := own_slice hFr
                      have hxb9 := keepBlk hb8 HXB.out
                      have y3 : w8.cell? ⟨bx, 3, none⟩ = some (.slice da ds.length dc) := by rw [cell_of_block hxb9]; rfl
                      have y2 : w8.cell? ⟨bx, 2, none⟩ = some (.int .i64 cu) := by rw [cell_of_block hxb9]; rfl
                      have hAc := fun W => Gk.among_any cu 4 W (by omega) (by omega) HX.out.cut.1 HX.out.cut.2
                      obtain ⟨C, hC⟩ : ∃ C : Nat, (C : Int) = cu % 4 := ⟨(cu % 4).toNat, by omega⟩
                      have hCb : C < 4 := by omega
                      simp only [← hC] at hAc
                      have HR9 := hide hR9
                      have HFF := hide (And.intro (Gk.own_mono hFr (Nat.zero_le _)) (And.intro hFB (And.intro hFd hFm)))
                      have HX9 := hide hxb9
                      clear hPl hr8 hb8 hR9 hFB hFr hFd hFm hxb9 hC HR8 HXB HSO hAp y1
                      by_cases h0 : 0 < C
                      case' pos =>
                        have hc0 : (0 : Int) < (C : Int) := by omega
                        have hCp := Copy_any HR9.out.vh HK2.out.2.2.2.1 HK2.out.2.1 HK2.out.2.2.2.2 (show top ≤ 900000 by omega) aF cF (zs F) aA' cA' (ps'.map toPc) (zs_lies HFF.out.1) (by rw [List.length_map]; omega) (fun x hx => by
                          obtain ⟨f, hf, rfl⟩ := List.mem_map.1 hx
                          have := Vl.nums_bound (HFF.out.2.2.2 f hf).1
                          unfold I64; omega) (at_lies HR9.out.rA) (by rw [List.length_map]; omega) (fun p hp => by
                          obtain ⟨p', hp', rfl⟩ := List.mem_map.1 hp
                          obtain ⟨t, ht⟩ := HK2.out.1.left p' hp'
                          exact ⟨p', t, rfl, ht.1⟩)
                        rw [List.length_map, List.length_map] at hCp
                        go_wp2_with (first | (go_at_call 25; refine (hAc _).mono ?_; rintro e w3' ⟨rfl, rfl⟩))
                        refine hCp.mono ?_
                        rintro e wP ⟨vP, rfl, hPP⟩
                        clear hCp hAc y2
                        refine hPP.elim ?q22 ?qok
                        case q22 =>
                          rintro ⟨rfl, hbP⟩
                          clear hPP HR9 HK2 HFF HX9 HXW y3
                          go_wp2
                          go_ret
                          exact ⟨rfl, hbP⟩
                        clear hPP
                        rintro ⟨fP, rfl, hCR⟩
                        obtain ⟨L, ms, own1, S1, top1, hO, hV1, hP1, hSt1, hRm, hml, hmb⟩ := hCR.out
                        have hR1 := HR9.out.step hV1 hSt1
                        have hLl : L.length ≤ 20 := by have := hO.len; rw [List.length_map] at this; omega
                        have htop1 : top1 ≤ 40 + 20 * k := by have := hP1.topk; omega
                        have hxk := hSt1.block (Array.getElem?_eq_some_iff.1 HX9.out).1 HXW.out.2.2.1
                        have hxb1 := hxk.1.trans HX9.out
                        have hxn1 := hxk.2
                        have hFr1 := hSt1.row HFF.out.1 HFF.out.2.1
                        have hnb1 : Nb S1 := HK2.out.2.2.1.copy hP1
                        have HR1 := hide hR1
                        have HX1 := hide (And.intro hxb1 hxn1)
                        have HF1 := hide hFr1
                        have HP1 := hide (And.intro hP1 (And.intro hnb1 hO))
                        obtain ⟨am, cm, rfl⟩ := own_slice hRm
                        have HM1 := hide (And.intro hRm hmb)
                        clear hCR hV1 hSt1 hRm hmb hR1 hxk hxb1 hxn1 hFr1 hP1 hnb1 hO HX9 HXW y3
                        refine (Classical.em (1 < C)).elim (fun h1 => ?c1y) (fun h1 => ?c1n)
                        case' c1n =>
                          have hc1 : ¬ (1 : Int) < (C : Int) := by omega
                          have hc2 : ¬ (2 : Int) < (C : Int) := by omega
                          have HZ : Hid (∃ (ownT : Nat → Prop) (ST : St) (topT : Nat), Rws w wP ownT bd bv mm topT ST (.slice aA' ps'.length cA') (.slice aB' ts'.length cB') ps' ts' ∧ Kp ST ps' ts' ∧ Cln ST ∧ Nb ST ∧ Up ST ∧ (∀ n ∈ nums ST, n ≤ topT) ∧ topT ≤ 40 + 20 * k ∧ ps'.length ≤ 20) := ⟨own1, S1, top1, HR1.out, All2.imp (fun p t h => ⟨HP1.out.1.keep p t h.1, HP1.out.1.safe p h.2⟩) HK2.out.1, HP1.out.1.cln, HP1.out.2.1, HP1.out.1.up, HP1.out.1.tops, htop1, hp20'⟩
                          have y3 : wP.cell? ⟨bx, 3, none⟩ = some (.slice da ds.length dc) := by rw [cell_of_block HX1.out.1]; rfl
                          clear HR1 HX1 HF1 HP1 HM1 HR9 HK2 HFF hml hLl
                          go_wp2_with fail
                          clear y3
                          generalize wP = wT at *
                          generalize aA' = aT at *
                          generalize cA' = cT at *
                          generalize ps' = psT at *
                        case' c1y =>
                          have hc1 : (1 : Int) < (C : Int) := by omega
                          have hSy := Dk.sync_any wP (HR1.out.vh.disk.own (own' := plus own1 wP.heap.size) fun _ _ ho => Or.inl ho)
                          rw [HP1.out.1.up.sync] at hSy
                          go_wp2_with fail
                          refine hSy.mono ?_
                          rintro e wS ⟨rfl, hHS, hOS⟩
                          have hT := HR1.out.vh.turn hHS hOS
                          have hR2 := HR1.out.step hT.1 hT.2
                          have hxk := hT.2.block (Array.getElem?_eq_some_iff.1 HX1.out.1).1 HX1.out.2
                          have hxb2 := hxk.1.trans HX1.out.1
                          have hxn2 := hxk.2
                          have hFr2 := hT.2.row HF1.out.1 HF1.out.2
                          have hm2' := hT.2.row HM1.out.1 HM1.out.2
                          obtain ⟨qs, hq1, hq2, hq3⟩ := swing_all HP1.out.1 (fun f hf => by
                            obtain ⟨f', hf', rfl⟩ := List.mem_map.1 hf
                            obtain ⟨n, hn, hlt⟩ := (HFF.out.2.2.2 f' hf').2
                            exact ⟨n, hn, by omega⟩) (All2.imp (fun _ _ h => h.1) HK2.out.1) (fun p hp => (HP1.out.2.2.mem _).2 (List.mem_map_of_mem hp))
                          have hSw := Swing_any aA' cA' (ps'.map toPc) am cm ms wS (at_lies hR2.rA) (by rw [List.length_map]; omega) (Row.lies (enc := menc) (k := 6) (e := MvT) (n := ms.length) (cap := cm) (own_mono hm2'.1 (Nat.zero_le _))) (by omega) (fun p hp => by
                            obtain ⟨p', hp', rfl⟩ := List.mem_map.1 hp
                            obtain ⟨t, ht⟩ := HK2.out.1.left p' hp'
                            exact In.fit ht.1 HR9.out.vh.ok) (fun m hm => by
                            obtain ⟨p', q', rfl, ⟨t, ht⟩, hg, -⟩ := HP1.out.1.each m hm
                            exact ⟨In.fit ht HR9.out.vh.ok, In.fit (hg t ht) HR1.out.vh.ok⟩)
                          rw [List.length_map, ← hq1, ← plE_pc, List.length_map] at hSw
                          have hk2 := sync_kp hq2
                          have hcl2 := HP1.out.1.cln.sync
                          have hnb2 := HP1.out.2.1.sync
                          have hu2 : Up { S1 with files := syncL S1.files } := ⟨HP1.out.1.up.fuse, HP1.out.1.up.down⟩
                          have htp2 : ∀ n ∈ nums { S1 with files := syncL S1.files }, n ≤ top1 := by rw [sync_nums HR1.out.vh.ok.rising]; exact HP1.out.1.tops
                          have hFm2 : ∀ f ∈ F, f ∈ nums { S1 with files := syncL S1.files } := fun f hf => by rw [sync_nums HR1.out.vh.ok.rising]; exact HP1.out.1.more f (HFF.out.2.2.2 f hf).1
                          have hql : qs.length ≤ 20 := by rw [hq2.len, ← HK2.out.1.len]; exact hp20'
                          generalize ({ S1 with files := syncL S1.files } : St) = S2 at *
                          generalize (fun b => plus own1 wP.heap.size b ∧ b < wS.heap.size) = own2 at *
                          have HR2 := hide hR2
                          have HX2 := hide (And.intro hxb2 hxn2)
                          have HF2 := hide hFr2
                          have HK2' := hide (And.intro hk2 (And.intro hcl2 (And.intro hnb2 (And.intro hu2 (And.intro htp2 (And.intro hFm2 hq3))))))
                          have HFD := hide HFF.out.2.2.1
                          clear hSy hHS hOS hT hR2 hxk hxb2 hxn2 hFr2 hm2' hq1 hq2 hq3 hk2 hcl2 hnb2 hu2 htp2 hFm2 HR9 HK2 HFF HR1 HX1 HF1 HP1 HM1
                          go_wp2_with fail
                          refine hSw.mono ?_
                          rintro e wW ⟨fT, rfl, hrT, hbW⟩
                          have hRW : Rws w wW own2 bd bv mm top1 S2 fT (.slice aB' ts'.length cB') qs ts' := ⟨HR2.out.vh.below hbW, own_mono hrT HR2.out.vh.base.size, Gk.own_below HR2.out.rB hbW, fun g hg => HR2.out.fresh (hrT.lt g hg).1, HR2.out.nB⟩
                          obtain ⟨aT, cT, rfl⟩ := own_slice hrT
                          have hxbW := keepBlk hbW HX2.out.1
                          have hFrW := Gk.own_below HF2.out.1 hbW
                          have HRW := hide hRW
                          have HXT := hide (And.intro hxbW HX2.out.2)
                          have HFT := hide (And.intro hFrW HF2.out.2)
                          clear hSw hrT hbW hRW hxbW hFrW HR2 HX2 HF2
                          refine (Classical.em (2 < C)).elim (fun h2 => ?c2y) (fun h2 => ?c2n)
                          case' c2n =>
                            have hc2 : ¬ (2 : Int) < (C : Int) := by omega
                            have HZ : Hid (∃ (ownT : Nat → Prop) (ST : St) (topT : Nat), Rws w wW ownT bd bv mm topT ST (.slice aT qs.length cT) (.slice aB' ts'.length cB') qs ts' ∧ Kp ST qs ts' ∧ Cln ST ∧ Nb ST ∧ Up ST ∧ (∀ n ∈ nums ST, n ≤ topT) ∧ topT ≤ 40 + 20 * k ∧ qs.length ≤ 20) := ⟨own2, S2, top1, HRW.out, HK2'.out.1, HK2'.out.2.1, HK2'.out.2.2.1, HK2'.out.2.2.2.1, HK2'.out.2.2.2.2.1, htop1, hql⟩
                            have y3 : wW.cell? ⟨bx, 3, none⟩ = some (.slice da ds.length dc) := by rw [cell_of_block HXT.out.1]; rfl
                            clear HRW HXT HFT HFD HK2'
                            go_wp2_with fail
                            clear y3
                            generalize wW = wT at *
                            generalize qs = psT at *
                          case' c2y =>
                            have hc2 : (2 : Int) < (C : Int) := by omega
                            have hFe := Free_any HRW.out.vh HK2'.out.2.2.2.1 aF cF F aT cT (qs.map toPc) (zs_lies HFT.out.1) (fun b off e => HFT.out.2 b (own_addr HFT.out.1 e)) hFn HFD.out HK2'.out.2.2.2.2.2.1 (at_lies HRW.out.rA) (by rw [List.length_map]; omega) (fun p hp => by
                              obtain ⟨p', hp', rfl⟩ := List.mem_map.1 hp
                              obtain ⟨t, ht⟩ := HK2'.out.1.left p' hp'
                              exact (In.fit ht.1 HRW.out.vh.ok).1) (fun f hf p hp e => by
                              obtain ⟨p', hp', rfl⟩ := List.mem_map.1 hp
                              exact HK2'.out.2.2.2.2.2.2 p' hp' (by rw [show (p'.1 : Int) = (f : Int) from e]; exact zs_mem.2 hf))
                            rw [List.length_map] at hFe
                            have h7 : (F.length : Int) = (F.length : Int) := rfl
                            go_wp2_with fail
                            refine hFe.mono ?_
                            rintro e wE ⟨rfl, own3, hV3, hSt3⟩
                            have hR3 := HRW.out.step hV3 hSt3
                            have HZ : Hid (∃ (ownT : Nat → Prop) (ST : St) (topT : Nat), Rws w wE ownT bd bv mm topT ST (.slice aT qs.length cT) (.slice aB' ts'.length cB') qs ts' ∧ Kp ST qs ts' ∧ Cln ST ∧ Nb ST ∧ Up ST ∧ (∀ n ∈ nums ST, n ≤ topT) ∧ topT ≤ 40 + 20 * k ∧ qs.length ≤ 20) := ⟨own3, remA S2 F, top1, hR3, remA_kp HK2'.out.1 (fun p hp hm => HK2'.out.2.2.2.2.2.2 p hp (zs_mem.2 hm)), remA_cln HK2'.out.2.1, HK2'.out.2.2.1.remA, remA_up HK2'.out.2.2.2.1 F, fun n hn => HK2'.out.2.2.2.2.1 n ((remA_nums HRW.out.vh.ok.rising F n).1 hn).1, htop1, hql⟩
                            have y3 : wE.cell? ⟨bx, 3, none⟩ = some (.slice da ds.length dc) := by rw [cell_of_block ((hSt3.block (Array.getElem?_eq_some_iff.1 HXT.out.1).1 HXT.out.2).1.trans HXT.out.1)]; rfl
                            clear hFe hV3 hSt3 hR3 HRW HXT HFT HFD HK2'
                            go_wp2_with fail
                            clear y3
                            generalize wE = wT at *
                            generalize qs = psT at *
                      case' neg =>
                        have hc0 : ¬ (0 : Int) < (C : Int) := by omega
                        have HZ : Hid (∃ (ownT : Nat → Prop) (ST : St) (topT : Nat), Rws w w8 ownT bd bv mm topT ST (.slice aA' ps'.length cA') (.slice aB' ts'.length cB') ps' ts' ∧ Kp ST ps' ts' ∧ Cln ST ∧ Nb ST ∧ Up ST ∧ (∀ n ∈ nums ST, n ≤ topT) ∧ topT ≤ 40 + 20 * k ∧ ps'.length ≤ 20) := ⟨own, S, top, HR9.out, HK2.out.1, HK2.out.2.1, HK2.out.2.2.1, HK2.out.2.2.2.1, HK2.out.2.2.2.2, by omega, hp20'⟩
                        clear HR9 HK2 HFF HX9 HXW
                        go_wp2_with (first | (go_at_call 25; refine (hAc _).mono ?_; rintro e w3' ⟨rfl, rfl⟩))
                        clear y2 y3 hAc
                        generalize w8 = wT at *
                        generalize aA' = aT at *
                        generalize cA' = cT at *
                        generalize ps' = psT at *
                      all_goals
                        as_aux_lemma =>
                          obtain ⟨ownT, ST, topT, hR, hK, hc, hnb, hu, htp, htk, hpl⟩ := HZ.out
                          have hCr := Dk.crash_any wT (hR.vh.disk.own (own' := plus ownT wT.heap.size) fun _ _ ho => Or.inl ho) da dc ds (Vl.ints_lies HX.out.ds hR.vh.base fun b hb => by
                            rcases hb with hb | hb
                            · exact (hR.vh.old b hb).1
                            · exact Nat.le_trans hR.vh.base.size hb) HX.out.ds.room HX.out.ds.nil HX.out.ds.max HX.out.ds.each
                          have hcr : ST.crash ds = (0, { ST with files := Dk.crashL ST.files ds, fuse := -1, down := false }) := by unfold Dk.St.crash; rw [if_neg hdl]
                          rw [hcr] at hCr
                          have HRT := hide hR
                          have HKT := hide (And.intro hK (And.intro hc (And.intro hnb (And.intro htp htk))))
                          clear hR hK hc hnb hu htp hcr HZ
                          refine hCr.mono ?_
                          rintro e wC ⟨rfl, hHC, hOC⟩
                          have hT := HRT.out.vh.turn hHC hOC
                          have hRC := HRT.out.step hT.1 hT.2
                          obtain ⟨S2, hS2⟩ : ∃ S2 : St, S2 = { ST with files := Dk.crashL ST.files ds, fuse := -1, down := false } := ⟨_, rfl⟩
                          rw [← hS2] at hT hRC
                          have hOp := Vl.Open_ok (most := mm) hRC.vh.disk hRC.vh.old hE hRC.vh.base ⟨by rw [hS2], by rw [hS2]⟩ hm1 hm2
                          have HS2 := hide hS2
                          have HRC := hide hRC
                          clear hCr hHC hOC hT hS2 hRC
                          go_wp2_with fail
                          refine hOp.mono ?_
                          rintro e wO ⟨bvO, ownO, SO, rfl, hVO, hOdO, -, hStO⟩
                          have hRO := HRC.out.step hVO (hStO.wide (bv := bv))
                          obtain ⟨hk1, hk2, hk3, hk4, hk5, hk6⟩ := crash_kp HRT.out.vh.ok HKT.out.2.1 HKT.out.2.2.1 ds HS2.out hOdO
                          have hKO := hk1 _ _ HKT.out.1
                          have htO : Vl.topL (nums S2) ≤ 40 + 20 * k := by
                            rw [hk5]
                            unfold Vl.topL
                            cases hl : (nums ST).getLast? with
                            | none => simp
                            | some x => exact Nat.le_trans (HKT.out.2.2.2.1 x (Vl.nums_last (Vl.nums_rise HRT.out.vh.ok.rising) hl).1) HKT.out.2.2.2.2
                          have htl : ∀ n ∈ nums SO, n ≤ Vl.topL (nums S2) := fun n hn => by
                            rw [hk4, ← hk5] at hn
                            unfold Vl.topL
                            cases hl : (nums S2).getLast? with
                            | none => rw [List.getLast?_eq_none_iff.1 hl] at hn; cases hn
                            | some x =>
                              have hr2 : (nums S2).Pairwise (· < ·) := by rw [hk5]; exact Vl.nums_rise HRT.out.vh.ok.rising
                              exact (Vl.nums_last hr2 hl).2 n hn
                          have HLQ : Hid (Rws w wO ownO bd bvO mm (Vl.topL (nums S2)) SO (.slice aT psT.length cT) (.slice aB' ts'.length cB') psT ts' ∧ Kp SO psT ts' ∧ Cln SO ∧ Nb SO ∧ Up SO ∧ (∀ n ∈ nums SO, n ≤ Vl.topL (nums S2))) := ⟨hRO, hKO, hk2, hk3, hk6, htl⟩
                          clear hOp HRT HKT HS2 HRC hVO hOdO hStO hRO hk1 hk2 hk3 hk4 hk5 hk6 hKO htl
                          generalize Vl.topL (nums S2) = topO at *
                          have HLN : Hid (ts'.length = psT.length) := HLQ.out.2.1.len.symm
                          go_wp2
                          go_loopw [261] (fun iv wr => ∃ j : Nat, j ≤ psT.length ∧ iv = .int .i64 j ∧ Below wO.heap.size wO wr) (fun iv _ => psT.length - (intOf iv).toNat)
                          case atStart => exact ⟨0, Nat.zero_le _, rfl, Below.refl _ _⟩
                          case round =>
                            obtain ⟨j, hj, rfl, hb⟩ := hrel
                            have hR := HLQ.out.1.below hb
                            by_cases hjl : j < psT.length
                            · have hjt : j < ts'.length := by have := HLN.out; omega
                              obtain ⟨gA, offA, rfl, hgA, hcA⟩ := (Gk.Row.lies (k := 3) (e := PlT) (n := psT.length) (cap := cT) (Gk.own_mono hR.rA (Nat.zero_le _))).at Vl.plE_len j hjl
                              obtain ⟨gB, offB, rfl, hgB, hcB⟩ := (Gk.Row.lies (k := 1) (e := StrT) (n := ts'.length) (cap := cB') (Gk.own_mono hR.rB (Nat.zero_le _))).at sE_len j hjt
                              have c0 := hcA 0 _ rfl
                              have c1 := hcA 1 _ rfl
                              have c2 := hcA 2 _ rfl
                              rw [Nat.add_zero] at c0
                              have c3 := hcB 0 _ rfl
                              rw [Nat.mul_one, Nat.add_zero] at c3
                              have hone := (HLQ.out.2.1.get j hjl hjt).1
                              generalize psT[j] = p at *
                              generalize ts'[j] = t at *
                              obtain ⟨pn, pq, pl⟩ := p
                              replace c0 : wr.cell? ⟨gA, offA + j * 3, none⟩ = some (.int .i64 (pn : Int)) := c0
                              replace c1 : wr.cell? ⟨gA, offA + j * 3 + 1, none⟩ = some (.int .i64 (pq : Int)) := c1
                              replace c2 : wr.cell? ⟨gA, offA + j * 3 + 2, none⟩ = some (.int .i64 (pl : Int)) := c2
                              replace c3 : wr.cell? ⟨gB, offB + j, none⟩ = some (.string t) := c3
                              have j1 : (0 : Int) ≤ (j : Int) := by omega
                              have j2 : (j : Int) < (psT.length : Int) := by omega
                              have j3 : (j : Int) < (ts'.length : Int) := by omega
                              obtain ⟨w8', hw8⟩ : ∃ w8', w8' = wr.alloc (.cells #[.int .i64 (pn : Int), .int .i64 (pq : Int), .int .i64 (pl : Int)] PlT) := ⟨_, rfl⟩
                              have hb8 : Below wr.heap.size wr w8' := by rw [hw8]; exact below_alloc1 _ _
                              have hfit := In.fit hone hR.vh.ok
                              have hG : Calls Tryz.prog 31 #[.pointer (some ⟨bvO, 0, none⟩), .agg #[.int .i64 (pn : Int), .int .i64 (pq : Int), .int .i64 (pl : Int)]] w8' fun e w' => e = .returned (Vl.getV (t, 0)) ∧ Below w8'.heap.size w8' w' := by
                                have h := Vl.Get_any (hR.vh.below hb8) hone.file (pq : Int) (pl : Int) hfit.2.1.1 hfit.2.1.2
                                have hg := hone.get
                                rw [hg] at h
                                exact h
                              have hbO := hb.trans (hb8.mono hb.size)
                              have HBO := hide hbO
                              have beq : (t.toList == t.toList) = true := by simp
                              have c3' : w8'.cell? ⟨gB, offB + j, none⟩ = some (.string t) := (hb8.cell (p := ⟨gB, offB + j, none⟩) hgB).trans c3
                              have hgB8 : gB < w8'.heap.size := Nat.lt_of_lt_of_le hgB hb8.size
                              clear hR hcA hcB hone hfit hb hbO hb8
                              go_wp2_with fail
                              rw [← hw8]
                              refine hG.mono ?_
                              rintro e w9' ⟨rfl, hb9⟩
                              have q9 := (hb9.cell (p := ⟨gB, offB + j, none⟩) hgB8).trans c3'
                              have HB9 : Hid (Below wO.heap.size wO w9') := HBO.out.trans (hb9.mono HBO.out.size)
                              clear hG hb9 c0 c1 c2 c3 c3' hw8
                              go_wp2
                              exact ⟨⟨j + 1, by omega, by go_num, HB9.out⟩, by simp [intOf]; omega⟩
                            · obtain rfl : j = psT.length := by omega
                              have j2 : ¬ (psT.length : Int) < (psT.length : Int) := by omega
                              have HE2 : Hid (Lq w wr bd bvO mm topO (.slice aT psT.length cT) (.slice aB' ts'.length cB') psT ts') := ⟨ownO, SO, hR, HLQ.out.2⟩
                              clear hR hb
                              go_wp2
                              exact ⟨⟨k + 1, bvO, topO, psT, ts', by omega, by omega, hpl, by omega, by go_num, rfl, HE2.out⟩, by simp [intOf]; omega⟩
      · have HE : Hid (Below w.heap.size w wr) := hR.vh.base
        clear hR hK hc hnb hu htp
        by_cases hjl : k < rs.length
        · have j1 : (k : Int) < (rs.length : Int) := by omega
          have j3 : ¬ (k : Int) < 6 := by omega
          go_wp2
          go_ret
          exact ⟨rfl, HE.out⟩
        · have j1 : ¬ (k : Int) < (rs.length : Int) := by omega
          go_wp2
          go_ret
          exact ⟨rfl, HE.out⟩

end Go.Proofs.YtgfmnffaknmcnaaGreatDoor.Sw
