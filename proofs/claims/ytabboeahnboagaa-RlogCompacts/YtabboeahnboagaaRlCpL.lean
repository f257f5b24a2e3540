/- RlogCompacts: what is let go changes nothing of the rest. -/
import Derived.Test.YtabboeahnboagaaRlCpt
import Derived.Test.YtabboeahnboagaaRlAgn
namespace Go.Proofs.Ytabboeahnboagaa.Rl
open Go.RowKit Go.Joins Gk

/-- a log whose first k went -/
abbrev Lo.cpt (S : Lo) (k : Nat) : Lo := ⟨k, S.tm k, S.es.drop k⟩
theorem cpt_last {S : Lo} {k : Nat} (hk : k ≤ S.es.length) : (S.cpt k).last = S.es.length := by
  show k + (S.es.drop k).length = _; rw [List.length_drop]; omega
theorem cpt_tm {S : Lo} (h : Grown S) {k : Nat} (hk : k ≤ S.es.length) : (S.cpt k).tm S.es.length = S.tm S.es.length := by
  have hb := h.b
  by_cases he : k = S.es.length
  · rw [Lo.tm, if_pos (by show _ = k; omega)]; show S.tm k = _; rw [he]
  · rw [Lo.tm, if_neg (by show ¬ _ = k; omega), Lo.tm, if_neg (by omega)]
    show (((S.es.drop k)[S.es.length - k - 1]?).map En.t).getD 0 = _
    rw [List.getElem?_drop, show k + (S.es.length - k - 1) = S.es.length - S.b - 1 by omega]
theorem cpt_beh {S : Lo} (h : Grown S) {k : Nat} (hk : k ≤ S.es.length) (i t : Int) : (S.cpt k).beh i t = S.beh i t := by
  unfold Lo.beh; rw [cpt_last hk, cpt_tm h hk, h.last]

set_option maxRecDepth 100000 in
set_option maxHeartbeats 1000000 in
theorem Slice_no (bl : Nat) (S : Lo) (v : Value) (i m : Int) (w : World) (h : LH w bl S v) (hbd : S.b + S.es.length ≤ 1048577) (hi : i ≤ (S.b : Int)) :
    Calls Try.prog 14 #[ptr bl, .int .i64 i, .int .i64 m] w fun r w' => r = .returned (.tuple #[.slice none 0 0, .int .i64 140]) ∧ ∃ q, w' = w.drewN q := by
  have HL := hide (Last_any bl S v w h hbd)
  have c0 := h.c0
  generalize S.tm S.last = y at *
  generalize S.last = n at *
  clear h hbd
  go_enter Try.func14, Try.ntmps14
  go_wp2_with (go_at_call 11; refine HL.out.mono ?_; rintro e w1 ⟨rfl, q1, rfl⟩)
  go_ret2
  exact ⟨rfl, q1, rfl⟩

/-- the two logs lie there -/
structure Tw (w W : World) (b1 b2 : Nat) (S T : Lo) (v1 v2 : Value) : Prop where
  one : LH W b1 S v1
  two : LH W b2 T v2
  bel : Below w.heap.size w W
theorem Tw.below {w W W' : World} {b1 b2 : Nat} {S T : Lo} {v1 v2 : Value} (h : Tw w W b1 b2 S T v1 v2) (hb : Below W.heap.size W W') : Tw w W' b1 b2 S T v1 v2 := ⟨h.one.below hb, h.two.below hb, h.bel.trans (hb.mono h.bel.size)⟩
theorem Tw.drewN {w W : World} {b1 b2 : Nat} {S T : Lo} {v1 v2 : Value} (h : Tw w W b1 b2 S T v1 v2) (q : Nat) : Tw w (W.drewN q) b1 b2 S T v1 v2 := h.below (below_drewN (Below.refl _ W) q)

set_option maxRecDepth 100000 in
set_option maxHeartbeats 8000000 in
theorem compacts_law (a : Option Addr) (cap : Nat) (st : List Int) (at_ index : Int) (w : World) (hl : IntsAt w a cap st) (hf : -9223372036854775808 ≤ at_ ∧ at_ ≤ 9223372036854775807) :
    Calls Try.prog 6 #[.slice a st.length cap, .int .i64 at_, .int .i64 index] w fun e w' => e = .returned (.bool true) ∧ Below w.heap.size w w' := by
  have HW := hide (works_any w)
  have HGR := hide (fun W (hb : Below w.heap.size w W) => grown_any a cap st W (hl.lies.below hb) hl.each (Nat.le_trans hl.room hl.max))
  have hG := grown_is st
  generalize (⟨0, 0, (gr st (min st.length 40)).1⟩ : Lo) = S at *
  have hbd := hG.bd
  have hla := hG.last
  have hlen := hG.n
  have hb0 := hG.b
  obtain ⟨n, hnn⟩ : ∃ n, S.es.length = n := ⟨_, rfl⟩
  rw [hnn] at hla hlen
  go_enter Try.func6, Try.ntmps6
  go_wp2_with (go_at_call 16; refine HW.out.mono ?_; rintro e w1 ⟨rfl, hb1⟩)
  refine (HGR.out _ hb1).mono ?_
  rintro e w2 ⟨b1, rfl, hM1⟩
  have hb2 : Below w.heap.size w w2 := hb1.trans (hM1.bel.mono hb1.size)
  go_wp2_with fail
  refine (HGR.out _ hb2).mono ?_
  rintro e w3 ⟨b2, rfl, hM2⟩
  have hb3 : Below w.heap.size w w3 := hb2.trans (hM2.bel.mono hb2.size)
  have hap := hM1.apart2 hM2
  have hM3 := hM1.other hM2
  obtain ⟨v1, hL1⟩ := hM3.log
  obtain ⟨v2, hL2⟩ := hM2.log
  have hnew : ∀ k, own w3 b2 k → w.heap.size ≤ k := fun k hk => Nat.le_trans hb2.size (hM2.new k hk)
  have HLa := hide (Last_any b1 S v1 w3 hL1 hbd)
  rw [hla] at HLa
  obtain ⟨tl, htl⟩ : ∃ tl, S.tm n = tl := ⟨_, rfl⟩
  rw [htl] at HLa
  clear HW HGR hM1 hM3 hM2 hb1 hb2
  go_wp2_with fail
  refine HLa.out.mono ?_
  rintro e w4 ⟨rfl, q4, rfl⟩
  obtain ⟨W4, hW4⟩ : ∃ W4, w3.drewN q4 = W4 := ⟨_, rfl⟩
  have hT4 : Tw w W4 b1 b2 S S v1 v2 := by rw [← hW4]; exact (Tw.mk hL1 hL2 hb3).drewN q4
  have hap4 : ∀ k, own W4 b2 k → ¬ own W4 b1 k := by rw [← hW4]; exact fun k h h' => hap k h' h
  have hnew4 : ∀ k, own W4 b2 k → w.heap.size ≤ k := by rw [← hW4]; exact hnew
  rw [hW4]
  clear hW4 hL1 hL2 hap HLa hb3 hnew
  have hn1 : (0 : Int) < (n : Int) + 1 := by omega
  obtain ⟨k, hke⟩ : ∃ k : Nat, at_ % ((n : Int) + 1) = (k : Int) := ⟨(at_ % ((n : Int) + 1)).toNat, by have := Int.emod_nonneg at_ (show (n : Int) + 1 ≠ 0 by omega); omega⟩
  have hkn : k ≤ n := by have := Int.emod_lt_of_pos at_ hn1; omega
  have HA1 := hide (fun W => among_any at_ ((n : Int) + 1) W hn1 (by omega) hf.1 hf.2)
  rw [hke] at HA1
  clear hke hf
  have hkl : k ≤ S.es.length := by omega
  have hC := Compact_ok b2 S v2 k W4 hT4.two hbd hkl
  rw [hb0, Nat.zero_add] at hC
  have HC : Hid (Calls Try.prog 23 #[ptr b2, .int .i64 (k : Int)] W4 fun e w' => e = .returned (.int .i64 0) ∧ ∃ v', Tw w w' b1 b2 S (S.cpt k) v1 v') := hide (hC.mono (by
    rintro e w' ⟨rfl, ⟨v', hv'⟩, ht⟩
    exact ⟨rfl, v', ⟨(hT4.one.turn hap4 ht).1, hv', hT4.bel.trans (ht.only.below hT4.bel.size hnew4)⟩⟩))
  clear hC hT4 hap4 hnew4
  have hdl : (S.es.drop k).length = n - k := by rw [List.length_drop, hnn]
  have hbd' : (S.cpt k).b + (S.cpt k).es.length ≤ 1048577 := by show k + (S.es.drop k).length ≤ _; omega
  have hlast' : (S.cpt k).last = n := by rw [cpt_last hkl, hnn]
  have htm' : (S.cpt k).tm n = tl := by rw [← htl, ← hnn]; exact cpt_tm hG hkl
  obtain ⟨tk, htk⟩ : ∃ tk, S.tm k = tk := ⟨_, rfl⟩
  have HL2 := hide (fun W v (h : LH W b2 (S.cpt k) v) => Last_any b2 (S.cpt k) v W h hbd')
  rw [hlast', htm'] at HL2
  have HB2 : Hid (∀ W v, LH W b2 (S.cpt k) v → Calls Try.prog 13 #[ptr b2] W fun e w' => e = .returned (.tuple #[.int .i64 (k : Int), .int .i64 tk]) ∧ ∃ q, w' = W.drewN q) := hide (fun W v h => by rw [← htk]; exact Base_any b2 (S.cpt k) v W h)
  have HT1 := hide (fun W (h : LH W b1 S v1) => Term_yes b1 S v1 k W h hbd (by omega) (by rw [hla]; exact hkn))
  rw [htk] at HT1
  obtain ⟨E, hE⟩ : ∃ E, S.es.drop k = E := ⟨_, rfl⟩
  have HS1 := hide (fun W (h : LH W b1 S v1) => Slice_ok b1 S v1 k 1048576 (by decide) W h hbd hkl hG.ds)
  rw [show ((S.b + 1 + k : Nat) : Int) = (k : Int) + 1 by omega, hE, List.take_of_length_le (show E.length ≤ min (1048576 : Int).toNat (S.es.length - k) by rw [← hE, hdl, hnn]; show n - k ≤ min 1048576 (n - k); omega)] at HS1
  have HS2 : Hid (∀ W v, LH W b2 (S.cpt k) v → Calls Try.prog 14 #[ptr b2, .int .i64 ((k : Int) + 1), .int .i64 1048576] W fun r w' => ∃ v', r = .returned (.tuple #[v', .int .i64 0]) ∧ ER w' v' E ∧ (∀ g, blk v' = some g → W.heap.size ≤ g) ∧ Below W.heap.size W w') := hide (fun W v h => by
    have hs := Slice_ok b2 (S.cpt k) v 0 1048576 (by decide) W h hbd' (Nat.zero_le _) (fun e he => hG.ds e (List.mem_of_mem_drop he))
    have e1 : (((S.cpt k).b + 1 + 0 : Nat) : Int) = (k : Int) + 1 := by show ((k + 1 + 0 : Nat) : Int) = _; omega
    have e2 : ((S.cpt k).es.drop 0).take (min (1048576 : Int).toNat ((S.cpt k).es.length - 0)) = E := by
      show ((S.es.drop k).drop 0).take (min 1048576 ((S.es.drop k).length - 0)) = E
      rw [hE, List.drop_zero]
      rw [hE] at hdl
      exact List.take_of_length_le (by omega)
    rw [e1, e2] at hs
    exact hs)
  rw [hE] at hdl
  have HSE := hide (fun W a1 a2 c1 c2 (h1 : Lies W eenc a1 E) (h2 : Lies W eenc a2 E) => same_ents a1 a2 c1 c2 E W h1 h2 (by omega))
  rw [hdl] at HSE
  have HH1 := hide (fun W (h : LH W b1 S v1) => Behind_any b1 S v1 index tl W h hbd)
  have HH2 := hide (fun W v (h : LH W b2 (S.cpt k) v) => Behind_any b2 (S.cpt k) v index tl W h hbd')
  rw [cpt_beh hG hkl] at HH2
  generalize S.beh index tl = bh at *
  have HN1 := hide (fun W v (h : LH W b2 (S.cpt k) v) => Slice_no b2 (S.cpt k) v (k : Int) 1 W h hbd' (Int.le_refl _))
  have HN2 := hide (fun (h0 : 0 < k) W v (h : LH W b2 (S.cpt k) v) => Term_no b2 (S.cpt k) v ((k : Int) - 1) W h hbd' (by rintro ⟨h1, _⟩; have : ((S.cpt k).b : Int) = (k : Int) := rfl; omega))
  have hn40 : (n : Int) ≤ 40 := by omega
  have hk40 : (k : Int) ≤ 40 := by omega
  have e00 : ((n : Int) == (n : Int)) = true := by simp
  have e01 : (tl == tl) = true := by simp
  have e02 : ((k : Int) == (k : Int)) = true := by simp
  have e03 : (tk == tk) = true := by simp
  have e04 : (bh == bh) = true := by simp
  clear hG hbd hbd' hla hb0 hlast' htm' htl htk hE hl
  generalize S.cpt k = T at *
  go_wp2_with (go_at_call 18; refine (HA1.out _).mono ?_; clear HA1; rintro e w5 ⟨rfl, rfl⟩)
  refine HC.out.mono ?_
  rintro e w5 ⟨rfl, v5, hT5⟩
  clear HC
  go_wp2_with fail
  refine (HL2.out _ _ hT5.two).mono ?_
  rintro e w6 ⟨rfl, q6, rfl⟩
  have hT6 := hT5.drewN q6
  generalize w5.drewN q6 = w6 at hT6 ⊢
  go_wp2_with fail
  refine (HB2.out _ _ hT6.two).mono ?_
  rintro e w7 ⟨rfl, q7, rfl⟩
  have hT7 := hT6.drewN q7
  generalize w6.drewN q7 = w7 at hT7 ⊢
  go_wp2_with fail
  refine (HT1.out _ hT7.one).mono ?_
  rintro e w8 ⟨rfl, q8, rfl⟩
  have hT8 := hT7.drewN q8
  generalize w7.drewN q8 = w8 at hT8 ⊢
  clear hT5 hT6 hT7 HL2 HB2 HT1
  go_wp2_with fail
  refine (HS1.out _ hT8.one).mono ?_
  rintro e w9 ⟨v9, rfl, her9, _, hb9⟩
  obtain ⟨a9, c9, rfl, _⟩ := her9.slice
  have hT9 := hT8.below hb9
  rw [hdl] at her9 ⊢
  go_wp2_with fail
  refine (HS2.out _ _ hT9.two).mono ?_
  rintro e w10 ⟨v10, rfl, her10, _, hb10⟩
  obtain ⟨a10, c10, rfl, _⟩ := her10.slice
  have hT10 := hT9.below hb10
  have her9' := her9.below hb10
  rw [hdl] at her10 ⊢
  clear hT8 hT9 her9 hb9 hb10 HS1 HS2
  go_wp2_with fail
  refine (HSE.out _ _ _ _ _ her9'.lies her10.lies).mono ?_
  rintro e w11 ⟨rfl, hb11⟩
  have hT11 := hT10.below hb11
  clear hT10 her9' her10 hb11 HSE
  go_wp2_with fail
  refine (HH1.out _ hT11.one).mono ?_
  rintro e w12 ⟨rfl, q12, rfl⟩
  have hT12 := hT11.drewN q12
  generalize w11.drewN q12 = w12 at hT12 ⊢
  clear HH1 hT11
  go_wp2_with fail
  refine (HH2.out _ _ hT12.two).mono ?_
  rintro e w13 ⟨rfl, q13, rfl⟩
  have hT13 := hT12.drewN q13
  generalize w12.drewN q13 = w13 at hT13 ⊢
  clear HH2 hT12
  rcases Nat.eq_zero_or_pos k with rfl | hk0
  · go_wp2_with fail
    go_ret
    exact ⟨rfl, hT13.bel⟩
  · have g1 : ¬ k = 0 := by omega
    have g2 : ((k : Int) == 0) = false := by rw [beq_eq_false_iff_ne]; omega
    go_wp2_with fail
    refine (HN1.out _ _ hT13.two).mono ?_
    rintro e w14 ⟨rfl, q14, rfl⟩
    have hT14 := hT13.drewN q14
    generalize w13.drewN q14 = w14 at hT14 ⊢
    clear HN1 hT13
    go_wp2_with fail
    refine (HN2.out hk0 _ _ hT14.two).mono ?_
    rintro e w15 ⟨rfl, q15, rfl⟩
    have hT15 := hT14.drewN q15
    generalize w14.drewN q15 = w15 at hT15 ⊢
    clear HN2 hT14
    go_wp2_with fail
    go_ret
    exact ⟨rfl, hT15.bel⟩

theorem compacts_row (a : Option Addr) (cap : Nat) (st : List Int) (f m : Int) (w : World) (hl : IntsAt w a cap st) (h1 : (Lit.int .i64 f).wf = true) (_ : (Lit.int .i64 m).wf = true) :
    Calls Try.prog 6 #[.slice a st.length cap, .int .i64 f, .int .i64 m] w fun e w' => e = .returned (.bool true) ∧ Below w.heap.size w w' :=
  compacts_law a cap st f m w hl (bounds_i64 h1)

end Go.Proofs.Ytabboeahnboagaa.Rl
