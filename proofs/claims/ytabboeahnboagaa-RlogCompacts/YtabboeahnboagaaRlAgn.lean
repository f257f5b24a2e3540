/- RlogAgain: what was merged once changes nothing when it is merged again. -/
import Derived.Test.YtabboeahnboagaaRlCom
import Derived.Test.YtabboeahnboagaaGArgs
namespace Go.Proofs.Ytabboeahnboagaa.Rl
open Go.RowKit Go.Joins Gk

/-- a log that is as it was, whatever else has been made -/
theorem Made.other {w w1 w2 : World} {b1 b2 : Nat} {S1 S2 : Lo} (h1 : Made w w1 b1 S1) (h2 : Made w1 w2 b2 S2) : Made w w2 b1 S1 := h1.below h2.bel
theorem Made.apart2 {w w1 w2 : World} {b1 b2 : Nat} {S1 S2 : Lo} (h1 : Made w w1 b1 S1) (h2 : Made w1 w2 b2 S2) : ∀ k, own w2 b1 k → ¬ own w2 b2 k := fun k hk h => by
  obtain ⟨v, hv⟩ := h1.log
  rw [own_same (h2.bel.block b1 hv.lt)] at hk
  have := hv.ownlt hk
  have := h2.new k h
  omega

set_option maxRecDepth 100000 in
set_option maxHeartbeats 8000000 in
theorem again_law (a : Option Addr) (cap : Nat) (st : List Int) (from_ many : Int) (w : World) (hl : IntsAt w a cap st) (hn : st.length ≤ 9223372036854775807) (hf : -9223372036854775808 ≤ from_ ∧ from_ ≤ 9223372036854775807) (hm : -9223372036854775808 ≤ many ∧ many ≤ 9223372036854775807) :
    Calls Try.prog 8 #[.slice a st.length cap, .int .i64 from_, .int .i64 many] w fun e w' => e = .returned (.bool true) ∧ Below w.heap.size w w' := by
  have HW := hide (works_any w)
  have HGR := hide (fun W (hb : Below w.heap.size w W) => grown_any a cap st W (hl.lies.below hb) hl.each hn)
  have hG := grown_is st
  generalize (⟨0, 0, (gr st (min st.length 40)).1⟩ : Lo) = S at *
  have hbd := hG.bd
  have hla := hG.last
  have hlen := hG.n
  have hb0 := hG.b
  obtain ⟨n, hnn⟩ : ∃ n, S.es.length = n := ⟨_, rfl⟩
  rw [hnn] at hla hlen
  go_enter Try.func8, Try.ntmps8
  go_wp2_with (go_at_call 16; refine HW.out.mono ?_; rintro e w1 ⟨rfl, hb1⟩)
  refine (HGR.out _ hb1).mono ?_
  rintro e w2 ⟨b1, rfl, hM1⟩
  have hb2 : Below w.heap.size w w2 := hb1.trans (hM1.bel.mono hb1.size)
  go_wp2_with fail
  refine (HGR.out _ hb2).mono ?_
  rintro e w3 ⟨b2, rfl, hM2⟩
  have hb3 : Below w.heap.size w w3 := hb2.trans (hM2.bel.mono hb2.size)
  have hap := hM1.apart2 hM2
  have hM3 := hM1.other hM2
  obtain ⟨v1, hL1⟩ := hM3.log
  obtain ⟨v2, hL2⟩ := hM2.log
  have HLa := hide (Last_any b1 S v1 w3 hL1 hbd)
  rw [hla] at HLa
  clear HW HGR hM1
  have HM3 := hide hM3
  have HM2 := hide hM2
  clear hM3 hM2
  generalize S.tm n = tl at *
  go_wp2_with fail
  refine HLa.out.mono ?_
  rintro e w4 ⟨rfl, q4, rfl⟩
  obtain ⟨W4, hW4⟩ : ∃ W4, w3.drewN q4 = W4 := ⟨_, rfl⟩
  have hL1' : LH W4 b1 S v1 := by rw [← hW4]; exact hL1.drewN q4
  have hL2' : LH W4 b2 S v2 := by rw [← hW4]; exact hL2.drewN q4
  have hb4 : Below w.heap.size w W4 := by rw [← hW4]; exact below_drewN hb3 q4
  have hap' : ∀ k, own W4 b1 k → ¬ own W4 b2 k := by rw [← hW4]; exact hap
  have hnew : ∀ k, own W4 b1 k → w.heap.size ≤ k := by rw [← hW4]; exact fun k hk => Nat.le_trans hb1.size (HM3.out.new k hk)
  rw [hW4]
  clear hW4 hL1 hL2 hap HLa HM3 HM2 hb1 hb2 hb3
  have hn1 : (0 : Int) < (n : Int) + 1 := by omega
  obtain ⟨f, hfe⟩ : ∃ f : Nat, from_ % ((n : Int) + 1) = (f : Int) := ⟨(from_ % ((n : Int) + 1)).toNat, by have := Int.emod_nonneg from_ (show (n : Int) + 1 ≠ 0 by omega); omega⟩
  have hfn : f ≤ n := by have := Int.emod_lt_of_pos from_ hn1; omega
  obtain ⟨m, hme⟩ : ∃ m : Nat, many % ((n : Int) + 1) = (m : Int) := ⟨(many % ((n : Int) + 1)).toNat, by have := Int.emod_nonneg many (show (n : Int) + 1 ≠ 0 by omega); omega⟩
  have HA1 := hide (fun W => among_any from_ ((n : Int) + 1) W hn1 (by omega) hf.1 hf.2)
  have HA2 := hide (fun W => among_any many ((n : Int) + 1) W hn1 (by omega) hm.1 hm.2)
  rw [hfe] at HA1
  rw [hme] at HA2
  clear hfe hme hf hm
  have hSl := Slice_ok b1 S v1 f (m : Int) (by omega) W4 hL1' hbd (by omega) hG.ds
  rw [show ((S.b + 1 + f : Nat) : Int) = (f : Int) + 1 by omega, hnn] at hSl
  have HSl := hide hSl
  clear hSl
  obtain ⟨P, hP⟩ : ∃ P, (S.es.drop f).take (min (m : Int).toNat (n - f)) = P := ⟨_, rfl⟩
  rw [hP] at HSl
  have hPp : P <+: S.es.drop f := by rw [← hP]; exact List.take_prefix _ _
  clear hP
  have hPl : P.length ≤ 40 := by have := hPp.length_le; rw [List.length_drop] at this; omega
  have HTy := hide (fun W (h : LH W b1 S v1) => Term_yes b1 S v1 f W h hbd (by omega) (by rw [hla]; exact hfn))
  have hmr : S.mrg f P = (S, 0) := by rw [Lo.mrg, mt_pre hPp, Nat.sub_self]; rfl
  have HMG := hide (fun W a5 c5 (h : LH W b1 S v1) (hl5 : Lies W eenc a5 P) (hap5 : P ≠ [] → ∀ b off, a5 = some ⟨b, off, none⟩ → ¬ own W b1 b) => callsIn_wide.1 (merge_in b1 S v1 f (S.tm f) a5 c5 P W h hbd (by omega) (by rw [hb0, Nat.zero_add]) hl5 (by omega) hap5 (by rw [hb0, Nat.zero_add]; exact hG.code f (by omega) hPp)))
  rw [hmr, show ((S.b + f : Nat) : Int) = (f : Int) by omega, show ((S.b + f + P.length : Nat) : Int) = (f : Int) + (P.length : Int) by omega] at HMG
  have HS1 := hide (fun W b v (h : LH W b S v) => Slice_ok b S v 0 1048576 (by decide) W h hbd (by omega) hG.ds)
  rw [show ((S.b + 1 + 0 : Nat) : Int) = 1 by omega, hnn, show (S.es.drop 0).take (min (1048576 : Int).toNat (n - 0)) = S.es by rw [List.drop_zero]; exact List.take_of_length_le (by rw [hnn]; show n ≤ min 1048576 (n - 0); omega)] at HS1
  have HSE := hide (fun W a1 a2 c1 c2 (h1 : Lies W eenc a1 S.es) (h2 : Lies W eenc a2 S.es) => same_ents a1 a2 c1 c2 S.es W h1 h2 (by omega))
  have hf40 : (f : Int) ≤ 40 := by omega
  have hn40 : (n : Int) ≤ 40 := by omega
  have hp40 : (P.length : Int) ≤ 40 := by omega
  generalize S.tm f = tf at *
  have H4 := hide (And.intro hL1' (And.intro hL2' (And.intro hb4 (And.intro hap' hnew))))
  clear hL1' hL2' hb4 hap' hnew hl hG hbd hla hb0 hPp hmr hnn hPl hfn hlen
  go_wp2_with (go_at_call 18; refine (HA1.out _).mono ?_; clear HA1; rintro e w5 ⟨rfl, rfl⟩)
  refine (HA2.out _).mono ?_
  rintro e w5 ⟨rfl, rfl⟩
  go_wp2_with fail
  refine HSl.out.mono ?_
  rintro e w5 ⟨v5, rfl, her5, hg5, hb5⟩
  obtain ⟨a5, c5, rfl, _⟩ := her5.slice
  clear HSl HA2
  go_wp2_with fail
  refine (HTy.out w5 (H4.out.1.below hb5)).mono ?_
  rintro e w6 ⟨rfl, q6, rfl⟩
  obtain ⟨W6, hW6⟩ : ∃ W6, w5.drewN q6 = W6 := ⟨_, rfl⟩
  have hb6 : Below W4.heap.size W4 W6 := by rw [← hW6]; exact below_drewN hb5 q6
  have her6 : ER W6 (.slice a5 P.length c5) P := by rw [← hW6]; exact her5.below (below_drewN (Below.refl _ w5) q6)
  rw [hW6]
  clear hW6 her5 hb5
  have hL6 := H4.out.1.below hb6
  have hM6 := (HMG.out W6 a5 c5 hL6 her6.lies (fun _ b off e h => by
    rw [own_same (hb6.block b1 H4.out.1.lt)] at h
    have h1 := H4.out.1.ownlt h
    have h2 := hg5 b (by rw [e]; rfl)
    omega))
  have HM6 := hide hM6
  clear hM6
  go_wp2_with fail
  refine HM6.out.mono ?_
  rintro e w7 ⟨rfl, ⟨v7, hL7⟩, ht7⟩
  obtain ⟨hL27, hap7⟩ := (H4.out.2.1.below hb6).turn (bl := b1) (by rw [own_same (hb6.block b1 H4.out.1.lt), own_same (hb6.block b2 H4.out.2.1.lt)]; exact H4.out.2.2.2.1) ht7
  have hb7 : Below w.heap.size w w7 := (H4.out.2.2.1.trans (hb6.mono H4.out.2.2.1.size)).trans (ht7.only.below (Nat.le_trans H4.out.2.2.1.size hb6.size) (fun k hk => H4.out.2.2.2.2 k (by rw [← own_same (hb6.block b1 H4.out.1.lt)]; exact hk)))
  have H7 := hide (And.intro hL7 (And.intro hL27 hb7))
  clear HM6 HMG HTy hL6 her6 hg5 hb6 ht7 hL7 hL27 hap7 hb7 H4
  go_wp2_with fail
  refine (HS1.out w7 b1 v7 H7.out.1).mono ?_
  rintro e w8 ⟨v8, rfl, her8, _, hb8⟩
  obtain ⟨a8, c8, rfl, _⟩ := her8.slice
  go_wp2_with fail
  refine (HS1.out w8 b2 v2 (H7.out.2.1.below hb8)).mono ?_
  rintro e w9 ⟨v9, rfl, her9, _, hb9⟩
  obtain ⟨a9, c9, rfl, _⟩ := her9.slice
  have her8' := her8.below hb9
  have H9 := hide (H7.out.2.2.trans ((hb8.mono H7.out.2.2.size).trans (hb9.mono (Nat.le_trans H7.out.2.2.size hb8.size))))
  clear her8 hb8 hb9
  have e1 : ((f : Int) + (P.length : Int) == (f : Int) + (P.length : Int)) = true := by simp
  go_wp2_with (go_at_call 15; refine (HSE.out _ _ _ _ _ her8'.lies her9.lies).mono ?_; rintro e w10 ⟨rfl, hb10⟩)
  go_ret
  exact ⟨rfl, H9.out.trans (hb10.mono H9.out.size)⟩

theorem again_row (a : Option Addr) (cap : Nat) (st : List Int) (f m : Int) (w : World) (hl : IntsAt w a cap st) (h1 : (Lit.int .i64 f).wf = true) (h2 : (Lit.int .i64 m).wf = true) :
    Calls Try.prog 8 #[.slice a st.length cap, .int .i64 f, .int .i64 m] w fun e w' => e = .returned (.bool true) ∧ Below w.heap.size w w' :=
  again_law a cap st f m w hl (Nat.le_trans hl.room hl.max) (bounds_i64 h1) (bounds_i64 h2)

end Go.Proofs.Ytabboeahnboagaa.Rl
