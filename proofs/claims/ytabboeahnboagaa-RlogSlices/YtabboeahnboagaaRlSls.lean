/- RlogSlices: slices put together are the log. -/
import Derived.Test.YtabboeahnboagaaRlAgn
namespace Go.Proofs.Ytabboeahnboagaa.Rl
open Go.RowKit Go.Joins Gk

theorem wrap_small14 {x : Int} (h0 : -9223372036854775808 ≤ x) (h1 : x ≤ 9223372036854775807) : IntKind.i64.wrap x = x := by
  simp only [IntKind.wrap, IntKind.bits, IntKind.signed]
  simp
  omega
theorem tm_at {S : Lo} (h : Grown S) (k : Nat) (hk : k < S.es.length) : S.tm (k + 1) = S.es[k].t := by
  rw [Lo.tm, if_neg (by rw [h.b]; omega), h.b, show k + 1 - 0 - 1 = k by omega, List.getElem?_eq_getElem hk]; rfl

/-- a stretch of a grown log -/
theorem cut_at {S : Lo} {p n bl : Nat} {r : Int} {W : World} {v : Value} (hG : Grown S) (hn : S.es.length = n) (hp : p < n) (hr : 0 ≤ r) (h : LH W bl S v) :
    ∃ m : Nat, 1 ≤ m ∧ (m : Int) ≤ 1 + r ∧ p + m ≤ n ∧ Calls Try.prog 14 #[ptr bl, .int .i64 ((p : Int) + 1), .int .i64 (1 + r)] W fun e w' => ∃ a c, e = .returned (.tuple #[.slice a m c, .int .i64 0]) ∧ (a = none → c = 0) ∧ Lies w' eenc a ((S.es.drop p).take m) ∧ Below W.heap.size W w' := by
  refine ⟨min (1 + r).toNat (n - p), by omega, by omega, by omega, ?_⟩
  have hb0 := hG.b
  have hs := Slice_ok bl S v p (1 + r) (by omega) W h hG.bd (by omega) hG.ds
  rw [show ((S.b + 1 + p : Nat) : Int) = (p : Int) + 1 by omega, hn] at hs
  refine hs.mono ?_
  rintro e w' ⟨v', rfl, her, _, hb⟩
  obtain ⟨a, c, rfl, hc, _⟩ := her.slice
  have hl : ((S.es.drop p).take (min (1 + r).toNat (n - p))).length = min (1 + r).toNat (n - p) := by rw [List.length_take, List.length_drop, hn]; omega
  rw [hl] at her ⊢
  exact ⟨a, c, rfl, hc, her.lies, hb⟩

set_option maxRecDepth 100000 in
set_option maxHeartbeats 8000000 in
theorem slices_law (a : Option Addr) (cap : Nat) (st : List Int) (a1 : Option Addr) (c1 : Nat) (cuts : List Int) (w : World) (hl : IntsAt w a cap st) (hl1 : IntsAt w a1 c1 cuts) :
    Calls Try.prog 7 #[.slice a st.length cap, .slice a1 cuts.length c1] w fun e w' => e = .returned (.bool true) ∧ Below w.heap.size w w' := by
  have HW := hide (works_any w)
  have HGR := hide (fun W (hb : Below w.heap.size w W) => grown_any a cap st W (hl.lies.below hb) hl.each (Nat.le_trans hl.room hl.max))
  have hG := grown_is st
  have hcl : cuts.length ≤ 9223372036854775807 := Nat.le_trans hl1.room hl1.max
  generalize (⟨0, 0, (gr st (min st.length 40)).1⟩ : Lo) = S at *
  have hbd := hG.bd
  have hla := hG.last
  have hlen := hG.n
  have hb0 := hG.b
  obtain ⟨n, hnn⟩ : ∃ n, S.es.length = n := ⟨_, rfl⟩
  rw [hnn] at hla hlen
  go_enter Try.func7, Try.ntmps7
  go_wp2_with (go_at_call 16; refine HW.out.mono ?_; rintro e w1 ⟨rfl, hb1⟩)
  refine (HGR.out _ hb1).mono ?_
  rintro e w2 ⟨bl, rfl, hM1⟩
  have hb2 : Below w.heap.size w w2 := hb1.trans (hM1.bel.mono hb1.size)
  obtain ⟨v, hL⟩ := hM1.log
  have HLa := hide (Last_any bl S v w2 hL hbd)
  rw [hla] at HLa
  clear HW HGR hM1 hb1 hl
  generalize S.tm n = tl at *
  go_wp2_with fail
  refine HLa.out.mono ?_
  rintro e w4 ⟨rfl, q4, rfl⟩
  obtain ⟨W4, hW4⟩ : ∃ W4, w2.drewN q4 = W4 := ⟨_, rfl⟩
  have hL4 : LH W4 bl S v := by rw [← hW4]; exact hL.drewN q4
  have hb4 : Below w.heap.size w W4 := by rw [← hW4]; exact below_drewN hb2 q4
  rw [hW4]
  clear hW4 hL hb2 HLa
  have hS1 := Slice_ok bl S v 0 1048576 (by decide) W4 hL4 hbd (by omega) hG.ds
  rw [show ((S.b + 1 + 0 : Nat) : Int) = 1 by omega, hnn, show (S.es.drop 0).take (min (1048576 : Int).toNat (n - 0)) = S.es by rw [List.drop_zero]; exact List.take_of_length_le (by rw [hnn]; show n ≤ min 1048576 (n - 0); omega)] at hS1
  have HS1 := hide hS1
  have H4 := hide (And.intro hL4 hb4)
  have HNN := hide hnn
  have HG := hide hG
  clear hS1 hL4 hb4 hG hbd hla hb0 hnn
  have hn40 : (n : Int) ≤ 40 := by omega
  have e00 : ((n : Int) == (n : Int)) = true := by simp
  go_wp2_with fail
  refine HS1.out.mono ?_
  rintro e w5 ⟨v5, rfl, her5, _, hb5⟩
  obtain ⟨a5, c5, rfl, _⟩ := her5.slice
  have H5 := hide (show LH w5 bl S v ∧ Lies w5 eenc a5 S.es ∧ Below w.heap.size w w5 from ⟨H4.out.1.below hb5, her5.lies, H4.out.2.trans (hb5.mono H4.out.2.size)⟩)
  have HC := hide (fun W (hb : Below w5.heap.size w5 W) => hl1.lies.below (H5.out.2.2.trans (hb.mono H5.out.2.2.size)))
  have HCE := hide hl1.each
  clear HS1 H4 her5 hb5 hl1
  rw [HNN.out]
  go_wp2_with fail
  go_loopw [10, 11, 12] (fun at_ kv got wr => ∃ p kk : Nat, p ≤ n ∧ kk ≤ p ∧ at_ = .int .i64 ((p : Int) + 1) ∧ kv = .int .i64 kk ∧ Below w5.heap.size w5 wr ∧ wr.ownsRow w5.heap.size EnT 2 got p (rc eenc (S.es.take p))) (fun at_ _ _ _ => n + 1 - (intOf at_).toNat)
  case atStart => exact ⟨0, 0, Nat.zero_le _, Nat.zero_le _, rfl, rfl, Below.refl _ _, World.ownsRow_nil _ _ _ _⟩
  case round =>
    obtain ⟨p, kk, hp, hkp, rfl, rfl, hbr, hown⟩ := hrel
    obtain ⟨ag, cg, rfl⟩ := own_slice hown
    by_cases hpn : p < n
    · have j1 : (p : Int) + 1 ≤ (n : Int) := by omega
      have hpl : (S.es.take p).length = p := by rw [List.length_take, HNN.out]; omega
      by_cases hk : kk < cuts.length
      · have j2 : (kk : Int) < (cuts.length : Int) := by omega
        have j3 : (0 : Int) ≤ (kk : Int) := by omega
        obtain ⟨b1, o1, rfl, hlt1, hc1⟩ := (HC.out wr hbr).at ienc_len kk hk
        have d1 := hc1 0 _ rfl
        rw [Nat.mul_one, Nat.add_zero] at d1
        have hx := HCE.out _ (List.getElem_mem hk)
        have HA := hide (fun W => among_any cuts[kk] 5 W (by decide) (by decide) hx.1 hx.2)
        generalize cuts[kk] = x at *
        have hx3 : 0 ≤ x % 5 ∧ x % 5 < 5 := ⟨Int.emod_nonneg _ (by decide), Int.emod_lt_of_pos _ (by decide)⟩
        generalize x % 5 = r at *
        obtain ⟨m, hm1, hm2, hm3, hSl⟩ := cut_at HG.out HNN.out hpn hx3.1 (H5.out.1.below hbr)
        have HSl := hide hSl
        clear hSl hc1 hx
        go_wp2_with (go_at_call 18; refine (HA.out _).mono ?_; rintro e w2 ⟨rfl, rfl⟩)
        refine HSl.out.mono ?_
        rintro e w6 ⟨a6, c6, rfl, hc6, hl6, hb6⟩
        have hown6 := own_below hown hb6
        have HB6 := hide (hbr.trans (hb6.mono hbr.size))
        have hl6l : ((S.es.drop p).take m).length = m := by rw [List.length_take, List.length_drop, HNN.out]; omega
        have HTK := hide (show S.es.take p ++ (S.es.drop p).take m = S.es.take (p + m) from List.take_add.symm)
        have g1 : ¬ m = 0 := by omega
        have g0 : ((m : Int) == 0) = false := by rw [beq_eq_false_iff_ne]; omega
        have g2 : ¬ (1 + r) < (m : Int) := by omega
        have g2' : (m : Int) ≤ 1 + r := by omega
        have g3 : (m : Int) ≤ 40 := by omega
        have g4 : (p : Int) ≤ 40 := by omega
        have HPL := hide hpl
        clear HSl hown hbr hb6 hpl
        go_wp2_with (at_builtin; refine wpList_append_row (enc := eenc) (k := 2) rfl (.tmp 79) (.tmp 80) EnsT rfl EnT noE 24 Try.underlying26 en_info rfl (by decide) eenc_len eenc_one w5.heap.size _ (S.es.take p) rfl (by rw [HPL.out]; exact hown6) a6 ((S.es.drop p).take m) m c6 rfl hl6l.symm hl6 hc6 (by rw [HPL.out, hl6l]; omega) (by rw [HPL.out, hl6l]; omega) HB6.out.size ?_)
        intro v8 w8 hown8 hg8 _
        have hb8 : Below w5.heap.size w5 w8 := HB6.out.grown hg8 HB6.out.size (fun k hk => (hown6.lt k hk).1)
        rw [HTK.out, show min p S.es.length + m = p + m by rw [HNN.out]; omega] at hown8
        clear hown6 hg8 hl6
        go_wp2
        go_roundw
        case rel => exact ⟨p + m, kk + 1, hm3, by omega, by go_num, by go_num, hb8, hown8⟩
        case measure => simp [intOf]; omega
      · have j2 : ¬ (kk : Int) < (cuts.length : Int) := by omega
        obtain ⟨m, hm1, hm2, hm3, hSl⟩ := cut_at (r := 0) HG.out HNN.out hpn (Int.le_refl _) (H5.out.1.below hbr)
        rw [Int.add_zero] at hm2 hSl
        have HSl := hide hSl
        clear hSl
        go_wp2_with fail
        refine HSl.out.mono ?_
        rintro e w6 ⟨a6, c6, rfl, hc6, hl6, hb6⟩
        have hown6 := own_below hown hb6
        have HB6 := hide (hbr.trans (hb6.mono hbr.size))
        have hl6l : ((S.es.drop p).take m).length = m := by rw [List.length_take, List.length_drop, HNN.out]; omega
        have HTK := hide (show S.es.take p ++ (S.es.drop p).take m = S.es.take (p + m) from List.take_add.symm)
        have g1 : ¬ m = 0 := by omega
        have g0 : ((m : Int) == 0) = false := by rw [beq_eq_false_iff_ne]; omega
        have g2 : ¬ (1 : Int) < (m : Int) := by omega
        have g2' : (m : Int) ≤ 1 := by omega
        have g3 : (m : Int) ≤ 40 := by omega
        have g4 : (p : Int) ≤ 40 := by omega
        have HPL := hide hpl
        clear HSl hown hbr hb6 hpl
        go_wp2_with (at_builtin; refine wpList_append_row (enc := eenc) (k := 2) rfl (.tmp 79) (.tmp 80) EnsT rfl EnT noE 24 Try.underlying26 en_info rfl (by decide) eenc_len eenc_one w5.heap.size _ (S.es.take p) rfl (by rw [HPL.out]; exact hown6) a6 ((S.es.drop p).take m) m c6 rfl hl6l.symm hl6 hc6 (by rw [HPL.out, hl6l]; omega) (by rw [HPL.out, hl6l]; omega) HB6.out.size ?_)
        intro v8 w8 hown8 hg8 _
        have hb8 : Below w5.heap.size w5 w8 := HB6.out.grown hg8 HB6.out.size (fun k hk => (hown6.lt k hk).1)
        rw [HTK.out, show min p S.es.length + m = p + m by rw [HNN.out]; omega] at hown8
        clear hown6 hg8 hl6
        go_wp2
        go_roundw
        case rel => exact ⟨p + m, kk + 1, hm3, by omega, by go_num, by go_num, hb8, hown8⟩
        case measure => simp [intOf]; omega
    · have j1 : ¬ (p : Int) + 1 ≤ (n : Int) := by omega
      have hpe : p = n := by omega
      subst hpe
      have htk : S.es.take p = S.es := List.take_of_length_le (by rw [HNN.out]; omega)
      rw [htk] at hown
      clear htk HC HCE
      have hb8 : Below w.heap.size w wr := H5.out.2.2.trans (hbr.mono H5.out.2.2.size)
      have H8 := hide (And.intro (H5.out.1.below hbr) (And.intro (H5.out.2.1.below hbr) (And.intro (ER.of_own hown).lies hb8)))
      clear hown hbr hb8 H5
      go_wp2
      go_loopw [88] (fun iv wq => ∃ i : Nat, i ≤ p ∧ iv = .int .i64 i ∧ Below wr.heap.size wr wq) (fun iv _ => p - (intOf iv).toNat)
      case atStart => exact ⟨0, Nat.zero_le _, rfl, Below.refl _ _⟩
      case round =>
        obtain ⟨i, hi, rfl, hbq⟩ := hrel
        by_cases hip : i < p
        · have i1 : (i : Int) < (p : Int) := by omega
          have i2 : (0 : Int) ≤ (i : Int) := by omega
          have i3 : i < S.es.length := by rw [HNN.out]; exact hip
          obtain ⟨b1, o1, rfl, hlt1, hc1⟩ := (H8.out.2.1.below hbq).at eenc_len i i3
          have d1 := hc1 0 _ rfl
          have d2 := hc1 1 _ rfl
          rw [Nat.add_zero] at d1
          have HTy := hide (fun W (h : LH W bl S v) => Term_yes bl S v (i + 1) W h HG.out.bd (by rw [HG.out.b]; omega) (by rw [HG.out.last, HNN.out]; omega))
          rw [tm_at HG.out i i3, show ((i + 1 : Nat) : Int) = (i : Int) + 1 by omega] at HTy
          obtain ⟨x, hx⟩ : ∃ x, S.es[i] = x := ⟨_, rfl⟩
          rw [hx] at d1 d2 HTy
          have hbz : Below wr.heap.size wr (wr.alloc (.cells #[.int .i64 x.t, .string x.d] EnT)) := (Below.refl _ wr).alloc (Nat.le_refl _) _
          have hbx := heap_alloc_new wr (.cells #[.int .i64 x.t, .string x.d] EnT)
          have hbW := hbq.trans (hbz.mono hbq.size)
          clear hc1
          go_wp2_with fail
          refine (HTy.out _ (H8.out.1.below hbW)).mono ?_
          rintro e w10 ⟨rfl, q10, rfl⟩
          obtain ⟨W7, hW7⟩ : ∃ W7, (wr.alloc (.cells #[.int .i64 x.t, .string x.d] EnT)).drewN q10 = W7 := ⟨_, rfl⟩
          have hb7 := below_drewN hbW q10
          have hx7 : W7.heap[wr.heap.size]? = some (.cells #[.int .i64 x.t, .string x.d] EnT (0, 0)) := by rw [← hW7]; exact hbx
          rw [hW7] at hb7 ⊢
          have k0 : W7.cell? ⟨wr.heap.size, 0, none⟩ = some (.int .i64 x.t) := by rw [cell_of_block hx7]; rfl
          have k0' : wr.heap.size < W7.heap.size := (Array.getElem?_eq_some_iff.1 hx7).1
          generalize wr.heap.size = Bx at k0 k0' ⊢
          clear hW7 hbx hbz hbW d1 d2 hx7 HTy hbq hlt1
          have e10 : (x.t == x.t) = true := by simp
          rcases Nat.eq_zero_or_pos i with rfl | hi0
          · go_wp2_with fail
            refine wp_region_quiet_lit (by kernel_rfl) (by kernel_rfl) ?_
            refine QW.out ?_
            repeat (refine QW.step (fun K hK => ?_); go_simp; refine hK _ ?_; clear hK K)
            refine QW.nil ?_
            rintro w7 ⟨nq, rfl⟩
            have hb9 := hb7.trans (below_draws _ W7 nq)
            clear k0
            generalize W7.drewN nq = w9 at hb9 ⊢
            go_wp2
            go_roundw
            case rel => exact ⟨1, by omega, by go_num, hb9⟩
            case measure => simp [intOf]; omega
          · obtain ⟨i', rfl⟩ : ∃ i', i = i' + 1 := ⟨i - 1, by omega⟩
            have i3' : i' < S.es.length := by omega
            obtain ⟨b2, o2, e2, hlt2, hc2⟩ := (H8.out.2.1.below hb7).at eenc_len i' i3'
            cases e2
            have d1 := hc2 0 _ rfl
            rw [Nat.add_zero] at d1
            have hle : S.es[i'].t ≤ x.t := by
              have := List.pairwise_iff_getElem.1 HG.out.rise i' (i' + 1) (by simp; omega) (by simp; omega) (by omega)
              rw [← hx]; simpa using this
            generalize S.es[i'] = y at *
            clear hc2
            have hz : ((i' + 1 : Nat) : Int) - 1 = (i' : Int) := by omega
            have hz1 : (0 : Int) < ((i' + 1 : Nat) : Int) := by omega
            have hz2 : (0 : Int) ≤ (i' : Int) := by omega
            have hz3 : (i' : Int) < (p : Int) := by omega
            have hwr : IntKind.i64.wrap (i' : Int) = (i' : Int) := wrap_small14 (by omega) (by omega)
            go_wp2_with fail
            refine wp_region_quiet_lit (by kernel_rfl) (by kernel_rfl) ?_
            refine QW.out ?_
            repeat (refine QW.step (fun K hK => ?_); go_simp; refine hK _ ?_; clear hK K)
            refine QW.nil ?_
            rintro w7 ⟨nq, rfl⟩
            have hb9 := hb7.trans (below_draws _ W7 nq)
            clear k0 d1
            generalize W7.drewN nq = w9 at hb9 ⊢
            go_wp2
            go_roundw
            case rel => exact ⟨i' + 2, by omega, by go_num, hb9⟩
            case measure => simp [intOf]; omega
        · have i1 : ¬ (i : Int) < (p : Int) := by omega
          have HSE := hide (same_ents ag (a5) cg c5 S.es wr (H8.out.2.2.1.below hbq) (H8.out.2.1.below hbq) (by rw [HNN.out]; omega))
          rw [HNN.out] at HSE
          go_wp2_with fail
          refine HSE.out.mono ?_
          rintro e w10 ⟨rfl, hb10⟩
          go_wp2
          go_ret
          exact ⟨rfl, (H8.out.2.2.2.trans (hbq.mono H8.out.2.2.2.size)).trans (hb10.mono (Nat.le_trans H8.out.2.2.2.size hbq.size))⟩
end Go.Proofs.Ytabboeahnboagaa.Rl
