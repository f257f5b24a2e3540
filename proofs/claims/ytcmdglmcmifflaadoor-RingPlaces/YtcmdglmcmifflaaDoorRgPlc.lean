/- RingPlaces: points rise, and are as many as all weigh together, as many of each chain as it weighs; a key lies on the chain of the first point that is not below its hash. Proved: for all weights and keys, no condition. -/
import Derived.Test.YtcmdglmcmifflaaDoorRgPts
import Derived.Test.YtcmdglmcmifflaaDoorRgWorks
import Derived.Test.YtcmdglmcmifflaaDoorGQuiet
import Derived.Deep.RegionHeld3
namespace Go.Proofs.YtcmdglmcmifflaaDoor.Rg
open Go.RowKit Go.Joins Gk

/-- what the law's first test reads -/
abbrev PS (g1 g2 i k : Nat) (a b p : Int) (wr W : World) : Prop := ((W.cell? ⟨g1, k, none⟩ = some (.int .u64 a) ∧ W.cell? ⟨g1, i, none⟩ = some (.int .u64 b)) ∧ W.cell? ⟨g2, i, none⟩ = some (.int .i64 p)) ∧ Below wr.heap.size wr W
theorem PS.drew {g1 g2 i k : Nat} {a b p : Int} {wr W : World} (h : PS g1 g2 i k a b p wr W) : PS g1 g2 i k a b p wr W.drew := ⟨h.1, h.2.drew⟩
theorem wr_facts {i k : Int} (h : i - 1 = k) (h0 : 0 ≤ k) (h1 : k ≤ 4000) : wrap64 (i - 1) = k ∧ wrap64 k = k ∧ IntKind.i64.wrap k = k := by
  rw [h]
  have e : wrap64 k = k := by unfold wrap64; omega
  exact ⟨e, e, by rw [IntKind.wrap_i64]; omega⟩
theorem Row.set1 {w : World} {g n cap : Nat} {l : List Int} (h : Row w ienc IntT 1 (.slice (some ⟨g, 0, none⟩) n cap) l) (i : Nat) (hi : i < l.length) (x : Int) : Row (w.setCell ⟨g, i, none⟩ (.int .i64 x)) ienc IntT 1 (.slice (some ⟨g, 0, none⟩) n cap) (l.set i x) := by
  have := h.set ienc_len i hi x
  simpa [ienc, World.setCells] using this

theorem make_ints8 (n : Nat) (hn : n ≤ 8) : ∃ M : Array Value, M.toList = List.replicate n (.int .i64 0) ∧ ∀ W : World, (Instr.makeSlice 22 (.int .i64 (n : Int)) (.int .i64 (n : Int))).run Tryd.prog W = .ok (.slice (some ⟨W.heap.size, 0, none⟩) n n) (W.alloc (.cells M IntT)) := Rs.make_places n (by omega)
theorem own_zeros {W : World} {g n : Nat} {M : Array Value} (h : W.heap[g]? = some (.cells M IntT (0, 0))) (hM : M.toList = List.replicate n (.int .i64 0)) (hn : n ≤ 8) : Row W ienc IntT 1 (.slice (some ⟨g, 0, none⟩) n n) (cnts n []) := by
  have hs : M.size = n := by rw [← Array.length_toList, hM]; simp
  have hr : rc ienc (List.replicate n 0) = List.replicate n (.int .i64 0) := by
    clear hs hM hn h
    induction n with
    | zero => rfl
    | succ n ih => rw [List.replicate_succ, List.replicate_succ, rc_cons, ih]; rfl
  rw [cnts_nil]
  refine ⟨rc_length ienc_len _, Or.inr ⟨g, n, M, by simp, Nat.zero_le _, h, by simp, by unfold maxLen; omega, by omega, ?_⟩⟩
  rw [hM, hr, Nat.mul_one, List.take_of_length_le (by simp)]

set_option maxHeartbeats 6400000 in
set_option maxRecDepth 100000 in
theorem places_law (a : Option Addr) (cap : Nat) (ws : List Int) (key : ByteArray) (w : World) (hI : IntsAt w a cap ws) (hs : key.size ≤ 140737488351232) (hT : Tab w) :
    Calls Tryd.prog 3 #[.slice a ws.length cap, .string key] w fun e w' => e = .returned (.bool true) ∧ Below w.heap.size w w' := by
  have mixed : Tryd.prog.follows .mixedOrders = true := by kernel_rfl
  have hn : ws.length ≤ 9223372036854775807 := Nat.le_trans hI.room hI.max
  have hl := hI.lies
  clear hI
  by_cases hM : May ws
  · have hP := fun W (hb : Below w.heap.size w W) => points_yes a cap ws hM W (hl.below hb) (hT.below hb)
    obtain ⟨M, hMl, hmk⟩ := make_ints8 ws.length hM.n2
    have HML := hide hMl
    clear hMl
    have hH := fun W => hash_any key W (by omega)
    have hw8 := hM.n2
    go_enter Tryd.func3, Tryd.ntmps3
    go_wp2_with (first | (go_at_call 7; refine (works_any w hT).mono ?_; rintro e w1 ⟨rfl, hb1⟩) | (go_at_call 8; refine (hP _ hb1).mono ?_; rintro e w2 ⟨a1, c1, a2, c2, l, rfl, hb2, HR⟩; have hB2 := hb1.trans (hb2.mono hb1.size); have hpl : 0 < l.length := (by rw [HR.out.2.2.perm.length_eq]; exact List.length_pos_iff.2 hM.pts_ne); have hlm : l.length ≤ 1024 := (by rw [HR.out.2.2.perm.length_eq]; exact length_pts_le hM); obtain ⟨g1, d1, e1, _⟩ := HR.out.1.at uenc_len 0 hpl; cases e1; obtain ⟨g2, d2, e2, hg2, k20⟩ := HR.out.2.1.at cenc_len 0 hpl; cases e2; have q0 := k20 0 _ rfl; rw [Nat.zero_mul, Nat.zero_add] at q0; have q1 := fun o => ((below_alloc1 w2 o).cell (p := ⟨g2, 0, none⟩) hg2).trans q0; clear k20 q0; have i0 : (0 : Int) < (l.length : Int) := (by omega)) | (go_at_call 9; refine (hH _).mono ?_; rintro e w3 ⟨rfl, hw3⟩; obtain rfl := hw3.symm))
    have HR2 := HR.out
    obtain ⟨hh, hhd⟩ : ∃ hh, hashL key.data.toList = hh := ⟨_, rfl⟩
    have HHH := hide hhd
    rw [hhd]
    have hh0 := hashL_range key.data.toList
    rw [hhd] at hh0
    have HMZ := hide (own_zeros (W := w2.alloc (.cells M IntT)) (g := w2.heap.size) (heap_alloc_new w2 _) HML.out hw8)
    have HB3 := below_alloc1 w2 (.cells M IntT)
    obtain ⟨W3, hW3⟩ : ∃ W3, w2.alloc (.cells M IntT) = W3 := ⟨_, rfl⟩
    rw [hW3] at HMZ HB3 ⊢
    have hwant : ((l[0]'hpl).1 : Int) = ((l.getD 0 (0, 0)).1 : Int) := by simp [List.getD_eq_getElem?_getD, hpl]
    clear hW3 hhd hmk HML q1 hP hH
    generalize hwv : ((l[0]'hpl).1 : Int) = wv0
    have HW0 := hide (hwv.symm.trans hwant)
    clear hwv hwant
    go_loopw [9, 10, 43] (fun wv fv iv wr => ∃ (i : Nat) (F : Bool) (V : Int), i ≤ l.length ∧ iv = .int .i64 i ∧ fv = .bool F ∧ wv = .int .i64 V ∧ Row wr ienc IntT 1 (.slice (some ⟨w2.heap.size, 0, none⟩) ws.length ws.length) (cnts ws.length (l.take i)) ∧ Below w2.heap.size W3 wr ∧ Hid (F = decide (fstHi hh l < i) ∧ V = ((l.getD (if fstHi hh l < i then fstHi hh l else 0) (0, 0)).1 : Int))) (fun _ _ iv _ => l.length - (intOf iv).toNat)
    case atStart => exact ⟨0, false, wv0, Nat.zero_le _, rfl, rfl, rfl, HMZ.out, Below.refl _ _, ⟨by simp, by simpa using HW0.out⟩⟩
    case round =>
      obtain ⟨i, F, V, hi, rfl, rfl, rfl, hMR, hbel, HFV⟩ := hrel
      have HMR := hide hMR
      clear hMR HMZ
      by_cases hlt : i < l.length
      · have i1 : (i : Int) < (l.length : Int) := by omega
        have hg1 := (HR.out.1.celled uenc_len i hlt).1
        have d1 := (HR.out.1.celled uenc_len i hlt).2 0 _ rfl
        have d2 := (HR.out.2.1.celled cenc_len i hlt).2 0 _ rfl
        rw [Nat.mul_one, Nat.add_zero] at d1 d2
        replace d1 := (hbel.cell (p := ⟨g1, i, none⟩) hg1).trans ((HB3.cell (p := ⟨g1, i, none⟩) hg1).trans d1)
        replace d2 := (hbel.cell (p := ⟨g2, i, none⟩) hg2).trans ((HB3.cell (p := ⟨g2, i, none⟩) hg2).trans d2)
        have hg1l : g1 < wr.heap.size := Nat.lt_of_lt_of_le hg1 (Nat.le_trans HB3.size hbel.size)
        have hg2l : g2 < wr.heap.size := Nat.lt_of_lt_of_le hg2 (Nat.le_trans HB3.size hbel.size)
        have hmem : l[i] ∈ pts ws := HR.out.2.2.perm.mem_iff.1 (List.getElem_mem hlt)
        have hpn := (mem_pts.1 hmem).1
        have HT := hide (List.take_succ_eq_append_getElem hlt)
        have HCS := hide (show cnts ws.length (l.take (i + 1)) = (cnts ws.length (l.take i)).set (l[i]).1 (((cnt (l[i]).1 (l.take i) : Nat) : Int) + 1) by rw [HT.out, cnts_snoc])
        have hcl : (l[i]).1 < (cnts ws.length (l.take i)).length := by rw [cnts_len]; exact hpn
        have hgml := (HMR.out.celled ienc_len (l[i]).1 hcl).1
        have dm := (HMR.out.celled ienc_len (l[i]).1 hcl).2 0 _ rfl
        rw [Nat.mul_one, Nat.add_zero, cnts_at] at dm
        have hcm : cnt (l[i]).1 (l.take i) ≤ 1024 := Nat.le_trans List.countP_le_length (by rw [List.length_take]; omega)
        have HLO := hide (fun (h : i < fstHi hh l) => fstHi_lo hh l i hlt h)
        have HHI := hide (fun (h : fstHi hh l = i) => (show hh ≤ hp l[i] by have := fstHi_hi hh l (by omega); simpa [h] using this))
        have HGD := hide (show ((l.getD i (0, 0)).1 : Int) = ((l[i]).1 : Int) by simp [List.getD_eq_getElem?_getD, hlt])
        have HPREV := hide (fun (h : 0 < i) => plt_le HR.out.2.2.sorted (i := i - 1) (j := i) (by omega) hlt)
        have HD0 := hide (fun (h : 0 < i) => (show wr.cell? ⟨g1, i - 1, none⟩ = some (.int .u64 (hp (l[i - 1]'(by omega)))) by
          have e := (HR.out.1.celled uenc_len (i - 1) (by omega)).2 0 _ rfl
          rw [Nat.mul_one, Nat.add_zero] at e
          exact (hbel.cell (p := ⟨g1, i - 1, none⟩) hg1).trans ((HB3.cell (p := ⟨g1, i - 1, none⟩) hg1).trans e)))
        generalize cnt (l[i]).1 (l.take i) = cp at dm HCS hcm
        generalize (l[i]).1 = p at d2 hpn HCS dm hgml HGD hcl
        generalize hp l[i] = hpi at d1 HLO HHI HPREV
        have j1 : (p : Int) < (ws.length : Int) := by omega
        have j2 : ¬ (p : Int) < 0 := by omega
        have j3 : ¬ (ws.length : Int) ≤ (p : Int) := by omega
        have HCW := hide (show wrap64 ((cp : Int) + 1) = (cp : Int) + 1 by unfold wrap64; omega)
        have hroom : p < ws.length := hpn
        clear HT hmem hcl
        have h3 : (F = true ∧ V = ((l.getD (fstHi hh l) (0, 0)).1 : Int) ∧ fstHi hh l < i) ∨ (F = false ∧ V = ((l.getD 0 (0, 0)).1 : Int) ∧ fstHi hh l = i) ∨ (F = false ∧ V = ((l.getD 0 (0, 0)).1 : Int) ∧ i < fstHi hh l) := by
          obtain ⟨e1, e2⟩ := HFV.out
          rcases Nat.lt_trichotomy (fstHi hh l) i with h | h | h
          · exact Or.inl ⟨by rw [e1]; simp [h], by rw [e2, if_pos h], h⟩
          · exact Or.inr (Or.inl ⟨by rw [e1]; simp; omega, by rw [e2, if_neg (by omega)], h⟩)
          · exact Or.inr (Or.inr ⟨by rw [e1]; simp; omega, by rw [e2, if_neg (by omega)], h⟩)
        clear HFV
        have H3 := hide h3
        clear h3
        have hzero : i = 0 ∨ 0 < i := by omega
        rcases hzero with rfl | hpos
        · rcases H3.out with ⟨_, _, h⟩ | ⟨rfl, hV, hf⟩ | ⟨rfl, hV, hf⟩
          · exact absurd h (Nat.not_lt_zero _)
          · as_aux_lemma =>
              have HV := hide hV
              clear hV H3
              have HNX := hide (show (true : Bool) = decide (fstHi hh l < 1) ∧ (p : Int) = ((l.getD (if fstHi hh l < 1 then fstHi hh l else 0) (0, 0)).1 : Int) from ⟨by simp; omega, by rw [if_pos (by omega), hf]; exact HGD.out.symm⟩)
              have hge' : hh ≤ hpi := by have := HHI.out hf; omega
              clear HV hf HLO HHI HPREV HD0
              go_wp2_with fail
              refine wp_region_quiet_lit (by kernel_rfl) (by kernel_rfl) ?_
              refine QW.out ?_
              repeat (refine QW.step (fun K hK => ?_); go_simp; refine hK _ ?_; clear hK K)
              refine QW.nil ?_
              rintro w7 ⟨nq, rfl⟩
              have hd := below_draws wr.heap.size wr nq
              have HM7 := hide (HMR.out.below hd)
              have hB7 := hbel.trans (below_draws w2.heap.size wr nq)
              have z2 := (hd.cell (p := ⟨g2, 0, none⟩) hg2l).trans d2
              have z1 := (hd.cell (p := ⟨g1, 0, none⟩) hg1l).trans d1
              have zm := (hd.cell (p := ⟨w2.heap.size, p, none⟩) hgml).trans dm
              have fm := (HM7.out.there p (by rw [Nat.mul_one]; omega)).2
              generalize wr.drewN nq = w8 at HM7 hB7 z1 z2 zm fm ⊢
              have HM8 := hide (Row.set1 HM7.out p (by rw [cnts_len]; exact hpn) ((cp : Int) + 1))
              have hB8 := hB7.setCell (p := ⟨w2.heap.size, p, none⟩) (Nat.le_refl _) (.int .i64 ((cp : Int) + 1))
              have y1 : (w8.setCell ⟨w2.heap.size, p, none⟩ (.int .i64 ((cp : Int) + 1))).cell? ⟨g1, 0, none⟩ = some (.int .u64 hpi) := (World.cell?_of_block (a := ⟨g1, 0, none⟩) (Below.heap_setCell _ _ _ g1 (by show g1 ≠ w2.heap.size; omega))).trans z1
              have y2 : (w8.setCell ⟨w2.heap.size, p, none⟩ (.int .i64 ((cp : Int) + 1))).cell? ⟨g2, 0, none⟩ = some (.int .i64 (p : Int)) := (World.cell?_of_block (a := ⟨g2, 0, none⟩) (Below.heap_setCell _ _ _ g2 (by show g2 ≠ w2.heap.size; omega))).trans z2
              rw [← HCS.out] at HM8
              clear hd d1 d2 dm HMR hbel
              generalize hcz : (cp : Int) + 1 = cz at *
              have hcw := HCW.out
              go_wp2
              clear hcw HCW hcz
              exact ⟨⟨1, true, (p : Int), by omega, rfl, rfl, rfl, HM8.out, hB8, HNX.out⟩, by simp [intOf]; omega⟩
          · as_aux_lemma =>
              have HV := hide hV
              clear hV H3
              have HNX := hide (show (false : Bool) = decide (fstHi hh l < 1) ∧ V = ((l.getD (if fstHi hh l < 1 then fstHi hh l else 0) (0, 0)).1 : Int) from ⟨by simp; omega, by rw [if_neg (by omega)]; exact HV.out⟩)
              have hge' : ¬ hh ≤ hpi := by have := HLO.out hf; omega
              clear HV hf HLO HHI HPREV HD0
              go_wp2_with fail
              refine wp_region_quiet_lit (by kernel_rfl) (by kernel_rfl) ?_
              refine QW.out ?_
              repeat (refine QW.step (fun K hK => ?_); go_simp; refine hK _ ?_; clear hK K)
              refine QW.nil ?_
              rintro w7 ⟨nq, rfl⟩
              have hd := below_draws wr.heap.size wr nq
              have HM7 := hide (HMR.out.below hd)
              have hB7 := hbel.trans (below_draws w2.heap.size wr nq)
              have z2 := (hd.cell (p := ⟨g2, 0, none⟩) hg2l).trans d2
              have z1 := (hd.cell (p := ⟨g1, 0, none⟩) hg1l).trans d1
              have zm := (hd.cell (p := ⟨w2.heap.size, p, none⟩) hgml).trans dm
              have fm := (HM7.out.there p (by rw [Nat.mul_one]; omega)).2
              generalize wr.drewN nq = w8 at HM7 hB7 z1 z2 zm fm ⊢
              have HM8 := hide (Row.set1 HM7.out p (by rw [cnts_len]; exact hpn) ((cp : Int) + 1))
              have hB8 := hB7.setCell (p := ⟨w2.heap.size, p, none⟩) (Nat.le_refl _) (.int .i64 ((cp : Int) + 1))
              have y1 : (w8.setCell ⟨w2.heap.size, p, none⟩ (.int .i64 ((cp : Int) + 1))).cell? ⟨g1, 0, none⟩ = some (.int .u64 hpi) := (World.cell?_of_block (a := ⟨g1, 0, none⟩) (Below.heap_setCell _ _ _ g1 (by show g1 ≠ w2.heap.size; omega))).trans z1
              have y2 : (w8.setCell ⟨w2.heap.size, p, none⟩ (.int .i64 ((cp : Int) + 1))).cell? ⟨g2, 0, none⟩ = some (.int .i64 (p : Int)) := (World.cell?_of_block (a := ⟨g2, 0, none⟩) (Below.heap_setCell _ _ _ g2 (by show g2 ≠ w2.heap.size; omega))).trans z2
              rw [← HCS.out] at HM8
              clear hd d1 d2 dm HMR hbel
              generalize hcz : (cp : Int) + 1 = cz at *
              have hcw := HCW.out
              go_wp2
              clear hcw HCW hcz
              exact ⟨⟨1, false, V, by omega, rfl, rfl, rfl, HM8.out, hB8, HNX.out⟩, by simp [intOf]; omega⟩
        · obtain ⟨k, hkd⟩ : ∃ k : Nat, (i : Int) - 1 = (k : Int) := ⟨i - 1, by omega⟩
          have hki : i - 1 = k := by omega
          have dpr := HD0.out hpos
          have hpr := HPREV.out hpos
          generalize hq : hp (l[i - 1]'(by omega)) = hpq at dpr hpr
          rw [hki] at dpr
          have hpr' : ¬ hpi < hpq := by omega
          have hpos' : (0 : Int) < (i : Int) := by omega
          have hdp : decide ((0 : Int) < (i : Int)) = true := decide_eq_true hpos'
          have hdq : decide (hpi < hpq) = false := decide_eq_false (by omega)
          have hk1 : (k : Int) < (l.length : Int) := by omega
          have HWR := hide (wr_facts hkd (by omega) (by omega))
          have hdn : decide (0 < i) = true := decide_eq_true hpos
          clear hki hq hpr HPREV HD0
          rcases H3.out with ⟨rfl, hV, hf⟩ | ⟨rfl, hV, hf⟩ | ⟨rfl, hV, hf⟩
          · as_aux_lemma =>
              have HV := hide hV
              clear hV H3
              have HNX := hide (show (true : Bool) = decide (fstHi hh l < i + 1) ∧ V = ((l.getD (if fstHi hh l < i + 1 then fstHi hh l else 0) (0, 0)).1 : Int) from ⟨by simp; omega, by rw [if_pos (by omega)]; exact HV.out⟩)
              clear HV hf HLO HHI
              obtain ⟨hw1, hwk, hwk'⟩ := HWR.out
              go_upto_region 13 with fail
              have hPS : PS g1 g2 i k hpq hpi (p : Int) wr wr := ⟨⟨⟨dpr, d1⟩, d2⟩, Below.refl _ _⟩
              go_region_held3 (PS g1 g2 i k hpq hpi (p : Int) wr) (first | with_reducible exact PS.drew (by assumption) | with_reducible assumption) (fail)
              clear hw1 hwk hwk' HWR
              have hd : Below wr.heap.size wr wr.drew := (Below.refl _ _).drew
              have HM7 := hide (HMR.out.below hd)
              have hB7 := hbel.drew
              have z2 : wr.drew.cell? ⟨g2, i, none⟩ = some (.int .i64 (p : Int)) := d2
              have z1 : wr.drew.cell? ⟨g1, i, none⟩ = some (.int .u64 hpi) := d1
              have zm : wr.drew.cell? ⟨w2.heap.size, p, none⟩ = some (.int .i64 (cp : Int)) := dm
              have fm := (HM7.out.there p (by rw [Nat.mul_one]; omega)).2
              clear hPS dpr
              generalize wr.drew = w8 at HM7 hB7 z1 z2 zm fm ⊢
              have HM8 := hide (Row.set1 HM7.out p (by rw [cnts_len]; exact hpn) ((cp : Int) + 1))
              have hB8 := hB7.setCell (p := ⟨w2.heap.size, p, none⟩) (Nat.le_refl _) (.int .i64 ((cp : Int) + 1))
              have y1 : (w8.setCell ⟨w2.heap.size, p, none⟩ (.int .i64 ((cp : Int) + 1))).cell? ⟨g1, i, none⟩ = some (.int .u64 hpi) := (World.cell?_of_block (a := ⟨g1, i, none⟩) (Below.heap_setCell _ _ _ g1 (by show g1 ≠ w2.heap.size; omega))).trans z1
              have y2 : (w8.setCell ⟨w2.heap.size, p, none⟩ (.int .i64 ((cp : Int) + 1))).cell? ⟨g2, i, none⟩ = some (.int .i64 (p : Int)) := (World.cell?_of_block (a := ⟨g2, i, none⟩) (Below.heap_setCell _ _ _ g2 (by show g2 ≠ w2.heap.size; omega))).trans z2
              rw [← HCS.out] at HM8
              clear hd d1 d2 dm HMR hbel
              generalize hcz : (cp : Int) + 1 = cz at *
              have hcw := HCW.out
              go_wp2
              clear hcw HCW hcz
              exact ⟨⟨i + 1, true, V, by omega, by simp, rfl, rfl, HM8.out, hB8, HNX.out⟩, by simp [intOf]; omega⟩
          · as_aux_lemma =>
              have HV := hide hV
              clear hV H3
              have HNX := hide (show (true : Bool) = decide (fstHi hh l < i + 1) ∧ (p : Int) = ((l.getD (if fstHi hh l < i + 1 then fstHi hh l else 0) (0, 0)).1 : Int) from ⟨by simp; omega, by rw [if_pos (by omega), hf]; exact HGD.out.symm⟩)
              have hge' : hh ≤ hpi := by have := HHI.out hf; omega
              clear HV hf HLO HHI
              obtain ⟨hw1, hwk, hwk'⟩ := HWR.out
              go_upto_region 13 with fail
              have hPS : PS g1 g2 i k hpq hpi (p : Int) wr wr := ⟨⟨⟨dpr, d1⟩, d2⟩, Below.refl _ _⟩
              go_region_held3 (PS g1 g2 i k hpq hpi (p : Int) wr) (first | with_reducible exact PS.drew (by assumption) | with_reducible assumption) (fail)
              clear hw1 hwk hwk' HWR
              have hd : Below wr.heap.size wr wr.drew := (Below.refl _ _).drew
              have HM7 := hide (HMR.out.below hd)
              have hB7 := hbel.drew
              have z2 : wr.drew.cell? ⟨g2, i, none⟩ = some (.int .i64 (p : Int)) := d2
              have z1 : wr.drew.cell? ⟨g1, i, none⟩ = some (.int .u64 hpi) := d1
              have zm : wr.drew.cell? ⟨w2.heap.size, p, none⟩ = some (.int .i64 (cp : Int)) := dm
              have fm := (HM7.out.there p (by rw [Nat.mul_one]; omega)).2
              clear hPS dpr
              generalize wr.drew = w8 at HM7 hB7 z1 z2 zm fm ⊢
              have HM8 := hide (Row.set1 HM7.out p (by rw [cnts_len]; exact hpn) ((cp : Int) + 1))
              have hB8 := hB7.setCell (p := ⟨w2.heap.size, p, none⟩) (Nat.le_refl _) (.int .i64 ((cp : Int) + 1))
              have y1 : (w8.setCell ⟨w2.heap.size, p, none⟩ (.int .i64 ((cp : Int) + 1))).cell? ⟨g1, i, none⟩ = some (.int .u64 hpi) := (World.cell?_of_block (a := ⟨g1, i, none⟩) (Below.heap_setCell _ _ _ g1 (by show g1 ≠ w2.heap.size; omega))).trans z1
              have y2 : (w8.setCell ⟨w2.heap.size, p, none⟩ (.int .i64 ((cp : Int) + 1))).cell? ⟨g2, i, none⟩ = some (.int .i64 (p : Int)) := (World.cell?_of_block (a := ⟨g2, i, none⟩) (Below.heap_setCell _ _ _ g2 (by show g2 ≠ w2.heap.size; omega))).trans z2
              rw [← HCS.out] at HM8
              clear hd d1 d2 dm HMR hbel
              generalize hcz : (cp : Int) + 1 = cz at *
              have hcw := HCW.out
              go_wp2
              clear hcw HCW hcz
              exact ⟨⟨i + 1, true, (p : Int), by omega, by simp, rfl, rfl, HM8.out, hB8, HNX.out⟩, by simp [intOf]; omega⟩
          · as_aux_lemma =>
              have HV := hide hV
              clear hV H3
              have HNX := hide (show (false : Bool) = decide (fstHi hh l < i + 1) ∧ V = ((l.getD (if fstHi hh l < i + 1 then fstHi hh l else 0) (0, 0)).1 : Int) from ⟨by simp; omega, by rw [if_neg (by omega)]; exact HV.out⟩)
              have hge' : ¬ hh ≤ hpi := by have := HLO.out hf; omega
              clear HV hf HLO HHI
              obtain ⟨hw1, hwk, hwk'⟩ := HWR.out
              go_upto_region 13 with fail
              have hPS : PS g1 g2 i k hpq hpi (p : Int) wr wr := ⟨⟨⟨dpr, d1⟩, d2⟩, Below.refl _ _⟩
              go_region_held3 (PS g1 g2 i k hpq hpi (p : Int) wr) (first | with_reducible exact PS.drew (by assumption) | with_reducible assumption) (fail)
              clear hw1 hwk hwk' HWR
              have hd : Below wr.heap.size wr wr.drew := (Below.refl _ _).drew
              have HM7 := hide (HMR.out.below hd)
              have hB7 := hbel.drew
              have z2 : wr.drew.cell? ⟨g2, i, none⟩ = some (.int .i64 (p : Int)) := d2
              have z1 : wr.drew.cell? ⟨g1, i, none⟩ = some (.int .u64 hpi) := d1
              have zm : wr.drew.cell? ⟨w2.heap.size, p, none⟩ = some (.int .i64 (cp : Int)) := dm
              have fm := (HM7.out.there p (by rw [Nat.mul_one]; omega)).2
              clear hPS dpr
              generalize wr.drew = w8 at HM7 hB7 z1 z2 zm fm ⊢
              have HM8 := hide (Row.set1 HM7.out p (by rw [cnts_len]; exact hpn) ((cp : Int) + 1))
              have hB8 := hB7.setCell (p := ⟨w2.heap.size, p, none⟩) (Nat.le_refl _) (.int .i64 ((cp : Int) + 1))
              have y1 : (w8.setCell ⟨w2.heap.size, p, none⟩ (.int .i64 ((cp : Int) + 1))).cell? ⟨g1, i, none⟩ = some (.int .u64 hpi) := (World.cell?_of_block (a := ⟨g1, i, none⟩) (Below.heap_setCell _ _ _ g1 (by show g1 ≠ w2.heap.size; omega))).trans z1
              have y2 : (w8.setCell ⟨w2.heap.size, p, none⟩ (.int .i64 ((cp : Int) + 1))).cell? ⟨g2, i, none⟩ = some (.int .i64 (p : Int)) := (World.cell?_of_block (a := ⟨g2, i, none⟩) (Below.heap_setCell _ _ _ g2 (by show g2 ≠ w2.heap.size; omega))).trans z2
              rw [← HCS.out] at HM8
              clear hd d1 d2 dm HMR hbel
              generalize hcz : (cp : Int) + 1 = cz at *
              have hcw := HCW.out
              go_wp2
              clear hcw HCW hcz
              exact ⟨⟨i + 1, false, V, by omega, by simp, rfl, rfl, HM8.out, hB8, HNX.out⟩, by simp [intOf]; omega⟩
      · have i1 : ¬ (i : Int) < (l.length : Int) := by omega
        have hil : i = l.length := by omega
        have HVE := hide (show V = ow ws hh by
          have e2 := HFV.out.2
          rw [hil] at e2
          have h1 := fstHi_le hh l
          have hlt2 : fstHi hh l % l.length < l.length := Nat.mod_lt _ hpl
          have h2 := (owns_sorted HR.out.2.2 hh0 hpl hlt2).ow
          rw [← h2, e2]
          by_cases e : fstHi hh l < l.length
          · rw [if_pos e]
            simp [List.getD_eq_getElem?_getD, e, Nat.mod_eq_of_lt e]
          · have e3 : fstHi hh l = l.length := by omega
            rw [if_neg e]
            simp [List.getD_eq_getElem?_getD, hpl, e3])
        have HCE := hide (fun c (hc : c < ws.length) => cnt_srt HR.out.2.2 hc (hM.each ws[c] (List.getElem_mem hc)).1)
        have HMF := hide (show Row wr ienc IntT 1 (.slice (some ⟨w2.heap.size, 0, none⟩) ws.length ws.length) (cnts ws.length l) by have := HMR.out; rw [hil, List.take_length] at this; exact this)
        have hBw : Below w.heap.size w wr := (hB2.trans (HB3.mono hB2.size)).trans (hbel.mono hB2.size)
        have HBW := hide hBw
        have hgm : w2.heap.size < wr.heap.size := (HMF.out.celled ienc_len 0 (by rw [cnts_len]; have := hM.n1; omega)).1
        have hOf := fun W (hb : Below w.heap.size w W) => of_ow a cap ws hM key (by omega) W (hl.below hb) (hT.below hb)
        rw [HHH.out] at hOf
        rw [← HVE.out] at hOf
        clear HMR hil HFV hbel HR2 HR HB3 hBw
        go_wp2
        go_loopw [102] (fun iv wq => ∃ c : Nat, c ≤ ws.length ∧ iv = .int .i64 c ∧ Below wr.heap.size wr wq) (fun iv _ => ws.length - (intOf iv).toNat)
        case atStart => exact ⟨0, Nat.zero_le _, rfl, Below.refl _ _⟩
        case round =>
          obtain ⟨c, hc, rfl, hbq⟩ := hrel
          have hBq := HBW.out.trans (hbq.mono HBW.out.size)
          by_cases hcl : c < ws.length
          · have j1 : (c : Int) < (ws.length : Int) := by omega
            have dm := (HMF.out.celled ienc_len c (by rw [cnts_len]; exact hcl)).2 0 _ rfl
            rw [Nat.mul_one, Nat.add_zero, cnts_at, HCE.out c hcl] at dm
            obtain ⟨bw, ow', rfl, hbw, hcw⟩ := (hl.below hBq).at ienc_len c hcl
            have dw := hcw 0 _ rfl
            rw [Nat.mul_one, Nat.add_zero] at dw
            rename_i wq
            have dm' := (hbq.cell (p := ⟨w2.heap.size, c, none⟩) hgm).trans dm
            generalize ws[c] = x at dm' dw
            clear dm hcw
            go_wp2_with fail
            refine wp_region_quiet_lit (by kernel_rfl) (by kernel_rfl) ?_
            refine QW.out ?_
            repeat (refine QW.step (fun K hK => ?_); go_simp; refine hK _ ?_; clear hK K)
            refine QW.nil ?_
            rintro w9 ⟨nq2, rfl⟩
            have hd := below_draws wr.heap.size wr nq2
            go_wp2
            exact ⟨⟨c + 1, by omega, by simp, hbq.trans (hd.mono hbq.size)⟩, by simp [intOf]; omega⟩
          · have j1 : ¬ (c : Int) < (ws.length : Int) := by omega
            go_wp2_with fail
            refine (hOf wr hBq).mono ?_
            rintro e w9 ⟨rfl, hb9⟩
            go_wp2
            go_ret
            exact ⟨by simp, hBq.trans (hb9.mono hBq.size)⟩
  · have hP := fun W (hb : Below w.heap.size w W) => points_no a cap ws hM W (hl.below hb) hn
    go_enter Tryd.func3, Tryd.ntmps3
    go_wp2_with (first | (go_at_call 7; refine (works_any w hT).mono ?_; rintro e w1 ⟨rfl, hb1⟩) | (go_at_call 8; refine (hP _ hb1).mono ?_; rintro e w2 ⟨rfl, hw2⟩; obtain rfl := hw2.symm))
    go_ret
    exact ⟨rfl, hb1⟩
end Go.Proofs.YtcmdglmcmifflaaDoor.Rg
