/- The document's answer for rings: All, the walk. -/
import Derived.Test.YtcmdglmcmifflaaDoorRfAll
import Derived.Test.YtcmdglmcmifflaaDoorGQuiet
namespace Go.Proofs.YtcmdglmcmifflaaDoor.Rf
open Go.RowKit Go.Joins Gk Rg

theorem own_base {w : World} {B e k m : Nat} {v : Value} {l : List Value} (h : w.ownsRow B e k v m l) {g : Nat} (hg : v.ownBlock = some g) : B ≤ g := by
  rcases h.2 with ⟨e1, _⟩ | ⟨g', _, _, e1, hb, _⟩
  · subst e1; cases hg
  · subst e1; cases hg; exact hb
theorem own_two {w : World} {B e k n c m : Nat} {a : Option Addr} {l : List Value} (h : w.ownsRow B e k (.slice a n c) m l) : (a = none ∧ n = 0 ∧ c = 0) ∨ ∃ g, a = some ⟨g, 0, none⟩ ∧ n ≤ c := by
  rcases h.2 with ⟨e1, _⟩ | ⟨g, _, _, e1, _, _, h1, _⟩
  · cases e1; exact Or.inl ⟨rfl, rfl, rfl⟩
  · cases e1; exact Or.inr ⟨g, rfl, h1⟩
theorem step_i (i : Nat) : Value.int IntKind.i64 ((i : Int) + 1) = Value.int IntKind.i64 ((i + 1 : Nat) : Int) := rfl
theorem step_n (i n : Nat) (h : i < n) : n - (intOf (Value.int IntKind.i64 ((i : Int) + 1))).toNat < n - (intOf (Value.int IntKind.i64 (i : Int))).toNat := by
  show n - ((i : Int) + 1).toNat < n - (i : Int).toNat
  omega
theorem step_w (k n : Nat) (h : k < n) (hn : n ≤ 1024) : wrap64 ((k : Int) + 1) = ((k + 1 : Nat) : Int) := by unfold wrap64; omega
theorem step_v (k n : Nat) (h : k < n) (hn : n ≤ 1024) : Value.int IntKind.i64 (wrap64 ((k : Int) + 1)) = Value.int IntKind.i64 ((k + 1 : Nat) : Int) := by rw [step_w k n h hn]
theorem step_m (k n : Nat) (h : k < n) (hn : n ≤ 1024) : n + 1 - (intOf (Value.int IntKind.i64 (wrap64 ((k : Int) + 1)))).toNat < n + 1 - (intOf (Value.int IntKind.i64 (k : Int))).toNat := by
  rw [step_w k n h hn]
  show n + 1 - ((k + 1 : Nat) : Int).toNat < n + 1 - (k : Int).toNat
  omega

set_option maxHeartbeats 6400000 in
set_option maxRecDepth 100000 in
theorem all_ref (a : Option Addr) (cap : Nat) (ws : List Int) (hM : May ws) (w : World) (hl : Lies w ienc a ws) :
    Calls Tryd.prog 55 #[.slice a ws.length cap] w fun e w' => ∃ v, e = .returned v ∧ w'.ownsRow w.heap.size PoT 2 v (insAll (pts ws)).length (rc penc2 (insAll (pts ws))) ∧ Below w.heap.size w w' := by
  have mixed : Tryd.prog.follows .mixedOrders = true := by kernel_rfl
  have hn8 := hM.n2
  go_enter Tryd.func55, Tryd.ntmps55
  go_wp2
  go_loopw [3, 4] (fun v iv wr => ∃ (c : Nat) (o : List Pt), c ≤ ws.length ∧ iv = .int .i64 c ∧ (∃ n1, n1 = o.length ∧ wr.ownsRow w.heap.size PoT 2 v n1 (rc penc2 o)) ∧ Below w.heap.size w wr ∧ Hid (o = insAll (ptsN ws c))) (fun _ iv _ => ws.length - (intOf iv).toNat)
  case atStart => exact ⟨0, [], Nat.zero_le _, rfl, ⟨0, rfl, World.ownsRow_nil _ _ _ _⟩, Below.refl _ _, rfl⟩
  case round =>
    obtain ⟨c, o, hc, rfl, ⟨n1, rfl, hown⟩, hB, HE⟩ := hrel
    obtain ⟨ao, co, rfl⟩ := own_slice hown
    have HO := hide hown
    clear hown
    by_cases hlt : c < ws.length
    · have i1 : (c : Int) < (ws.length : Int) := by omega
      have HV := hide (hM.each ws[c] (List.getElem_mem hlt))
      have HG := hide (show ws.getD c 0 = ws[c] by simp [List.getD_eq_getElem?_getD, hlt])
      obtain ⟨y, hy⟩ : ∃ y, ws[c] = y := ⟨_, rfl⟩
      rw [hy] at HV HG
      have HY := hide hy
      clear hy
      go_wp2
      go_loopw [3, 5] (fun v iv wr => ∃ (i : Nat) (o : List Pt), i ≤ y.toNat ∧ iv = .int .i64 i ∧ (∃ n1, n1 = o.length ∧ wr.ownsRow w.heap.size PoT 2 v n1 (rc penc2 o)) ∧ Below w.heap.size w wr ∧ Hid (o = insAll (ptsN ws c ++ ptsC c i))) (fun _ iv _ => y.toNat - (intOf iv).toNat)
      case atStart => exact ⟨0, o, Nat.zero_le _, rfl, ⟨_, rfl, HO.out⟩, hB, by show o = _; rw [HE.out]; simp [ptsC]⟩
      case round =>
        clear HO HE hB
        obtain ⟨i, q, hi, rfl, ⟨n1, rfl, hown⟩, hB, HE⟩ := hrel
        obtain ⟨aq, cq, rfl⟩ := own_slice hown
        have HO := hide hown
        clear hown
        obtain ⟨bw, ofw, rfl, hbw, hcw⟩ := (hl.below hB).at ienc_len c hlt
        have dw := hcw 0 _ rfl
        rw [Nat.mul_one, Nat.add_zero, HY.out] at dw
        clear hcw
        by_cases hil : i < y.toNat
        · have i2 : (i : Int) < y := by omega
          have hy128 := HV.out.2
          have hd1 := fun W => digits_ref c (by omega) W
          have hd2 := fun W => digits_ref i (by omega) W
          have hts : (((⟨(Lib.decDigits c).toArray⟩ : ByteArray) ++ ⟨#[46]⟩) ++ ⟨(Lib.decDigits i).toArray⟩).data.toList = ptText c ++ Lib.decDigits i := by simp [ptText]
          have hlc := dec_len c (by omega)
          have hli := dec_len i (by omega)
          have hhs := fun W => hash_ref (((⟨(Lib.decDigits c).toArray⟩ : ByteArray) ++ ⟨#[46]⟩) ++ ⟨(Lib.decDigits i).toArray⟩) W (by rw [ByteArray.size_append, ByteArray.size_append]; show (Lib.decDigits c).toArray.size + 1 + (Lib.decDigits i).toArray.size ≤ _; simp; omega)
          rw [hts, show hashL (ptText c ++ Lib.decDigits i) = hp (c, i) from rfl] at hhs
          have hz1 : (⟨(Lib.decDigits c).toArray⟩ : ByteArray).size ≤ 3 := by show (Lib.decDigits c).toArray.size ≤ 3; simpa using hlc
          have hz2 : (⟨(Lib.decDigits i).toArray⟩ : ByteArray).size ≤ 3 := by show (Lib.decDigits i).toArray.size ≤ 3; simpa using hli
          generalize (⟨(Lib.decDigits c).toArray⟩ : ByteArray) = S1 at hd1 hhs hz1
          generalize (⟨(Lib.decDigits i).toArray⟩ : ByteArray) = S2 at hd2 hhs hz2
          have hl1 : S1.size + 1 ≤ 9223372036854775807 := by omega
          have hl2 : S1.size + 1 + S2.size ≤ 9223372036854775807 := by omega
          clear hts hlc hli
          go_wp2_with fail
          refine (hd1 wr).mono ?_
          rintro e w1 ⟨rfl, hb1⟩
          go_wp2_with fail
          refine (hd2 w1).mono ?_
          rintro e w2 ⟨rfl, hb2⟩
          go_wp2_with fail
          refine (hhs w2).mono ?_
          rintro e w3 ⟨rfl, hw3⟩
          obtain rfl := hw3.symm
          have hbq : Below wr.heap.size wr w2 := hb1.trans (hb2.mono hb1.size)
          replace hB := hB.trans (hbq.mono hB.size)
          replace HO := hide (own_below HO.out hbq)
          clear hb1 hb2 hbq hd1 hd2 hhs hl1 hl2 hz1 hz2 dw hbw
          have HNX := hide (show ins (c, i) q = insAll (ptsN ws c ++ ptsC c (i + 1)) by rw [ptsC_succ, ← List.append_assoc, insAll_snoc, HE.out])
          have HQL := hide (show q.length ≤ 1024 by
            rw [HE.out, insAll_len]
            have hpre : ptsN ws c ++ ptsC c i <+: pts ws := by
              refine List.IsPrefix.trans ?_ (ptsN_pre ws (k := c + 1) (n := ws.length) (by omega))
              rw [ptsN, HG.out, List.prefix_append_right_inj]
              exact ptsC_pre c hi
            exact Nat.le_trans hpre.length_le (length_pts_le hM))
          obtain ⟨P, hP⟩ : ∃ P : Pt, (c, i) = P := ⟨_, rfl⟩
          have HP1 := hide (show P.1 = c by rw [← hP])
          rw [hP] at HNX ⊢
          clear hP
          have hbp := heap_alloc_new w2 (.cells #[.int .u64 (hp P), .int .i64 (c : Int)] PoT)
          have HO3 := hide (own_below HO.out (below_alloc1 w2 (.cells #[.int .u64 (hp P), .int .i64 (c : Int)] PoT)))
          have hB3 := hB.alloc hB.size (.cells #[.int .u64 (hp P), .int .i64 (c : Int)] PoT)
          go_wp2
          obtain ⟨W3, hW3⟩ : ∃ W3, w2.alloc (.cells #[.int .u64 (hp P), .int .i64 (c : Int)] PoT) = W3 := ⟨_, rfl⟩
          rw [hW3] at hbp HO3 hB3 ⊢
          have hbpl : w2.heap.size < W3.heap.size := (Array.getElem?_eq_some_iff.1 hbp).1
          clear hW3 HO hB
          go_loopw [7] (fun iv wr => ∃ k : Nat, k ≤ inAt P q ∧ iv = .int .i64 k ∧ Below W3.heap.size W3 wr) (fun iv _ => q.length + 1 - (intOf iv).toNat)
          case atStart => exact ⟨0, Nat.zero_le _, rfl, Below.refl _ _⟩
          case round =>
            obtain ⟨k, hk, rfl, hbk⟩ := hrel
            have hqi := inAt_le P q
            have hbp' := (hbk.block w2.heap.size hbpl).trans hbp
            have dp : wr.cell? ⟨w2.heap.size, 0, none⟩ = some (.int .u64 (hp P)) := by rw [cell_of_block hbp']; rfl
            have dpc : wr.cell? ⟨w2.heap.size, 1, none⟩ = some (.int .i64 (c : Int)) := by rw [cell_of_block hbp']; rfl
            clear hbp'
            by_cases hki : k < inAt P q
            · have hkq : k < q.length := by omega
              have j1 : (k : Int) < (q.length : Int) := by omega
              have jd : decide ((k : Int) < (q.length : Int)) = true := decide_eq_true j1
              obtain ⟨gq, cq', eq, hgq, hcq⟩ := Row.at (own_mono (own_below HO3.out hbk) (Nat.zero_le _) : Row wr penc2 PoT 2 (.slice aq q.length cq) q) penc2_len k hkq
              cases eq
              have dq := hcq 0 _ rfl
              rw [Nat.add_zero] at dq
              have hle := inAt_lo P q k hkq hki
              generalize hp q[k] = x at dq hle
              generalize hp P = hP at dp hle
              have hled : decide (x ≤ hP) = true := decide_eq_true hle
              clear hcq
              go_wp2_with fail
              refine wp_region_quiet_lit (by kernel_rfl) (by kernel_rfl) ?_
              refine QW.out ?_
              repeat (refine QW.step (fun K hK => ?_); go_simp; refine hK _ ?_; clear hK K)
              refine QW.nil ?_
              rintro w7 ⟨nq, rfl⟩
              have hd := below_draws W3.heap.size wr nq
              have hb7 := hbk.trans hd
              clear dq dp dpc hle hled hd
              generalize wr.drewN nq = w8 at hb7 ⊢
              go_wp2_with fail
              exact ⟨⟨k + 1, hki, step_v k q.length hkq HQL.out, hb7⟩, step_m k q.length hkq HQL.out⟩
            · have HK := hide (show k = inAt P q by omega)
              have hkl : k ≤ q.length := by omega
              by_cases hkq : k < q.length
              · have j1 : (k : Int) < (q.length : Int) := by omega
                have jd : decide ((k : Int) < (q.length : Int)) = true := decide_eq_true j1
                obtain ⟨gq, cq', eq, hgq, hcq⟩ := Row.at (own_mono (own_below HO3.out hbk) (Nat.zero_le _) : Row wr penc2 PoT 2 (.slice aq q.length cq) q) penc2_len k hkq
                cases eq
                have dq := hcq 0 _ rfl
                rw [Nat.add_zero] at dq
                have hgt := inAt_hi P q (by have := HK.out; omega)
                have hgt' : ¬ hp q[k] ≤ hp P := by have h := HK.out; subst h; omega
                generalize hp q[k] = x at dq hgt'
                have hled : decide (x ≤ hp P) = false := decide_eq_false hgt'
                clear hcq hgt
                go_wp2_with fail
                refine wp_region_quiet_lit (by kernel_rfl) (by kernel_rfl) ?_
                refine QW.out ?_
                repeat (refine QW.step (fun K hK => ?_); go_simp; refine hK _ ?_; clear hK K)
                refine QW.nil ?_
                rintro w7 ⟨nq, rfl⟩
                have hd := below_draws W3.heap.size wr nq
                have hb7 := hbk.trans hd
                clear dq dp dpc
                generalize wr.drewN nq = w8 at hb7 ⊢
                clear hbk hd
                have hb8 : Below w.heap.size w w8 := hB3.trans (hb7.mono hB3.size)
                have HR8 := hide (own_mono (own_below HO3.out hb7) (Nat.zero_le _) : Row w8 penc2 PoT 2 (.slice (some ⟨gq, 0, none⟩) q.length cq) q)
                have hcq : q.length ≤ cq := own_room HR8.out
                have HP8 := hide ((hb7.block w2.heap.size hbpl).trans hbp)
                have hl51 : Lies w8 penc2 (some ⟨gq, 0, none⟩) (q.take k) := Row.lies (Row.take HR8.out penc2_len k hkl)
                have hl60 : Lies w8 penc2 (some ⟨gq, k * 2, none⟩) (q.drop k) := Row.drop HR8.out penc2_len k hkl
                have HINS := hide (show q.take k ++ [P] ++ q.drop k = ins P q by rw [ins, ← HK.out])
                obtain ⟨T, hT⟩ : ∃ T, q.take k = T := ⟨_, rfl⟩
                have HTL := hide (show T.length = k by rw [← hT, List.length_take]; omega)
                obtain ⟨R, hR⟩ : ∃ R, q.drop k = R := ⟨_, rfl⟩
                have HRL := hide (show R.length = q.length - k by rw [← hR, List.length_drop])
                rw [hT] at hl51 HINS
                rw [hR] at hl60 HINS
                have hq1 := HQL.out
                have s1 : (0 : Int) ≤ (k : Int) := by omega
                have s2 : (k : Int) ≤ (cq : Int) := by omega
                have s3 : (k : Int) ≤ (q.length : Int) := by omega
                have s4 : ¬ cq = k := by omega
                have s5 : (q.length : Int) ≤ (cq : Int) := by omega
                have hTl := HTL.out
                have hRl := HRL.out
                have cP0 : w8.cell? ⟨w2.heap.size, 0, none⟩ = some (.int .u64 (hp P)) := by rw [cell_of_block HP8.out]; rfl
                have cP1 : w8.cell? ⟨w2.heap.size, 1, none⟩ = some (.int .i64 (c : Int)) := by rw [cell_of_block HP8.out]; rfl
                have hbl2 : w2.heap.size < w8.heap.size := Nat.lt_of_lt_of_le hbpl hb7.size
                clear hT hR hTl hRl
                have HPE := hide (show penc2 P = [.int .u64 (hp P), .int .i64 (c : Int)] by rw [penc2, HP1.out])
                obtain ⟨L5, HL5⟩ : ∃ L5, Hid (L5 = T ++ [P]) := ⟨_, hide rfl⟩
                obtain ⟨L6, HL6⟩ : ∃ L6, Hid (L6 = L5 ++ R) := ⟨_, hide rfl⟩
                have HN6 := hide (show L6 = ins P q by rw [HL6.out, HL5.out]; exact HINS.out)
                have hkm : T.length ≤ 1024 := by rw [HTL.out]; omega
                have hrm : R.length ≤ 1024 := by rw [HRL.out]; omega
                have h5m : L5.length ≤ 1025 := by rw [HL5.out, List.length_append, List.length_singleton]; omega
                go_wp2_with (first | (at_builtin; refine wpList_append_row (enc := penc2) (k := 2) rfl (.tmp 48) (.tmp 51) 88 rfl PoT (.agg #[.int .u64 0, .int .i64 0]) 16 Tryd.underlying88 po_info rfl (by decide) penc2_len penc2_one w8.heap.size _ [] rfl (World.ownsRow_nil _ _ _ _) _ T _ _ rfl HTL.out.symm hl51 (by intro e; first | rfl | cases e) (by simp only [List.length_nil]; omega) (by simp only [List.length_nil]; omega) (Nat.le_refl _) ?_; intro v4 w4 hown4 hg4 hat4; rw [List.nil_append] at hown4; obtain ⟨a4, c4, rfl⟩ := own_slice hown4; have H4 := hide hown4; have B4 := (Below.refl w8.heap.size w8).grown hg4 (Nat.le_refl _) (fun k e => by cases e); have cP0' := (B4.cell (p := ⟨w2.heap.size, 0, none⟩) hbl2).trans cP0; have cP1' := (B4.cell (p := ⟨w2.heap.size, 1, none⟩) hbl2).trans cP1; clear hown4 hg4 hat4 cP0 cP1) | (at_builtin; refine wpList_push (enc := penc2) (k := 2) rfl (.tmp 53) (.tmp 55) 88 rfl PoT (.agg #[.int .u64 0, .int .i64 0]) 16 Tryd.underlying88 po_info rfl (by decide) penc2_len penc2_one w8.heap.size _ T rfl (own_below H4.out (below_alloc1 w4 _)) w4.heap.size P rfl (by rw [HPE.out]; exact heap_alloc_new w4 _) (by omega) (by omega) (Nat.le_trans B4.size (by simp)) ?_; intro v5 w5 hown5 hg5 hat5; have B5 := (B4.alloc B4.size _).grown hg5 (Nat.le_trans B4.size (by simp)) (fun g e => own_base H4.out e); rw [← HL5.out] at hown5; obtain ⟨a5, c5, rfl⟩ := own_slice hown5; have H5 := hide hown5; clear hown5 hg5 hat5 H4 cP0' cP1') | (at_builtin; refine wpList_append_row (enc := penc2) (k := 2) rfl (.tmp 57) (.tmp 60) 88 rfl PoT (.agg #[.int .u64 0, .int .i64 0]) 16 Tryd.underlying88 po_info rfl (by decide) penc2_len penc2_one w8.heap.size _ L5 rfl H5.out _ R _ _ rfl (by first | exact HRL.out.symm | (rw [HR0.out]; rfl) | (rw [HR0.out]; simp)) (by first | exact hl60.below B5 | exact Or.inl HR0.out) (by intro e; first | rfl | cases e) (by omega) (by omega) B5.size ?_; intro v6 w6 hown6 hg6 hat6; have B6 := B5.grown hg6 B5.size (fun g e => own_base H5.out e); rw [← HL6.out] at hown6; obtain ⟨a6, c6, rfl⟩ := own_slice hown6; have H6 := hide hown6; clear hown6 hg6 hat6 H5) | fail)
                exact ⟨⟨i + 1, L6, hil, step_i i, ⟨_, rfl, own_mono H6.out hb8.size⟩, hb8.trans (B6.mono hb8.size), HN6.out.trans HNX.out⟩, step_n i y.toNat hil⟩
              · have HKQ := hide (show k = q.length by omega)
                have j1 : ¬ (k : Int) < (q.length : Int) := by omega
                have jd : decide ((k : Int) < (q.length : Int)) = false := decide_eq_false j1
                rcases own_two (own_below HO3.out hbk) with ⟨rfl, hq0, rfl⟩ | ⟨gq, rfl, hcq⟩
                · obtain rfl : k = 0 := HKQ.out.trans hq0
                  clear HKQ hkq hki hk hqi hkl
                  go_wp2_with fail
                  refine wp_region_quiet_lit (by kernel_rfl) (by kernel_rfl) ?_
                  refine QW.out ?_
                  repeat (refine QW.step (fun K hK => ?_); go_simp; refine hK _ ?_; clear hK K)
                  refine QW.nil ?_
                  rintro w7 ⟨nq, rfl⟩
                  have hd := below_draws W3.heap.size wr nq
                  have hb7 := hbk.trans hd
                  clear dp dpc
                  generalize wr.drewN nq = w8 at hb7 ⊢
                  clear hbk hd
                  have hb8 : Below w.heap.size w w8 := hB3.trans (hb7.mono hB3.size)
                  have HP8 := hide ((hb7.block w2.heap.size hbpl).trans hbp)
                  obtain ⟨R, hR⟩ : ∃ R : List Pt, R = [] := ⟨_, rfl⟩
                  have HR0 := hide hR
                  clear hR
                  have cP0 : w8.cell? ⟨w2.heap.size, 0, none⟩ = some (.int .u64 (hp P)) := by rw [cell_of_block HP8.out]; rfl
                  have cP1 : w8.cell? ⟨w2.heap.size, 1, none⟩ = some (.int .i64 (c : Int)) := by rw [cell_of_block HP8.out]; rfl
                  have hbl2 : w2.heap.size < w8.heap.size := Nat.lt_of_lt_of_le hbpl hb7.size
                  have hq1 := HQL.out
                  have hq0' : q = [] := List.eq_nil_of_length_eq_zero hq0
                  obtain ⟨T, hT⟩ : ∃ T : List Pt, [] = T := ⟨_, rfl⟩
                  have HINS := hide (show T ++ [P] ++ R = ins P q by rw [← hT, HR0.out, ins, hq0']; simp)
                  have HTL := hide (show T.length = 0 by rw [← hT]; rfl)
                  have HRL := hide (show R.length = 0 by rw [HR0.out]; rfl)
                  have hl51 : Lies w8 penc2 none T := Or.inl hT.symm
                  clear hT hq0'
                  have HPE := hide (show penc2 P = [.int .u64 (hp P), .int .i64 (c : Int)] by rw [penc2, HP1.out])
                  obtain ⟨L5, HL5⟩ : ∃ L5, Hid (L5 = T ++ [P]) := ⟨_, hide rfl⟩
                  obtain ⟨L6, HL6⟩ : ∃ L6, Hid (L6 = L5 ++ R) := ⟨_, hide rfl⟩
                  have HN6 := hide (show L6 = ins P q by rw [HL6.out, HL5.out]; exact HINS.out)
                  have hkm : T.length ≤ 1024 := by rw [HTL.out]; omega
                  have hrm : R.length ≤ 1024 := by rw [HRL.out]; omega
                  have h5m : L5.length ≤ 1025 := by rw [HL5.out, List.length_append, List.length_singleton]; omega
                  go_wp2_with (first | (at_builtin; refine wpList_append_row (enc := penc2) (k := 2) rfl (.tmp 48) (.tmp 51) 88 rfl PoT (.agg #[.int .u64 0, .int .i64 0]) 16 Tryd.underlying88 po_info rfl (by decide) penc2_len penc2_one w8.heap.size _ [] rfl (World.ownsRow_nil _ _ _ _) _ T _ _ rfl HTL.out.symm hl51 (by intro e; first | rfl | cases e) (by simp only [List.length_nil]; omega) (by simp only [List.length_nil]; omega) (Nat.le_refl _) ?_; intro v4 w4 hown4 hg4 hat4; rw [List.nil_append] at hown4; obtain ⟨a4, c4, rfl⟩ := own_slice hown4; have H4 := hide hown4; have B4 := (Below.refl w8.heap.size w8).grown hg4 (Nat.le_refl _) (fun k e => by cases e); have cP0' := (B4.cell (p := ⟨w2.heap.size, 0, none⟩) hbl2).trans cP0; have cP1' := (B4.cell (p := ⟨w2.heap.size, 1, none⟩) hbl2).trans cP1; clear hown4 hg4 hat4 cP0 cP1) | (at_builtin; refine wpList_push (enc := penc2) (k := 2) rfl (.tmp 53) (.tmp 55) 88 rfl PoT (.agg #[.int .u64 0, .int .i64 0]) 16 Tryd.underlying88 po_info rfl (by decide) penc2_len penc2_one w8.heap.size _ T rfl (own_below H4.out (below_alloc1 w4 _)) w4.heap.size P rfl (by rw [HPE.out]; exact heap_alloc_new w4 _) (by omega) (by omega) (Nat.le_trans B4.size (by simp)) ?_; intro v5 w5 hown5 hg5 hat5; have B5 := (B4.alloc B4.size _).grown hg5 (Nat.le_trans B4.size (by simp)) (fun g e => own_base H4.out e); rw [← HL5.out] at hown5; obtain ⟨a5, c5, rfl⟩ := own_slice hown5; have H5 := hide hown5; clear hown5 hg5 hat5 H4 cP0' cP1') | (at_builtin; refine wpList_append_row (enc := penc2) (k := 2) rfl (.tmp 57) (.tmp 60) 88 rfl PoT (.agg #[.int .u64 0, .int .i64 0]) 16 Tryd.underlying88 po_info rfl (by decide) penc2_len penc2_one w8.heap.size _ L5 rfl H5.out _ R _ _ rfl (by first | exact HRL.out.symm | (rw [HR0.out]; rfl) | (rw [HR0.out]; simp)) (by first | exact hl60.below B5 | exact Or.inl HR0.out) (by intro e; first | rfl | cases e) (by omega) (by omega) B5.size ?_; intro v6 w6 hown6 hg6 hat6; have B6 := B5.grown hg6 B5.size (fun g e => own_base H5.out e); rw [← HL6.out] at hown6; obtain ⟨a6, c6, rfl⟩ := own_slice hown6; have H6 := hide hown6; clear hown6 hg6 hat6 H5) | fail)
                  exact ⟨⟨i + 1, L6, hil, step_i i, ⟨_, rfl, own_mono H6.out hb8.size⟩, hb8.trans (B6.mono hb8.size), HN6.out.trans HNX.out⟩, step_n i y.toNat hil⟩
                · by_cases s4 : cq = k
                  · have s4' := s4.symm
                    clear s4
                    subst s4'
                    go_wp2_with fail
                    refine wp_region_quiet_lit (by kernel_rfl) (by kernel_rfl) ?_
                    refine QW.out ?_
                    repeat (refine QW.step (fun K hK => ?_); go_simp; refine hK _ ?_; clear hK K)
                    refine QW.nil ?_
                    rintro w7 ⟨nq, rfl⟩
                    have hd := below_draws W3.heap.size wr nq
                    have hb7 := hbk.trans hd
                    clear dp dpc
                    generalize wr.drewN nq = w8 at hb7 ⊢
                    clear hbk hd
                    have hb8 : Below w.heap.size w w8 := hB3.trans (hb7.mono hB3.size)
                    have HP8 := hide ((hb7.block w2.heap.size hbpl).trans hbp)
                    have HR8 := hide (own_mono (own_below HO3.out hb7) (Nat.zero_le _) : Row w8 penc2 PoT 2 (.slice (some ⟨gq, 0, none⟩) q.length k) q)
                    have hl51 : Lies w8 penc2 (some ⟨gq, 0, none⟩) q := Row.lies HR8.out
                    obtain ⟨R, hR⟩ : ∃ R : List Pt, R = [] := ⟨_, rfl⟩
                    have HR0 := hide hR
                    clear hR
                    have cP0 : w8.cell? ⟨w2.heap.size, 0, none⟩ = some (.int .u64 (hp P)) := by rw [cell_of_block HP8.out]; rfl
                    have cP1 : w8.cell? ⟨w2.heap.size, 1, none⟩ = some (.int .i64 (c : Int)) := by rw [cell_of_block HP8.out]; rfl
                    have hbl2 : w2.heap.size < w8.heap.size := Nat.lt_of_lt_of_le hbpl hb7.size
                    have hq1 := HQL.out
                    have HINS := hide (show q ++ [P] ++ R = ins P q by rw [HR0.out, ins, ← HK.out, HKQ.out, List.take_length, List.drop_length])
                    obtain ⟨T, hT⟩ : ∃ T, q = T := ⟨_, rfl⟩
                    have HTL := hide (show T.length = k by rw [← hT]; exact HKQ.out.symm)
                    have HRL := hide (show R.length = q.length - k by rw [HR0.out, HKQ.out]; simp)
                    rw [show (q ++ [P] ++ R) = T ++ [P] ++ R by rw [hT]] at HINS
                    have hl51' : Lies w8 penc2 (some ⟨gq, 0, none⟩) T := by rw [← hT]; exact hl51
                    have s1 : (0 : Int) ≤ (k : Int) := by omega
                    have s2 : (k : Int) ≤ (k : Int) := by have := HKQ.out; omega
                    have s3 : (k : Int) ≤ (q.length : Int) := by have := HKQ.out; omega
                    have s5 : (q.length : Int) ≤ (k : Int) := by omega
                    clear hT hl51 hkq hki hk hqi
                    have HPE := hide (show penc2 P = [.int .u64 (hp P), .int .i64 (c : Int)] by rw [penc2, HP1.out])
                    obtain ⟨L5, HL5⟩ : ∃ L5, Hid (L5 = T ++ [P]) := ⟨_, hide rfl⟩
                    obtain ⟨L6, HL6⟩ : ∃ L6, Hid (L6 = L5 ++ R) := ⟨_, hide rfl⟩
                    have HN6 := hide (show L6 = ins P q by rw [HL6.out, HL5.out]; exact HINS.out)
                    have hkm : T.length ≤ 1024 := by rw [HTL.out]; omega
                    have hrm : R.length ≤ 1024 := by rw [HRL.out]; omega
                    have h5m : L5.length ≤ 1025 := by rw [HL5.out, List.length_append, List.length_singleton]; omega
                    go_wp2_with (first | (at_builtin; refine wpList_append_row (enc := penc2) (k := 2) rfl (.tmp 48) (.tmp 51) 88 rfl PoT (.agg #[.int .u64 0, .int .i64 0]) 16 Tryd.underlying88 po_info rfl (by decide) penc2_len penc2_one w8.heap.size _ [] rfl (World.ownsRow_nil _ _ _ _) _ T _ _ rfl HTL.out.symm hl51' (by intro e; first | rfl | cases e) (by simp only [List.length_nil]; omega) (by simp only [List.length_nil]; omega) (Nat.le_refl _) ?_; intro v4 w4 hown4 hg4 hat4; rw [List.nil_append] at hown4; obtain ⟨a4, c4, rfl⟩ := own_slice hown4; have H4 := hide hown4; have B4 := (Below.refl w8.heap.size w8).grown hg4 (Nat.le_refl _) (fun k e => by cases e); have cP0' := (B4.cell (p := ⟨w2.heap.size, 0, none⟩) hbl2).trans cP0; have cP1' := (B4.cell (p := ⟨w2.heap.size, 1, none⟩) hbl2).trans cP1; clear hown4 hg4 hat4 cP0 cP1) | (at_builtin; refine wpList_push (enc := penc2) (k := 2) rfl (.tmp 53) (.tmp 55) 88 rfl PoT (.agg #[.int .u64 0, .int .i64 0]) 16 Tryd.underlying88 po_info rfl (by decide) penc2_len penc2_one w8.heap.size _ T rfl (own_below H4.out (below_alloc1 w4 _)) w4.heap.size P rfl (by rw [HPE.out]; exact heap_alloc_new w4 _) (by omega) (by omega) (Nat.le_trans B4.size (by simp)) ?_; intro v5 w5 hown5 hg5 hat5; have B5 := (B4.alloc B4.size _).grown hg5 (Nat.le_trans B4.size (by simp)) (fun g e => own_base H4.out e); rw [← HL5.out] at hown5; obtain ⟨a5, c5, rfl⟩ := own_slice hown5; have H5 := hide hown5; clear hown5 hg5 hat5 H4 cP0' cP1') | (at_builtin; refine wpList_append_row (enc := penc2) (k := 2) rfl (.tmp 57) (.tmp 60) 88 rfl PoT (.agg #[.int .u64 0, .int .i64 0]) 16 Tryd.underlying88 po_info rfl (by decide) penc2_len penc2_one w8.heap.size _ L5 rfl H5.out _ R _ _ rfl (by first | exact HRL.out.symm | (rw [HR0.out]; rfl) | (rw [HR0.out]; simp)) (by first | exact hl60.below B5 | exact Or.inl HR0.out) (by intro e; first | rfl | cases e) (by omega) (by omega) B5.size ?_; intro v6 w6 hown6 hg6 hat6; have B6 := B5.grown hg6 B5.size (fun g e => own_base H5.out e); rw [← HL6.out] at hown6; obtain ⟨a6, c6, rfl⟩ := own_slice hown6; have H6 := hide hown6; clear hown6 hg6 hat6 H5) | fail)
                    exact ⟨⟨i + 1, L6, hil, step_i i, ⟨_, rfl, own_mono H6.out hb8.size⟩, hb8.trans (B6.mono hb8.size), HN6.out.trans HNX.out⟩, step_n i y.toNat hil⟩
                  · skip
                    go_wp2_with fail
                    refine wp_region_quiet_lit (by kernel_rfl) (by kernel_rfl) ?_
                    refine QW.out ?_
                    repeat (refine QW.step (fun K hK => ?_); go_simp; refine hK _ ?_; clear hK K)
                    refine QW.nil ?_
                    rintro w7 ⟨nq, rfl⟩
                    have hd := below_draws W3.heap.size wr nq
                    have hb7 := hbk.trans hd
                    clear dp dpc
                    generalize wr.drewN nq = w8 at hb7 ⊢
                    clear hbk hd
                    have hb8 : Below w.heap.size w w8 := hB3.trans (hb7.mono hB3.size)
                    have HP8 := hide ((hb7.block w2.heap.size hbpl).trans hbp)
                    have HR8 := hide (own_mono (own_below HO3.out hb7) (Nat.zero_le _) : Row w8 penc2 PoT 2 (.slice (some ⟨gq, 0, none⟩) q.length cq) q)
                    have hl51 : Lies w8 penc2 (some ⟨gq, 0, none⟩) q := Row.lies HR8.out
                    obtain ⟨R, hR⟩ : ∃ R : List Pt, R = [] := ⟨_, rfl⟩
                    have HR0 := hide hR
                    clear hR
                    have cP0 : w8.cell? ⟨w2.heap.size, 0, none⟩ = some (.int .u64 (hp P)) := by rw [cell_of_block HP8.out]; rfl
                    have cP1 : w8.cell? ⟨w2.heap.size, 1, none⟩ = some (.int .i64 (c : Int)) := by rw [cell_of_block HP8.out]; rfl
                    have hbl2 : w2.heap.size < w8.heap.size := Nat.lt_of_lt_of_le hbpl hb7.size
                    have hq1 := HQL.out
                    have HINS := hide (show q ++ [P] ++ R = ins P q by rw [HR0.out, ins, ← HK.out, HKQ.out, List.take_length, List.drop_length])
                    obtain ⟨T, hT⟩ : ∃ T, q = T := ⟨_, rfl⟩
                    have HTL := hide (show T.length = k by rw [← hT]; exact HKQ.out.symm)
                    have HRL := hide (show R.length = q.length - k by rw [HR0.out, HKQ.out]; simp)
                    rw [show (q ++ [P] ++ R) = T ++ [P] ++ R by rw [hT]] at HINS
                    have hl51' : Lies w8 penc2 (some ⟨gq, 0, none⟩) T := by rw [← hT]; exact hl51
                    have s1 : (0 : Int) ≤ (k : Int) := by omega
                    have s2 : (k : Int) ≤ (cq : Int) := by have := HKQ.out; omega
                    have s3 : (k : Int) ≤ (q.length : Int) := by have := HKQ.out; omega
                    have s5 : (q.length : Int) ≤ (cq : Int) := by omega
                    clear hT hl51 hkq hki hk hqi
                    have HPE := hide (show penc2 P = [.int .u64 (hp P), .int .i64 (c : Int)] by rw [penc2, HP1.out])
                    obtain ⟨L5, HL5⟩ : ∃ L5, Hid (L5 = T ++ [P]) := ⟨_, hide rfl⟩
                    obtain ⟨L6, HL6⟩ : ∃ L6, Hid (L6 = L5 ++ R) := ⟨_, hide rfl⟩
                    have HN6 := hide (show L6 = ins P q by rw [HL6.out, HL5.out]; exact HINS.out)
                    have hkm : T.length ≤ 1024 := by rw [HTL.out]; omega
                    have hrm : R.length ≤ 1024 := by rw [HRL.out]; omega
                    have h5m : L5.length ≤ 1025 := by rw [HL5.out, List.length_append, List.length_singleton]; omega
                    go_wp2_with (first | (at_builtin; refine wpList_append_row (enc := penc2) (k := 2) rfl (.tmp 48) (.tmp 51) 88 rfl PoT (.agg #[.int .u64 0, .int .i64 0]) 16 Tryd.underlying88 po_info rfl (by decide) penc2_len penc2_one w8.heap.size _ [] rfl (World.ownsRow_nil _ _ _ _) _ T _ _ rfl HTL.out.symm hl51' (by intro e; first | rfl | cases e) (by simp only [List.length_nil]; omega) (by simp only [List.length_nil]; omega) (Nat.le_refl _) ?_; intro v4 w4 hown4 hg4 hat4; rw [List.nil_append] at hown4; obtain ⟨a4, c4, rfl⟩ := own_slice hown4; have H4 := hide hown4; have B4 := (Below.refl w8.heap.size w8).grown hg4 (Nat.le_refl _) (fun k e => by cases e); have cP0' := (B4.cell (p := ⟨w2.heap.size, 0, none⟩) hbl2).trans cP0; have cP1' := (B4.cell (p := ⟨w2.heap.size, 1, none⟩) hbl2).trans cP1; clear hown4 hg4 hat4 cP0 cP1) | (at_builtin; refine wpList_push (enc := penc2) (k := 2) rfl (.tmp 53) (.tmp 55) 88 rfl PoT (.agg #[.int .u64 0, .int .i64 0]) 16 Tryd.underlying88 po_info rfl (by decide) penc2_len penc2_one w8.heap.size _ T rfl (own_below H4.out (below_alloc1 w4 _)) w4.heap.size P rfl (by rw [HPE.out]; exact heap_alloc_new w4 _) (by omega) (by omega) (Nat.le_trans B4.size (by simp)) ?_; intro v5 w5 hown5 hg5 hat5; have B5 := (B4.alloc B4.size _).grown hg5 (Nat.le_trans B4.size (by simp)) (fun g e => own_base H4.out e); rw [← HL5.out] at hown5; obtain ⟨a5, c5, rfl⟩ := own_slice hown5; have H5 := hide hown5; clear hown5 hg5 hat5 H4 cP0' cP1') | (at_builtin; refine wpList_append_row (enc := penc2) (k := 2) rfl (.tmp 57) (.tmp 60) 88 rfl PoT (.agg #[.int .u64 0, .int .i64 0]) 16 Tryd.underlying88 po_info rfl (by decide) penc2_len penc2_one w8.heap.size _ L5 rfl H5.out _ R _ _ rfl (by first | exact HRL.out.symm | (rw [HR0.out]; rfl) | (rw [HR0.out]; simp)) (by first | exact hl60.below B5 | exact Or.inl HR0.out) (by intro e; first | rfl | cases e) (by omega) (by omega) B5.size ?_; intro v6 w6 hown6 hg6 hat6; have B6 := B5.grown hg6 B5.size (fun g e => own_base H5.out e); rw [← HL6.out] at hown6; obtain ⟨a6, c6, rfl⟩ := own_slice hown6; have H6 := hide hown6; clear hown6 hg6 hat6 H5) | fail)
                    exact ⟨⟨i + 1, L6, hil, step_i i, ⟨_, rfl, own_mono H6.out hb8.size⟩, hb8.trans (B6.mono hb8.size), HN6.out.trans HNX.out⟩, step_n i y.toNat hil⟩
        · have i2 : ¬ (i : Int) < y := by have := HV.out; omega
          have HI := hide (show i = y.toNat by omega)
          have HN := hide (show q = insAll (ptsN ws (c + 1)) by rw [HE.out, ptsN, HG.out, HI.out])
          go_wp2_with fail
          exact ⟨⟨c + 1, q, hlt, step_i c, ⟨_, rfl, HO.out⟩, hB, HN⟩, step_n c ws.length hlt⟩
    · have i1 : ¬ (c : Int) < (ws.length : Int) := by omega
      have HC := hide (show c = ws.length by omega)
      have HN := hide (show o = insAll (pts ws) by rw [HE.out, HC.out]; rfl)
      clear hlt
      go_wp2
      refine bodyPost_ret (v := .slice ao o.length co) (by simp [results, Tryd.results55, go_sem]) rfl ⟨_, rfl, ?_, hB⟩
      rw [← HN.out]
      exact HO.out

end Go.Proofs.YtcmdglmcmifflaaDoor.Rf
