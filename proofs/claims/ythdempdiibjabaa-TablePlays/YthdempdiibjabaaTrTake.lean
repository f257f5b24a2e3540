/- Layer 9, the document's answer: MayRow, Take. -/
import Derived.Test.YthdempdiibjabaaTrRep
import Derived.Test.YthdempdiibjabaaOrMayT
import Derived.Test.YthdempdiibjabaaTbTk
namespace Go.Proofs.Ythdempdiibjabaa.Tr
open Go.RowKit Go.Joins Go.Proofs.Ythdempdiibjabaa.Gk Go.Proofs.Ythdempdiibjabaa.Oq Go.Proofs.Ythdempdiibjabaa.Sp Go.Proofs.Ythdempdiibjabaa.Tb

theorem okB_eq (r : Rw) : r.okB = (keyB r.key && decide (1 ≤ r.stamp) && decide (r.stamp ≤ 1099511627776) && decide ((r.val.size : Int) ≤ 4096)) := by
  unfold Rw.okB keyB within
  have e1 : decide ((1 : Int) ≤ (r.key.size : Int)) = decide (1 ≤ r.key.size) := by rw [Bool.eq_iff_iff, decide_eq_true_eq, decide_eq_true_eq]; omega
  have e2 : decide ((r.key.size : Int) ≤ 64) = decide (r.key.size ≤ 64) := by rw [Bool.eq_iff_iff, decide_eq_true_eq, decide_eq_true_eq]; omega
  have e3 : decide ((r.val.size : Int) ≤ 4096) = decide (r.val.size ≤ 4096) := by rw [Bool.eq_iff_iff, decide_eq_true_eq, decide_eq_true_eq]; omega
  rw [e1, e2, e3]

set_option maxRecDepth 100000 in
set_option maxHeartbeats 800000 in
theorem MayRow_ref (r : Rw) (w : World) :
    Calls Try.prog 56 #[r.v] w fun e w' => e = .returned (.bool r.okB) ∧ Below w.heap.size w w' := by
  have hK := fun W => Key_ref r.key W
  rw [okB_eq]
  obtain ⟨key, stamp, val⟩ := r
  simp only at hK ⊢
  generalize keyB key = kb at hK ⊢
  have hsp : (1 ≤ stamp ∧ stamp ≤ 1099511627776) ∨ (1 ≤ stamp ∧ ¬ stamp ≤ 1099511627776) ∨ ¬ 1 ≤ stamp := by omega
  rcases hsp with ⟨h1, h2⟩ | ⟨h1, h2⟩ | h1
  · rw [decide_eq_true h1, decide_eq_true h2]
    cases kb
    all_goals
      go_enter Try.func56, Try.ntmps56
      go_wp2_with (go_at_call 73; refine (hK _).mono ?_; rintro e w' ⟨rfl, hw'⟩; rw [hw']; clear hw' w')
      all_goals
        go_ret
        exact ⟨by simp, below_a1 _ _⟩
  · rw [decide_eq_true h1, decide_eq_false h2]
    cases kb
    all_goals
      go_enter Try.func56, Try.ntmps56
      go_wp2_with (go_at_call 73; refine (hK _).mono ?_; rintro e w' ⟨rfl, hw'⟩; rw [hw']; clear hw' w')
      all_goals
        go_ret
        exact ⟨by simp, below_a1 _ _⟩
  · rw [decide_eq_false h1]
    cases kb
    all_goals
      go_enter Try.func56, Try.ntmps56
      go_wp2_with (go_at_call 73; refine (hK _).mono ?_; rintro e w' ⟨rfl, hw'⟩; rw [hw']; clear hw' w')
      all_goals
        go_ret
        exact ⟨by simp, below_a1 _ _⟩

theorem freshN_take : ∀ (l m : List Rw) (k : Nat), freshN l (m.take k) ≤ freshN l m
  | _, [], k => by simp [freshN]
  | _, _ :: _, 0 => by simp [freshN]
  | l, r :: m, k + 1 => by
    have := freshN_take l m k
    show (if there l r.key then 0 else 1) + freshN l (m.take k) ≤ (if there l r.key then 0 else 1) + freshN l m
    omega
theorem own_belowR {w w' : World} {br : Nat} {l : List Rw} (h : RH w br l) (hb : Below w.heap.size w w') : ∀ g, tabBlk w' br = some g → tabBlk w br = some g ∨ w.heap.size ≤ g := fun g hg => Or.inl (by rw [← hg]; exact (tabBlk_same (hb.block br h.lt)).symm)
/-- a row of rows is not the table -/
theorem rows_ne {w : World} {br b o : Nat} {v : Value} {r : Rw} (hg : w.heap[br]? = some (.cells #[v] RTabT (0, 0))) (hc : ∀ j u, (rwenc r)[j]? = some u → w.cell? ⟨b, o + j, none⟩ = some u) : b ≠ br := by
  rintro rfl
  have h1 := hc 1 _ rfl
  rw [cell_of_block hg] at h1
  simp at h1
theorem chk_bad {m : List Rw} {k : Nat} (hk : k < m.length) (h : m[k].okB = false) : chkR m = 80 := by
  unfold chkR
  rw [if_neg]
  intro h1
  rw [List.all_eq_true.1 h1 _ (List.getElem_mem hk)] at h
  cases h
theorem chk_shape {m : List Rw} (hall : ∀ r ∈ m, r.okB = true) {i : Nat} (hi : i + 1 < m.length) (h : B4 m[i].key m[i + 1].key = false) : chkR m = 4 := by
  unfold chkR
  rw [if_pos (List.all_eq_true.2 hall), riseB_at hi h]; rfl

set_option maxRecDepth 100000 in
set_option maxHeartbeats 1600000 in
theorem Take_ref (br : Nat) (l : List Rw) (a : Option Addr) (cap : Nat) (m : List Rw) (w : World) (hR : RH w br l) (hm : Lies w rwenc a m) (hn : m.length ≤ 100000) :
    Calls Try.prog 35 #[ptr br, .slice a m.length cap] w fun e w' => e = .returned (.int .i64 (takes l m).1) ∧ RH w' br (takes l m).2 ∧ Turn br w w' ∧ (∀ g, tabBlk w' br = some g → tabBlk w br = some g ∨ w.heap.size ≤ g) := by
  obtain ⟨hok, a0, cp0, hg, hl⟩ := id hR
  have hlt := hR.lt
  have hlen := hok.len
  go_enter Try.func35, Try.ntmps35
  go_wp2
  go_loopw [5] (fun i wr => ∃ k : Nat, k ≤ m.length ∧ i = .int .i64 k ∧ Hid (∀ r ∈ m.take k, r.okB = true) ∧ Below w.heap.size w wr) (fun i _ => m.length - (intOf i).toNat)
  case atStart => exact ⟨0, Nat.zero_le _, rfl, hide (by simp), Below.refl _ _⟩
  case round =>
    obtain ⟨k, hk, rfl, HA, hbel⟩ := hrel
    have j0 : (0 : Int) ≤ (k : Int) := by omega
    by_cases hkl : k < m.length
    · obtain ⟨b, off, rfl, hbl, hc⟩ := (hm.below hbel).at (k := 3) rwenc_len k hkl
      have c0 := hc 0 _ rfl
      have c1 := hc 1 _ rfl
      have c2 := hc 2 _ rfl
      rw [Nat.add_zero] at c0
      clear hc
      have j1 : (k : Int) < (m.length : Int) := by omega
      have HBad : Hid (m[k].okB = false → takes l m = (80, l)) := fun h => by
        have := chk_bad hkl h
        rw [takes_bad (by rw [this]; decide), this]
      have HGo : Hid (m[k].okB = true → ∀ r ∈ m.take (k + 1), r.okB = true) := fun h r hr => by
        rw [List.take_succ_eq_append_getElem hkl] at hr
        rcases List.mem_append.1 hr with h1 | h1
        · exact HA.out r h1
        · rw [List.mem_singleton.1 h1]; exact h
      generalize (m[k]'hkl) = y at *
      have hMy := fun W => MayRow_ref y W
      cases hy : y.okB
      · rw [hy] at hMy
        have HD := hide (HBad.out hy)
        clear HBad HGo
        go_wp2_with fail
        refine (hMy _).mono ?_
        rintro e w1 ⟨rfl, hb1⟩
        have hb2 := hbel.trans (hb1.mono hbel.size)
        clear hb1 c0 c1 c2
        go_wp2
        go_ret
        rw [HD.out]
        exact ⟨rfl, hR.below hb2, Only.of_below hb2, own_belowR hR hb2⟩
      · rw [hy] at hMy
        have HG := hide (HGo.out hy)
        clear HBad HGo
        go_wp2_with fail
        refine (hMy _).mono ?_
        rintro e w1 ⟨rfl, hb1⟩
        have hb2 := hbel.trans (hb1.mono hbel.size)
        clear hb1 c0 c1 c2
        go_wp2
        exact ⟨⟨k + 1, by omega, by go_num, HG, hb2⟩, by simp [intOf]; omega⟩
    · have HAll : Hid (∀ r ∈ m, r.okB = true) := by have := HA.out; rw [List.take_of_length_le (by omega)] at this; exact this
      have j2 : ¬ (k : Int) < (m.length : Int) := by omega
      clear HA
      go_wp2
      have hbel0 := hbel
      go_loopw [6, 7] (fun fv i wq => ∃ (k f : Nat), k ≤ m.length ∧ f ≤ k ∧ i = .int .i64 k ∧ fv = .int .i64 f ∧ Hid (f = freshN l (m.take k)) ∧ Hid (∀ t (h : t + 1 < m.length), t + 1 < k → B4 m[t].key m[t + 1].key = true) ∧ Below w.heap.size w wq) (fun _ i _ => m.length - (intOf i).toNat)
      case atStart => exact ⟨0, 0, Nat.zero_le _, Nat.le_refl _, rfl, rfl, hide rfl, hide (fun t h h0 => by omega), hbel⟩
      case round =>
        clear hbel hbel0
        obtain ⟨q, f, hq, hf, rfl, rfl, HF, HRi, hbel⟩ := hrel
        have hwr := hbel.size
        by_cases hql : q < m.length
        · obtain ⟨b, off, rfl, hbl, hc⟩ := (hm.below hbel).at (k := 3) rwenc_len q hql
          have c0 := hc 0 _ rfl
          rw [Nat.add_zero] at c0
          have j0 : (0 : Int) ≤ (q : Int) := by omega
          have j1 : (q : Int) < (m.length : Int) := by omega
          have HT := hide (List.take_succ_eq_append_getElem hql)
          have hFd := fun W (hb : Below w.heap.size w W) => Find_ref br l m[q].key W (hR.below hb)
          have HFN : Hid (f + (if there l m[q].key then 0 else 1) = freshN l (m.take (q + 1))) := by
            show _ = _
            rw [HT.out, freshN_snoc, HF.out]
          by_cases hq0 : q = 0
          · have g0 : decide (0 < q) = false := decide_eq_false (by omega)
            have HRN : Hid (∀ t (h : t + 1 < m.length), t + 1 < q + 1 → B4 m[t].key m[t + 1].key = true) := fun t h h0 => by omega
            clear hc hq0 HRi
            generalize (m[q]'hql).key = yk at *
            go_wp2_with fail
            go_quiet (fail)
            have hb2 := below_drewN hbel nq
            have c02 : (wr.drewN nq).cell? ⟨b, off + q * 3, none⟩ = some (.string yk) := c0
            generalize wr.drewN nq = w2 at hb2 c02 ⊢
            cases hth : there l yk
            all_goals
              rw [hth] at HFN
              simp only [Bool.false_eq_true, if_false, if_true, Nat.add_zero] at HFN
              go_wp2_with fail
              refine (hFd _ hb2).mono ?_
              rintro e w3 ⟨rfl, hb3⟩
              rw [hth]
              have hb4 := hb2.trans (hb3.mono hb2.size)
              clear hb3 c0 c02 hFd
              go_wp2
            · exact ⟨⟨q + 1, f + 1, by omega, by omega, by go_num, by go_num, HFN, HRN, hb4⟩, by simp [intOf]; omega⟩
            · exact ⟨⟨q + 1, f, by omega, by omega, by go_num, by go_num, HFN, HRN, hb4⟩, by simp [intOf]; omega⟩
          · obtain ⟨p, hp⟩ : ∃ p, q = p + 1 := ⟨q - 1, by omega⟩
            have hpl : p < m.length := by omega
            obtain ⟨b', off', e0, _, hcp⟩ := (hm.below hbel).at (k := 3) rwenc_len p hpl
            cases e0
            have d0 := hcp 0 _ rfl
            rw [Nat.add_zero] at d0
            have g0 : decide (0 < q) = true := decide_eq_true (by omega)
            have g1 : IntKind.i64.wrap ((q : Int) - 1) = (p : Int) := by rw [IntKind.wrap_i64]; omega
            have g2 : (q : Int) - 1 = (p : Int) := by omega
            have g3 : (0 : Int) ≤ (p : Int) := by omega
            have g4 : (p : Int) < (m.length : Int) := by omega
            have HBad : Hid (B4 m[p].key m[q].key = false → takes l m = (4, l)) := by
              subst hp
              intro h
              have := chk_shape HAll.out (i := p) hql h
              rw [takes_bad (by rw [this]; decide), this]
            have HRN : Hid (B4 m[p].key m[q].key = true → ∀ t (h : t + 1 < m.length), t + 1 < q + 1 → B4 m[t].key m[t + 1].key = true) := by
              subst hp
              intro h0 t h ht
              by_cases e : t = p
              · subst e; exact h0
              · exact HRi.out t h (by omega)
            clear hc hcp hp hq0 HRi
            generalize (m[q]'hql).key = yk at *
            generalize (m[p]'hpl).key = pk at *
            cases hB : B4 pk yk
            · have hB2 : Op.bytesLess pk.toList yk.toList = false := by rw [less_b4]; exact hB
              have HD := hide (HBad.out hB)
              clear hB HBad HRN
              go_wp2_with fail
              go_quiet (fail)
              have hb2 := below_drewN hbel nq
              go_wp2
              go_ret
              rw [HD.out]
              exact ⟨rfl, hR.below hb2, Only.of_below hb2, own_belowR hR hb2⟩
            · have hB2 : Op.bytesLess pk.toList yk.toList = true := by rw [less_b4]; exact hB
              have HRM := hide (HRN.out hB)
              clear hB HBad HRN
              go_wp2_with fail
              go_quiet (fail)
              have hb2 := below_drewN hbel nq
              have c02 : (wr.drewN nq).cell? ⟨b, off + q * 3, none⟩ = some (.string yk) := c0
              generalize wr.drewN nq = w2 at hb2 c02 ⊢
              cases hth : there l yk
              all_goals
                rw [hth] at HFN
                simp only [Bool.false_eq_true, if_false, if_true, Nat.add_zero] at HFN
                go_wp2_with fail
                refine (hFd _ hb2).mono ?_
                rintro e w3 ⟨rfl, hb3⟩
                rw [hth]
                have hb4 := hb2.trans (hb3.mono hb2.size)
                clear hb3 c0 c02 hFd d0
                go_wp2
              · exact ⟨⟨q + 1, f + 1, by omega, by omega, by go_num, by go_num, HFN, HRM, hb4⟩, by simp [intOf]; omega⟩
              · exact ⟨⟨q + 1, f, by omega, by omega, by go_num, by go_num, HFN, HRM, hb4⟩, by simp [intOf]; omega⟩
        · have j2 : ¬ (q : Int) < (m.length : Int) := by omega
          have HC : Hid (chkR m = 0) := by
            unfold chkR
            rw [if_pos (List.all_eq_true.2 HAll.out), riseB_all (fun t h => HRi.out t h (by omega))]; rfl
          have HFe : Hid (f = freshN l m) := by have := HF.out; rw [List.take_of_length_le (by omega)] at this; exact this
          have t0 : wr.cell? ⟨br, 0, none⟩ = some (.slice a0 l.length cp0) := cellB ((hbel.block br hlt).trans hg) 0 rfl
          clear HF HRi
          by_cases hfull : 4096 < l.length + f
          · have HD : Hid (takes l m = (22, l)) := takes_full HC.out (by rw [← HFe.out]; exact hfull)
            have g1 : (4096 : Int) < (l.length : Int) + (f : Int) := by omega
            go_wp2
            go_ret
            rw [HD.out]
            exact ⟨rfl, hR.below hbel, Only.of_below hbel, own_belowR hR hbel⟩
          · have HD : Hid (takes l m = (0, puts l m)) := takes_ok HC.out (by rw [← HFe.out]; exact hfull)
            have g1 : ¬ (4096 : Int) < (l.length : Int) + (f : Int) := by omega
            obtain ⟨hmo, hmr⟩ := chkR_zero HC.out
            have HTk : Hid (∀ t, Tok (puts l (m.take t))) := fun t => hok.puts (fun r hr => hmo r (List.mem_of_mem_take hr)) (List.Pairwise.take hmr) (by have := freshN_take l m t; have := HFe.out; omega)
            have hR0 := hR.below hbel
            clear hmo hmr HC HFe
            go_wp2
            clear t0
            go_loopw [10] (fun i wq => ∃ t : Nat, t ≤ m.length ∧ i = .int .i64 t ∧ RH wq br (puts l (m.take t)) ∧ Turn br w wq ∧ Hid (∀ g, tabBlk wq br = some g → tabBlk w br = some g ∨ w.heap.size ≤ g)) (fun i _ => m.length - (intOf i).toNat)
            case atStart => exact ⟨0, Nat.zero_le _, rfl, hR0, Only.of_below hbel, own_belowR hR hbel⟩
            case round =>
              clear hR0 hbel hwr
              obtain ⟨t, ht, rfl, hRt, hTu, HOw⟩ := hrel
              by_cases htl : t < m.length
              · obtain ⟨b, off, rfl, hbl, hc⟩ := hm.at (k := 3) rwenc_len t htl
                have hne := rows_ne hg hc
                have hcc : ∀ y u, (rwenc m[t])[y]? = some u → wr.cell? ⟨b, off + t * 3 + y, none⟩ = some u := fun y u hy => (World.cell?_of_block (a := ⟨b, off + t * 3 + y, none⟩) (hTu.block b hbl hne)).trans (hc y u hy)
                have c0 := hcc 0 _ rfl
                have c1 := hcc 1 _ rfl
                have c2 := hcc 2 _ rfl
                rw [Nat.add_zero] at c0
                have k0 : (0 : Int) ≤ (t : Int) := by omega
                have k1 : (t : Int) < (m.length : Int) := by omega
                have HPS : Hid (puts l (m.take (t + 1)) = put (puts l (m.take t)) m[t]) := by
                  show _ = _
                  rw [List.take_succ_eq_append_getElem htl, puts_snoc]
                have hPt := put_ref br (puts l (m.take t)) m[t] wr hRt (by rw [← HPS.out]; exact HTk.out _)
                rw [← HPS.out] at hPt
                clear hc hcc
                generalize (m[t]'htl) = y at *
                go_wp2_with fail
                refine hPt.mono ?_
                rintro e w3 ⟨rfl, hR3, hu3, hw3⟩
                have hu4 := hTu.trans hu3
                have HO4 : Hid (∀ g, tabBlk w3 br = some g → tabBlk w br = some g ∨ w.heap.size ≤ g) := fun g hg => Or.inr (Nat.le_trans hTu.size (hw3 g hg))
                clear hPt c0 c1 c2 hRt hTu hu3 hw3 HOw
                go_wp2
                exact ⟨⟨t + 1, by omega, by go_num, hR3, hu4, HO4⟩, by simp [intOf]; omega⟩
              · have k1 : ¬ (t : Int) < (m.length : Int) := by omega
                rw [List.take_of_length_le (by omega)] at hRt
                go_wp2
                go_ret
                rw [HD.out]
                exact ⟨rfl, hRt, hTu, HOw.out⟩

end Go.Proofs.Ythdempdiibjabaa.Tr
