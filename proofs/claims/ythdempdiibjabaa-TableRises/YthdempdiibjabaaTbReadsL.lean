/- Layer 9: TableReads: the law's walk. -/
import Derived.Test.YthdempdiibjabaaTbApartL
import Derived.Test.YthdempdiibjabaaOpWr
namespace Go.Proofs.Ythdempdiibjabaa.Tb
open Go.RowKit Go.Joins Go.Proofs.Ythdempdiibjabaa.Gk Go.Proofs.Ythdempdiibjabaa.Oq Go.Proofs.Ythdempdiibjabaa.Sp

theorem DoP.blk {bt : Nat} {w w' : World} {an : Ans × List Rw} {g rcap : Nat} {R : RsA} {rl : List RsA} (h : DoP bt w an (some ⟨g, 0, none⟩) rcap rl w') (hr : rl = [R]) : ∃ cur, w'.heap[g]? = some (.cells cur ResT (0, 0)) := by
  subst hr
  obtain ⟨g', cap, cur, e, hg, _⟩ := own_form h.row (by simp)
  cases e
  exact ⟨cur, hg⟩
theorem less_list : ∀ (a b : List UInt8), Op.bytesLess a b = bytesBefore a b
  | [], [] => rfl
  | _ :: _, [] => rfl
  | [], _ :: _ => rfl
  | a :: r, b :: t => by
    simp only [Op.bytesLess, bytesBefore, less_list r t]
theorem less_b4 (a b : ByteArray) : Op.bytesLess a.toList b.toList = B4 a b := by rw [less_list, Lib.toList_data, Lib.toList_data]; rfl
theorem read_kind {x : Opn} (hm : x.may = true) (hw : x.writes = false) : x.kind = 5 ∨ x.kind = 6 := by
  have h := may_kind hm
  unfold Opn.writes within at hw
  rw [Bool.and_eq_false_iff, decide_eq_false_iff_not, decide_eq_false_iff_not] at hw
  omega
theorem read_same {x : Opn} (l : List Rw) (h : x.kind = 5 ∨ x.kind = 6) : (one l x).2 = l := by
  unfold one
  rcases h with h | h
  · rw [if_neg (by omega)]
    cases row? l x.key with
    | none => simp [h]
    | some r =>
      simp only [h]
      by_cases ht : x.test ≠ 0 ∧ x.test ≠ r.stamp
      · simp only [if_pos ht]; simp
      · simp only [if_neg ht]; simp
  · rw [if_pos h]
theorem read_rise {x : Opn} {l : List Rw} (hr : Rise l) (h : x.kind = 5 ∨ x.kind = 6) : Rise (one l x).1.rows := by
  unfold one
  rcases h with h | h
  · rw [if_neg (by omega)]
    cases row? l x.key with
    | none => simp [h]; exact List.Pairwise.nil
    | some r =>
      simp only [h]
      by_cases ht : x.test ≠ 0 ∧ x.test ≠ r.stamp
      · simp only [if_pos ht]; simp; exact List.Pairwise.nil
      · simp only [if_neg ht]; simp; exact List.Pairwise.nil
  · rw [if_pos h]
    exact List.Pairwise.take (List.Pairwise.drop hr)

set_option maxRecDepth 100000 in
set_option maxHeartbeats 1600000 in
theorem reads_law (la : Option Addr) (lc : Nat) (l : List OpsA) (aa : Option Addr) (ac : Nat) (A : List Opn) (w : World) (hl : Lies w osenc la l) (he : ∀ x ∈ l, Lies w oenc x.a x.ops) (hA : SliceAt w oenc aa ac A) :
    Calls Try.prog 6 #[.slice la l.length lc, .slice aa A.length ac] w fun e w' => e = .returned (.bool true) ∧ Below w.heap.size w w' := by
  have hroom := hA.room
  have hmax := hA.max
  go_enter Try.func6, Try.ntmps6
  go_wp2_with fail
  refine (works_tb w).mono ?_
  rintro e w1 ⟨rfl, hb1⟩
  have hP := fun W (hb : Below w.heap.size w W) => played_tb la lc l W (hl.below hb) (fun x hx => (he x hx).below hb)
  generalize plays [] (l.take 40) = T at hP
  go_wp2_with fail
  refine (hP _ hb1).mono ?_
  rintro e w2 ⟨bt, rfl, ht2, lt2, hb⟩
  have hb2 := hb1.trans (hb.mono hb1.size)
  have s2 := Nat.le_trans hb1.size lt2
  have hTl := ht2.1.len
  have HRI := hide ht2.1.rise
  clear hb hP hb1 lt2
  go_wp2
  go_loopw [6] (fun i wr => ∃ k : Nat, k ≤ A.length ∧ k ≤ 20 ∧ i = .int .i64 k ∧ TH wr bt T ∧ Below w.heap.size w wr) (fun i _ => A.length - (intOf i).toNat)
  case atStart => exact ⟨0, Nat.zero_le _, by omega, rfl, ht2, hb2⟩
  case round =>
    clear ht2 hb2
    obtain ⟨k, hk, hk20, rfl, ht, hbel⟩ := hrel
    have hwr := hbel.size
    by_cases hgo : k < A.length ∧ k < 20
    · obtain ⟨hlt, h20⟩ := hgo
      have g1 : ((k : Int) < (A.length : Int)) := by omega
      have g2 : ((k : Int) < 20) := by omega
      have g3 : (0 : Int) ≤ (k : Int) := by omega
      obtain ⟨b, off, rfl, hx0⟩ := op_at hA.lies k hlt
      have hbw := (hA.lies.at (k := 6) oenc_len k hlt)
      obtain ⟨b', off', e0, hbl, hc⟩ := hbw
      cases e0
      generalize A[k] = x at *
      have cc : ∀ W, Below w.heap.size w W → W.cell? ⟨b, off + k * 6, none⟩ = some (.int .i64 x.kind) ∧ W.cell? ⟨b, off + k * 6 + 1, none⟩ = some (.string x.key) ∧ W.cell? ⟨b, off + k * 6 + 2, none⟩ = some (.string x.val) ∧ W.cell? ⟨b, off + k * 6 + 3, none⟩ = some (.int .i64 x.stamp) ∧ W.cell? ⟨b, off + k * 6 + 4, none⟩ = some (.int .i64 x.test) ∧ W.cell? ⟨b, off + k * 6 + 5, none⟩ = some (.int .i64 x.most) := fun W hb => by
        have hq := fun j u hj => (hb.cell (p := ⟨b, off + k * 6 + j, none⟩) hbl).trans (hc j u hj)
        exact ⟨by have := hq 0 _ rfl; rwa [Nat.add_zero] at this, hq 1 _ rfl, hq 2 _ rfl, hq 3 _ rfl, hq 4 _ rfl, hq 5 _ rfl⟩
      have CC := hide cc
      clear hc cc
      obtain ⟨c0, c1, c2, c3, c4, c5⟩ := CC.out wr hbel
      cases hw : x.writes
      rotate_left
      · have hC := fun W => Writes_op x W
        rw [hw] at hC
        go_wp2_with fail
        refine (hC _).mono ?_
        rintro e w3 ⟨rfl, hb⟩
        have ht3 := ht.below hb
        have hb3 := hbel.trans (hb.mono hbel.size)
        clear hb ht hbel c0 c1 c2 c3 c4 c5 hC
        go_wp2
        go_roundw
        case rel => exact ⟨k + 1, by omega, by omega, by go_num, ht3, hb3⟩
        case measure => simp [intOf]; omega
      · have hC := fun W => Writes_op x W
        rw [hw] at hC
        go_wp2_with fail
        refine (hC _).mono ?_
        rintro e w3 ⟨rfl, hb⟩
        have ht3 := ht.below hb
        have hb3 := hbel.trans (hb.mono hbel.size)
        clear hb ht hbel c0 c1 c2 c3 c4 c5 hC
        obtain ⟨c0, c1, c2, c3, c4, c5⟩ := CC.out w3 hb3
        have hK := fun W => Check_op x W
        cases hm : x.may
        · rw [hm, show chkI false = 80 from rfl] at hK
          go_wp2_with fail
          refine (hK _).mono ?_
          rintro e w4 ⟨rfl, hb⟩
          have ht4 := ht3.below hb
          have hb4 := hb3.trans (hb.mono hb3.size)
          clear hb ht3 hb3 c0 c1 c2 c3 c4 c5 hK
          go_wp2
          go_roundw
          case rel => exact ⟨k + 1, by omega, by omega, by go_num, ht4, hb4⟩
          case measure => simp [intOf]; omega
        · rw [hm, show chkI true = 0 from rfl] at hK
          go_wp2_with fail
          refine (hK _).mono ?_
          rintro e w4 ⟨rfl, hb⟩
          have ht4 := ht3.below hb
          have hb4 := hb3.trans (hb.mono hb3.size)
          clear hb ht3 hb3 c0 c1 c2 c3 c4 c5 hK
          have hrk := read_kind hm hw
          have hdo : dos T [x] = (⟨[(one T x).1], 0, 0⟩, T) := by rw [dos_one _ hm, read_same T hrk]
          have HRR := hide (read_rise HRI.out hrk)
          have hone4 := one_rows ht4.1 x
          generalize (one T x).1 = r at *
          obtain ⟨rc, rst, rv, rr⟩ := r
          simp only at HRR hone4
          have i5 : (k : Int) + 1 ≤ (ac : Int) := by omega
          have i7 : ¬ ac = k := by omega
          have i9 : k + 1 - k = 1 := by omega
          go_wp2_with fail
          refine (Rows_all bt T w4 ht4).mono ?_
          rintro e w5 ⟨g5, rfl, ho5, hb⟩
          have hb5 := hb4.trans (hb.mono hb4.size)
          have ht5 := ht4.below hb
          clear hb hb4 ht4
          have hDo := Do_tb bt T (some ⟨b, off + k * 6, none⟩) (ac - k) [x] w5 ht5 (hx0.below hb5)
          rw [hdo] at hDo
          go_wp2_with fail
          refine hDo.mono ?_
          rintro e w6 ⟨ra, rcap, rl, rfl, hD⟩
          have hb6 := turn_below hb5 s2 hD.turn
          have ht6 := hD.tab
          have hr6 := (RL.of_own ho5).turn ht5 hD.turn
          have hG6 := hD.got
          obtain ⟨R, g, rfl, hR, rfl, hg, d0, d1, d2, d3, hRL⟩ := hD.single
          obtain ⟨gcur, hgc⟩ := hD.blk rfl
          simp only [List.length_cons, List.length_nil] at d3 ⊢
          clear hDo hD hb5 ht5 ho5 d0 d1 d2
          have hba := below_a1 w6 (.cells #[.int .i64 0, .int .i64 0] FltT)
          have hfb := heap_alloc_new w6 (.cells #[.int .i64 0, .int .i64 0] FltT)
          have hb7 := hb6.trans (hba.mono hb6.size)
          have hDo := Do_tb bt T (some ⟨b, off + k * 6, none⟩) (ac - k) [x] _ (ht6.below hba) (hx0.below hb7)
          rw [hdo] at hDo
          go_wp2_with fail
          refine hDo.mono ?_
          rintro e w8 ⟨ra8, rcap8, rl8, rfl, hD⟩
          have hb8 := turn_below hb7 s2 hD.turn
          have ht8 := hD.tab
          have hr8 := (hr6.below hba).turn (ht6.below hba) hD.turn
          have hG8 := (hG6.below hba).turn (ht6.below hba) hD.turn
          have hH8 := hD.got
          have hgc8 := (hD.turn.block g (Nat.lt_of_lt_of_le hg hba.size) (by
            obtain ⟨_, _, _, htg, _⟩ := ht6
            show g ≠ bt
            rintro rfl
            rw [hgc] at htg
            simp only [Option.some.injEq, Obj.cells.injEq] at htg
            exact absurd htg.2.1 (by decide))).trans ((hba.block g hg).trans hgc)
          have hf8 := (hD.turn.block _ (Array.getElem?_eq_some_iff.1 hfb).1 (by have := ht6.lt; show w6.heap.size ≠ bt; omega)).trans hfb
          obtain ⟨R8, g8, rfl, hR8, rfl, hg8, e0, e1, e2, e3, hRL8⟩ := hD.single
          have hRR : [R].map RsA.r = [R8].map RsA.r := by simp [hR, hR8]
          have hrl8 := (hG8.rows R (by simp))
          rw [hR] at hrl8
          have d38 : w8.cell? ⟨g, 3, none⟩ = some (.slice R.a rr.length R.cap) := (World.cell?_of_block (a := ⟨g, 3, none⟩) (hgc8.trans hgc.symm)).trans d3
          have hgl := (Array.getElem?_eq_some_iff.1 hgc8).1
          have hRb : ∀ y ∈ [R], y.r.rows.length ≤ 9223372036854775807 := fun y hy => by rw [List.mem_singleton.1 hy, hR]; show rr.length ≤ _; omega
          simp only [List.length_cons, List.length_nil]
          clear hDo hD hb6 hb7 ht6 hr6 hG6 hfb hba hRL hRL8 e0 e1 e2 e3 d3
          have z0 : w8.cell? ⟨w6.heap.size, 0, none⟩ = some (.int .i64 0) := cellB hf8 0 rfl
          have z1 : w8.cell? ⟨w6.heap.size, 1, none⟩ = some (.int .i64 0) := cellB hf8 1 rfl
          have hzl := (Array.getElem?_eq_some_iff.1 hf8).1
          have hba := below_a1 w8 (.cells #[.int .i64 0, .int .i64 0] FltT)
          have hS := sameResults_any (some ⟨g, 0, none⟩) (some ⟨g8, 0, none⟩) rcap rcap8 [R] [R8] _ (hG8.below hba).lies (hH8.below hba).lies hRR (by simp) hRb
          simp only [List.length_cons, List.length_nil] at hS
          go_wp2_with fail
          refine hS.mono ?_
          rintro e w9 ⟨rfl, hb⟩
          have hb89 := hba.trans (hb.mono hba.size)
          have hb9 := hb8.trans (hb89.mono hb8.size)
          have ht9 := ht8.below hb89
          have hr9 := hr8.below hb89
          have d39 := (hb89.cell (p := ⟨g, 3, none⟩) hgl).trans d38
          have hrl9 := hrl8.below hb89
          have hgl9 := Nat.lt_of_lt_of_le hgl hb89.size
          clear hb hS hba hb89 hb8 ht8 hr8 hG8 hH8 d38 hrl8 hgl z0 z1 hf8 hgc8 hgc hg hg8
          go_wp2_with fail
          refine (Rows_all bt T w9 ht9).mono ?_
          rintro e w10 ⟨g10, rfl, ho10, hb⟩
          have hb10 := hb9.trans (hb.mono hb9.size)
          have ht10 := ht9.below hb
          have hr10 := hr9.below hb
          have d310 := (hb.cell (p := ⟨g, 3, none⟩) hgl9).trans d39
          have hrl10 := hrl9.below hb
          have hgl10 := Nat.lt_of_lt_of_le hgl9 hb.size
          clear hb hb9 ht9 hr9 d39 hrl9 hgl9
          go_wp2_with fail
          refine (sameRows_any _ _ _ _ T w10 (RL.of_own ho10).lies hr10.lies (by omega)).mono ?_
          rintro e w11 ⟨rfl, hb⟩
          have hb11 := hb10.trans (hb.mono hb10.size)
          have ht11 := ht10.below hb
          have d311 := (hb.cell (p := ⟨g, 3, none⟩) hgl10).trans d310
          have hrl11 := hrl10.below hb
          have hgl11 := Nat.lt_of_lt_of_le hgl10 hb.size
          clear hb hb10 ht10 hr10 d310 hrl10 hgl10 ho10
          obtain ⟨w12, hw12⟩ : ∃ w12 : World, w12 = w11 := ⟨_, rfl⟩
          go_wp2
          go_loopw [12] (fun i wx => ∃ q : Nat, 1 ≤ q ∧ (q ≤ rr.length ∨ q = 1) ∧ i = .int .i64 q ∧ Below w11.heap.size w11 wx) (fun i _ => rr.length - (intOf i).toNat)
          case atStart => exact ⟨1, by omega, by omega, rfl, Below.refl _ _⟩
          case round =>
            clear hw12
            obtain ⟨q, hq1, hq2, rfl, hbx⟩ := hrel
            have hrx := hrl11.below hbx
            have dx := (hbx.cell (p := ⟨g, 3, none⟩) hgl11).trans d311
            by_cases hql : q < rr.length
            · obtain ⟨p, hp⟩ : ∃ p, q = p + 1 := ⟨q - 1, by omega⟩
              have hpl : p < rr.length := by omega
              have hpq : (q : Int) - 1 = (p : Int) := by omega
              have j1 : (0 : Int) ≤ (p : Int) := by omega
              have j2 : (p : Int) < (rr.length : Int) := by omega
              have j3 : (q : Int) < (rr.length : Int) := by omega
              have j4 : (0 : Int) ≤ (q : Int) := by omega
              obtain ⟨rb, ro, era, hrbl, hcp⟩ := hrx.lies.at (k := 3) rwenc_len p hpl
              obtain ⟨rb', ro', era', _, hcq⟩ := hrx.lies.at (k := 3) rwenc_len q hql
              rw [era] at era'
              cases era'
              have kp := hcp 0 _ rfl
              have kq := hcq 0 _ rfl
              rw [Nat.add_zero] at kp kq
              have hB := (List.pairwise_iff_getElem.1 HRR.out) p q hpl hql (by omega)
              rw [era] at dx
              clear hcp hcq hp
              generalize (rr[p]'hpl).key = kP at *
              generalize rr[q].key = kQ at *
              rw [← less_b4] at hB
              have hwq : IntKind.i64.wrap ((q : Int) - 1) = (p : Int) := by rw [IntKind.wrap_i64]; omega
              go_wp2
              go_quiet (fail)
              go_wp2
              go_roundw
              case rel => exact ⟨q + 1, by omega, by omega, by go_num, below_drewN hbx _⟩
              case measure => simp [intOf]; omega
            · have j3 : ¬ (q : Int) < (rr.length : Int) := by omega
              have ht12 := ht11.below hbx
              have hb12 := hb11.trans (hbx.mono hb11.size)
              go_wp2_with fail
              exact ⟨⟨k + 1, by omega, by omega, by go_num, ht12, hb12⟩, by simp [intOf]; omega⟩
    · have hstop : Hid (((k : Int) < (A.length : Int) ∧ ¬ (k : Int) < 20) ∨ ¬ (k : Int) < (A.length : Int)) := by
        by_cases h1 : k < A.length
        · exact Or.inl ⟨by omega, by omega⟩
        · exact Or.inr (by omega)
      clear hgo
      rcases hstop.out with ⟨g1, g2⟩ | g1
      all_goals
        clear hstop
        go_wp2
        go_ret
        exact ⟨rfl, hbel⟩

end Go.Proofs.Ythdempdiibjabaa.Tb
