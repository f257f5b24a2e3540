/- Layer 9: TableRises: the law's walk. -/
import Derived.Test.YthdempdiibjabaaTbReadsL
import Derived.Test.YthdempdiibjabaaTbMap
namespace Go.Proofs.Ythdempdiibjabaa.Tb
open Go.RowKit Go.Joins Go.Proofs.Ythdempdiibjabaa.Gk Go.Proofs.Ythdempdiibjabaa.Oq Go.Proofs.Ythdempdiibjabaa.Sp

set_option maxRecDepth 100000 in
set_option maxHeartbeats 1600000 in
theorem rises_law (aa : Option Addr) (ac : Nat) (A : List Opn) (w : World) (hA : SliceAt w oenc aa ac A) :
    Calls Try.prog 7 #[.slice aa A.length ac] w fun e w' => e = .returned (.bool true) ∧ Below w.heap.size w w' := by
  have hroom := hA.room
  have hmax := hA.max
  have hmm := @run_makeMap Try.prog
  go_enter Try.func7, Try.ntmps7
  go_wp2_with fail
  refine (New_tb w).mono ?_
  rintro e w1 ⟨bt, rfl, ht1, lt1, hb1⟩
  go_wp2_with fail
  refine (works_tb w1).mono ?_
  rintro e w2 ⟨rfl, hb⟩
  have hb2 := hb1.trans (hb.mono hb1.size)
  have ht2 := ht1.below hb
  clear hb ht1 hb1
  have hz2 := hb2.size
  have hM3 := SM.made w2
  have hba := below_a1 w2 (.map #[] 0)
  have ht3 := ht2.below hba
  have hb3 := hb2.trans (hba.mono hz2)
  go_wp2
  clear hba ht2 hb2
  obtain ⟨bm, hbm⟩ : ∃ bm, bm = w2.heap.size := ⟨_, rfl⟩
  obtain ⟨w3, hw3⟩ : ∃ w3, w3 = w2.alloc (.map #[] 0) := ⟨_, rfl⟩
  rw [← hbm, ← hw3] at hM3
  rw [← hw3] at ht3 hb3
  rw [← hbm, ← hw3]
  rw [← hbm] at hz2
  clear hw3 hbm
  clear hmm
  have hbm := hM3.lt
  go_loopw [5] (fun i wr => ∃ (k : Nat) (T : List Rw), k ≤ A.length ∧ k ≤ 100 ∧ i = .int .i64 k ∧ TH wr bt T ∧ SM wr bm k T ∧ Below w.heap.size w wr) (fun i _ => A.length - (intOf i).toNat)
  case atStart => exact ⟨0, [], Nat.zero_le _, by omega, rfl, ht3, hM3, hb3⟩
  case round =>
    clear ht3 hM3 hb3 hbm
    obtain ⟨k, T, hk, hk100, rfl, ht, hM, hbel⟩ := hrel
    have hwr := hbel.size
    by_cases hgo : k < A.length ∧ k < 100
    · obtain ⟨hlt, h100⟩ := hgo
      have g1 : ((k : Int) < (A.length : Int)) := by omega
      have g2 : ((k : Int) < 100) := by omega
      have g3 : (0 : Int) ≤ (k : Int) := by omega
      obtain ⟨b, off, rfl, hx0⟩ := op_at hA.lies k hlt
      have hbw := (hA.lies.at (k := 6) oenc_len k hlt)
      obtain ⟨b', off', e0, hbl, hc⟩ := hbw
      cases e0
      generalize A[k] = x at *
      have cc : ∀ W, Below w.heap.size w W → W.cell? ⟨b, off + k * 6, none⟩ = some (.int .i64 x.kind) ∧ W.cell? ⟨b, off + k * 6 + 1, none⟩ = some (.string x.key) ∧ W.cell? ⟨b, off + k * 6 + 2, none⟩ = some (.string x.val) ∧ W.cell? ⟨b, off + k * 6 + 3, none⟩ = some (.int .i64 x.stamp) ∧ W.cell? ⟨b, off + k * 6 + 4, none⟩ = some (.int .i64 x.test) ∧ W.cell? ⟨b, off + k * 6 + 5, none⟩ = some (.int .i64 x.most) := fun W hb => by
        have hq := fun j u hj => (hb.cell (p := ⟨b, off + k * 6 + j, none⟩) hbl).trans (hc j u hj)
        exact ⟨by have := hq 0 _ rfl; rwa [Nat.add_zero] at this, hq 1 _ rfl, hq 2 _ rfl, hq 3 _ rfl, hq 4 _ rfl, hq 5 _ rfl⟩
      obtain ⟨c0, c1, c2, c3, c4, c5⟩ := cc wr hbel
      clear hc cc
      have i5 : (k : Int) + 1 ≤ (ac : Int) := by omega
      have i7 : ¬ ac = k := by omega
      have i9 : k + 1 - k = 1 := by omega
      have hba := below_a1 wr (.cells (rc oenc [x]).toArray OpT)
      have hxa := heap_alloc_new wr (.cells (rc oenc [x]).toArray OpT)
      have hb1 := hbel.trans (hba.mono hwr)
      have htx := ht.below hba
      have hMx := hM.below hba
      have hDo := Do_tb bt T (some ⟨b, off + k * 6, none⟩) (ac - k) [x] _ htx (hx0.below hb1)
      have hok := ht.1
      have hKC : ∀ W, Calls Try.prog 24 #[x.v] W fun e w' => e = .returned (.int .i64 (chkI x.may)) ∧ Below W.heap.size W w' := fun W => Check_op x W
      have hKW : ∀ W, Calls Try.prog 23 #[x.v] W fun e w' => e = .returned (.bool x.writes) ∧ Below W.heap.size W w' := fun W => Writes_op x W
      have hnx : wr.heap.size ≠ bt := by have := ht.lt; omega
      cases hm : x.may
      · rw [dos_one_bad T hm] at hDo
        rw [hm, show chkI false = 80 from rfl] at hKC
        go_wp2_with fail
        refine hDo.mono ?_
        rintro e w4 ⟨ra, rcap, rl, rfl, hD⟩
        have hb4 := turn_below hb1 lt1 hD.turn
        have ht4 := hD.tab
        have hM4 := hMx.turn htx hD.turn
        have hx4 := (hD.turn.block _ (Array.getElem?_eq_some_iff.1 hxa).1 hnx).trans hxa
        have x0 : w4.cell? ⟨wr.heap.size, 0, none⟩ = some (.int .i64 x.kind) := cellB hx4 0 rfl
        have x1 : w4.cell? ⟨wr.heap.size, 1, none⟩ = some (.string x.key) := cellB hx4 1 rfl
        have x2 : w4.cell? ⟨wr.heap.size, 2, none⟩ = some (.string x.val) := cellB hx4 2 rfl
        have x3 : w4.cell? ⟨wr.heap.size, 3, none⟩ = some (.int .i64 x.stamp) := cellB hx4 3 rfl
        have x4 : w4.cell? ⟨wr.heap.size, 4, none⟩ = some (.int .i64 x.test) := cellB hx4 4 rfl
        have x5 : w4.cell? ⟨wr.heap.size, 5, none⟩ = some (.int .i64 x.most) := cellB hx4 5 rfl
        have hr0 : rl.length = 0 := by have := congrArg List.length hD.eqs; simpa using this
        rw [hr0]
        have hxl := (Array.getElem?_eq_some_iff.1 hx4).1
        clear hDo hD hba hxa hb1 htx hMx ht hM hbel c0 c1 c2 c3 c4 c5 hr0
        go_wp2_with fail
        refine (hKC _).mono ?_
        rintro e w5 ⟨rfl, hb⟩
        have hb' := (below_a1 w4 (.cells #[.int .i64 0, .int .i64 80] FltT)).trans (hb.mono (by simp))
        have ht5 := ht4.below hb'
        have hM5 := (hM4.below hb').mono (Nat.le_succ k)
        have hb5 := hb4.trans (hb'.mono hb4.size)
        clear hb hb' ht4 hM4 hb4 x0 x1 x2 x3 x4 x5
        go_wp2
        exact ⟨⟨k + 1, T, by omega, by omega, by go_num, ht5, hM5, hb5⟩, by simp [intOf]; omega⟩
      · rw [dos_one T hm] at hDo
        clear hKC
        go_wp2_with fail
        refine hDo.mono ?_
        rintro e w4 ⟨ra, rcap, rl, rfl, hD⟩
        have hb4 := turn_below hb1 lt1 hD.turn
        have ht4 := hD.tab
        have hM4 := hMx.turn htx hD.turn
        have hx4 := (hD.turn.block _ (Array.getElem?_eq_some_iff.1 hxa).1 hnx).trans hxa
        have x0 : w4.cell? ⟨wr.heap.size, 0, none⟩ = some (.int .i64 x.kind) := cellB hx4 0 rfl
        have x1 : w4.cell? ⟨wr.heap.size, 1, none⟩ = some (.string x.key) := cellB hx4 1 rfl
        have x2 : w4.cell? ⟨wr.heap.size, 2, none⟩ = some (.string x.val) := cellB hx4 2 rfl
        have x3 : w4.cell? ⟨wr.heap.size, 3, none⟩ = some (.int .i64 x.stamp) := cellB hx4 3 rfl
        have x4 : w4.cell? ⟨wr.heap.size, 4, none⟩ = some (.int .i64 x.test) := cellB hx4 4 rfl
        have x5 : w4.cell? ⟨wr.heap.size, 5, none⟩ = some (.int .i64 x.most) := cellB hx4 5 rfl
        have hxl := (Array.getElem?_eq_some_iff.1 hx4).1
        obtain ⟨R, g, rfl, hR, rfl, hg, d0, d1, d2, d3, -⟩ := hD.single
        have hgb := hide (hD.blk rfl)
        simp only [List.length_cons, List.length_nil]
        clear hDo hD hba hxa hb1 htx hMx ht hM hbel c0 c1 c2 c3 c4 c5 d2 d3
        cases hw : x.writes
        · rw [hw] at hKW
          rw [read_same T (read_kind hm hw)] at ht4
          go_wp2_with fail
          refine (hKW _).mono ?_
          rintro e w5 ⟨rfl, hb⟩
          have hb' := (below_a1 w4 (.cells #[.int .i64 0, .int .i64 0] FltT)).trans (hb.mono (by simp))
          have ht5 := ht4.below hb'
          have hM5 := (hM4.below hb').mono (Nat.le_succ k)
          have hb5 := hb4.trans (hb'.mono hb4.size)
          clear hb hb' ht4 hM4 hb4 x0 x1 x2 x3 x4 x5 d0 d1
          go_wp2
          exact ⟨⟨k + 1, T, by omega, by omega, by go_num, ht5, hM5, hb5⟩, by simp [intOf]; omega⟩
        · rw [hw] at hKW
          by_cases hc : (one T x).1.code = 0
          · rcases one_write hm hw hc with ⟨h4, r, hro, h1⟩ | ⟨h4, h1, hst, hk1, hvs⟩
            · rw [h1] at ht4 d0 d1
              have H4 := hide h4
              clear h4
              go_wp2_with fail
              refine (hKW _).mono ?_
              rintro e w5 ⟨rfl, hb⟩
              have hb' := (below_a1 w4 (.cells #[.int .i64 0, .int .i64 0] FltT)).trans (hb.mono (by simp))
              have ht5 := ht4.below hb'
              have hM5 := hM4.below hb'
              have hb5 := hb4.trans (hb'.mono hb4.size)
              have d05 := (hb'.cell (p := ⟨g, 0, none⟩) hg).trans d0
              have d15 := (hb'.cell (p := ⟨g, 1, none⟩) hg).trans d1
              have hx5 := (hb'.block _ hxl).trans hx4
              have y1 : w5.cell? ⟨wr.heap.size, 1, none⟩ = some (.string x.key) := cellB hx5 1 rfl
              have hxl5 := (Array.getElem?_eq_some_iff.1 hx5).1
              obtain ⟨gc, hgc⟩ := hgb.out
              have hgc5 := (hb'.block _ hg).trans hgc
              clear hb hb' ht4 hM4 hb4 x0 x1 x2 x3 x4 x5 d0 d1 hxl hx4
              have hba := below_a1 w5 (.cells (rc oenc [(⟨5, x.key, ⟨#[]⟩, 0, 0, 0⟩ : Opn)]).toArray OpT)
              have hza := heap_alloc_new w5 (.cells (rc oenc [(⟨5, x.key, ⟨#[]⟩, 0, 0, 0⟩ : Opn)]).toArray OpT)
              have hb6 := hb5.trans (hba.mono hb5.size)
              have hDo := Do_tb bt (del T x.key) (some ⟨w5.heap.size, 0, none⟩) 1 [⟨5, x.key, ⟨#[]⟩, 0, 0, 0⟩] _ (ht5.below hba) (ops_lie hza)
              rw [get_del hm hw] at hDo
              have hz5 : w5.heap.size ≠ bt := by have := ht5.lt; omega
              go_wp2_with fail
              refine hDo.mono ?_
              rintro e w6 ⟨ra6, rcap6, rl6, rfl, hD⟩
              have hb7 := turn_below hb6 lt1 hD.turn
              have ht6 := hD.tab
              have hM6 := (hM5.below hba).turn (ht5.below hba) hD.turn
              have hx6 := (hD.turn.block _ (Nat.lt_of_lt_of_le hxl5 hba.size) hnx).trans ((hba.block _ hxl5).trans hx5)
              have hgl5 := (Array.getElem?_eq_some_iff.1 hgc5).1
              have hgne : g ≠ bt := by
                rintro rfl
                obtain ⟨_, _, _, htg, _⟩ := ht5
                rw [hgc5] at htg
                simp only [Option.some.injEq, Obj.cells.injEq] at htg
                exact absurd htg.2.1 (by decide)
              have hgc6 := (hD.turn.block _ (Nat.lt_of_lt_of_le hgl5 hba.size) hgne).trans (hba.block _ hgl5)
              have q0 : w6.cell? ⟨g, 0, none⟩ = some (.int .i64 0) := (World.cell?_of_block (a := ⟨g, 0, none⟩) hgc6).trans d05
              have q1 : w6.cell? ⟨g, 1, none⟩ = some (.int .i64 r.stamp) := (World.cell?_of_block (a := ⟨g, 1, none⟩) hgc6).trans d15
              have x0 : w6.cell? ⟨wr.heap.size, 0, none⟩ = some (.int .i64 x.kind) := cellB hx6 0 rfl
              have x1 : w6.cell? ⟨wr.heap.size, 1, none⟩ = some (.string x.key) := cellB hx6 1 rfl
              have x2 : w6.cell? ⟨wr.heap.size, 2, none⟩ = some (.string x.val) := cellB hx6 2 rfl
              have x3 : w6.cell? ⟨wr.heap.size, 3, none⟩ = some (.int .i64 x.stamp) := cellB hx6 3 rfl
              obtain ⟨R6, g6, rfl, hR6, rfl, hg6, e0, e1, e2, e3, -⟩ := hD.single
              simp only [List.length_cons, List.length_nil]
              have hz56 := Nat.le_trans hba.size hD.turn.size
              clear hDo hD hba hza hb6 hb5 ht5 hM5 hx5 hgc5 hgc6 d05 d15 y1 e3 hgc
              have hxl6 := (Array.getElem?_eq_some_iff.1 hx6).1
              have hgl6 := Nat.lt_of_lt_of_le hgl5 hz56
              have hba := below_a1 w6 (.cells #[.int .i64 0, .int .i64 0] FltT)
              have hM7 := hM6.below hba
              have ht7 := ht6.below hba
              have hb8 := hb7.trans (hba.mono hb7.size)
              have qa := (hba.cell (p := ⟨g, 1, none⟩) hgl6).trans q1
              have xa := (hba.cell (p := ⟨wr.heap.size, 0, none⟩) hxl6).trans x0
              have xb := (hba.cell (p := ⟨wr.heap.size, 1, none⟩) hxl6).trans x1
              have xc := (hba.cell (p := ⟨wr.heap.size, 2, none⟩) hxl6).trans x2
              have xd := (hba.cell (p := ⟨wr.heap.size, 3, none⟩) hxl6).trans x3
              have ea := (hba.cell (p := ⟨g6, 0, none⟩) hg6).trans e0
              have eb := (hba.cell (p := ⟨g6, 1, none⟩) hg6).trans e1
              have ec := (hba.cell (p := ⟨g6, 2, none⟩) hg6).trans e2
              clear hba
              have hlk := fun n => (hM7.below (below_drewN (Below.refl _ _) n)).look (q := x.key) (get_may hm hw).2
              have hsv : stv T x.key = r.stamp := by unfold stv; rw [hro]
              rw [hsv] at hlk
              have bk : (x.kind == 4) = true := by simp [H4.out]
              have bs : (r.stamp != r.stamp) = false := by simp
              go_wp2
              obtain ⟨w7, hw7⟩ : ∃ w7, w7 = w6.alloc (.cells #[.int .i64 0, .int .i64 0] FltT) := ⟨_, rfl⟩
              rw [← hw7] at hM7 ht7 hb8 qa xa xb xc xd ea eb ec hlk ⊢
              clear hw7 x0 x1 x2 x3 e0 e1 e2 q0 q1 ht6 hM6 hb7
              go_quiet (fail)
              have hbq := below_drewN (Below.refl w7.heap.size w7) nq
              obtain ⟨w8, hrun, hM8, hmt⟩ := (hM7.below hbq).drop hok.rise hro (get_may hm hw).2 0
              have ht8 := TH.mapped (hM7.below hbq) (ht7.below hbq) hmt
              have hb9 := (hb8.trans (hbq.mono hb8.size)).grown hmt.grown (Nat.le_trans hb8.size hbq.size) (fun j hj => by cases hj; exact hz2)
              have hM9 := hM8.mono (Nat.le_succ k)
              clear hM8 hmt hbq
              go_wp2
              exact ⟨⟨k + 1, del T x.key, by omega, by omega, by go_num, ht8, hM9, hb9⟩, by simp [intOf]; omega⟩
            · rw [h1] at ht4 d0 d1
              have H4 := hide h4
              clear h4
              go_wp2_with fail
              refine (hKW _).mono ?_
              rintro e w5 ⟨rfl, hb⟩
              have hb' := (below_a1 w4 (.cells #[.int .i64 0, .int .i64 0] FltT)).trans (hb.mono (by simp))
              have ht5 := ht4.below hb'
              have hM5 := hM4.below hb'
              have hb5 := hb4.trans (hb'.mono hb4.size)
              have d05 := (hb'.cell (p := ⟨g, 0, none⟩) hg).trans d0
              have d15 := (hb'.cell (p := ⟨g, 1, none⟩) hg).trans d1
              have hx5 := (hb'.block _ hxl).trans hx4
              have y1 : w5.cell? ⟨wr.heap.size, 1, none⟩ = some (.string x.key) := cellB hx5 1 rfl
              have hxl5 := (Array.getElem?_eq_some_iff.1 hx5).1
              obtain ⟨gc, hgc⟩ := hgb.out
              have hgc5 := (hb'.block _ hg).trans hgc
              clear hb hb' ht4 hM4 hb4 x0 x1 x2 x3 x4 x5 d0 d1 hxl hx4
              have hba := below_a1 w5 (.cells (rc oenc [(⟨5, x.key, ⟨#[]⟩, 0, 0, 0⟩ : Opn)]).toArray OpT)
              have hza := heap_alloc_new w5 (.cells (rc oenc [(⟨5, x.key, ⟨#[]⟩, 0, 0, 0⟩ : Opn)]).toArray OpT)
              have hb6 := hb5.trans (hba.mono hb5.size)
              have hDo := Do_tb bt (put T (Opn.row x)) (some ⟨w5.heap.size, 0, none⟩) 1 [⟨5, x.key, ⟨#[]⟩, 0, 0, 0⟩] _ (ht5.below hba) (ops_lie hza)
              rw [get_put hm hw] at hDo
              have hz5 : w5.heap.size ≠ bt := by have := ht5.lt; omega
              go_wp2_with fail
              refine hDo.mono ?_
              rintro e w6 ⟨ra6, rcap6, rl6, rfl, hD⟩
              have hb7 := turn_below hb6 lt1 hD.turn
              have ht6 := hD.tab
              have hM6 := (hM5.below hba).turn (ht5.below hba) hD.turn
              have hx6 := (hD.turn.block _ (Nat.lt_of_lt_of_le hxl5 hba.size) hnx).trans ((hba.block _ hxl5).trans hx5)
              have hgl5 := (Array.getElem?_eq_some_iff.1 hgc5).1
              have hgne : g ≠ bt := by
                rintro rfl
                obtain ⟨_, _, _, htg, _⟩ := ht5
                rw [hgc5] at htg
                simp only [Option.some.injEq, Obj.cells.injEq] at htg
                exact absurd htg.2.1 (by decide)
              have hgc6 := (hD.turn.block _ (Nat.lt_of_lt_of_le hgl5 hba.size) hgne).trans (hba.block _ hgl5)
              have q0 : w6.cell? ⟨g, 0, none⟩ = some (.int .i64 0) := (World.cell?_of_block (a := ⟨g, 0, none⟩) hgc6).trans d05
              have q1 : w6.cell? ⟨g, 1, none⟩ = some (.int .i64 x.stamp) := (World.cell?_of_block (a := ⟨g, 1, none⟩) hgc6).trans d15
              have x0 : w6.cell? ⟨wr.heap.size, 0, none⟩ = some (.int .i64 x.kind) := cellB hx6 0 rfl
              have x1 : w6.cell? ⟨wr.heap.size, 1, none⟩ = some (.string x.key) := cellB hx6 1 rfl
              have x2 : w6.cell? ⟨wr.heap.size, 2, none⟩ = some (.string x.val) := cellB hx6 2 rfl
              have x3 : w6.cell? ⟨wr.heap.size, 3, none⟩ = some (.int .i64 x.stamp) := cellB hx6 3 rfl
              obtain ⟨R6, g6, rfl, hR6, rfl, hg6, e0, e1, e2, e3, -⟩ := hD.single
              simp only [List.length_cons, List.length_nil]
              have hz56 := Nat.le_trans hba.size hD.turn.size
              clear hDo hD hba hza hb6 hb5 ht5 hM5 hx5 hgc5 hgc6 d05 d15 y1 e3 hgc
              have hxl6 := (Array.getElem?_eq_some_iff.1 hx6).1
              have hgl6 := Nat.lt_of_lt_of_le hgl5 hz56
              have hba := below_a1 w6 (.cells #[.int .i64 0, .int .i64 0] FltT)
              have hM7 := hM6.below hba
              have ht7 := ht6.below hba
              have hb8 := hb7.trans (hba.mono hb7.size)
              have qa := (hba.cell (p := ⟨g, 1, none⟩) hgl6).trans q1
              have xa := (hba.cell (p := ⟨wr.heap.size, 0, none⟩) hxl6).trans x0
              have xb := (hba.cell (p := ⟨wr.heap.size, 1, none⟩) hxl6).trans x1
              have xc := (hba.cell (p := ⟨wr.heap.size, 2, none⟩) hxl6).trans x2
              have xd := (hba.cell (p := ⟨wr.heap.size, 3, none⟩) hxl6).trans x3
              have ea := (hba.cell (p := ⟨g6, 0, none⟩) hg6).trans e0
              have eb := (hba.cell (p := ⟨g6, 1, none⟩) hg6).trans e1
              have ec := (hba.cell (p := ⟨g6, 2, none⟩) hg6).trans e2
              clear hba
              have hlk := fun n => (hM7.below (below_drewN (Below.refl _ _) n)).look (q := x.key) (get_may hm hw).2
              have bk : (x.kind == 4) = false := by simp [H4.out]
              have bs : ¬ x.stamp ≤ stv T x.key := by omega
              have bv : (x.val.toList != x.val.toList) = false := by simp
              have bt1 : (x.stamp != x.stamp) = false := by simp
              have HK1 := hide hk1
              clear hk1
              by_cases h1k : x.kind = 1
              case' pos =>
                have b1 : (x.kind == 1) = true := by simp [h1k]
                have HS := hide (HK1.out h1k)
                have bz : (stv T x.key != 0) = false := by rw [HS.out]; rfl
                clear h1k HS
              case' neg =>
                have b1 : (x.kind == 1) = false := by simp [h1k]
                clear h1k
              all_goals
                go_wp2
                obtain ⟨w7, hw7⟩ : ∃ w7, w7 = w6.alloc (.cells #[.int .i64 0, .int .i64 0] FltT) := ⟨_, rfl⟩
                rw [← hw7] at hM7 ht7 hb8 qa xa xb xc xd ea eb ec hlk ⊢
                clear hw7 x0 x1 x2 x3 e0 e1 e2 q0 q1 ht6 hM6 hb7
                go_quiet (fail)
                have hbq := below_drewN (Below.refl w7.heap.size w7) nq
                obtain ⟨w8, hrun0, hM8, hmt⟩ := (hM7.below hbq).put (by omega) hok.rise (Opn.row x) (get_may hm hw).2
                have hrun : (Instr.mapUpdate StmT (.map (some bm)) (.string x.key) (.int .i64 x.stamp)).run Try.prog (w7.drewN nq) = .ok () w8 := hrun0
                have ht8 := TH.mapped (hM7.below hbq) (ht7.below hbq) hmt
                have hb9 := (hb8.trans (hbq.mono hb8.size)).grown hmt.grown (Nat.le_trans hb8.size hbq.size) (fun j hj => by cases hj; exact hz2)
                clear hmt hbq hrun0
                go_wp2
                exact ⟨⟨k + 1, put T (Opn.row x), by omega, by omega, by go_num, ht8, hM8, hb9⟩, by simp [intOf]; omega⟩
          · rw [one_fail hc] at ht4
            have bc : ((one T x).1.code != 0) = true := by simp [hc]
            generalize (one T x).1.code = cd at d0 bc
            go_wp2_with fail
            refine (hKW _).mono ?_
            rintro e w5 ⟨rfl, hb⟩
            have hb' := (below_a1 w4 (.cells #[.int .i64 0, .int .i64 0] FltT)).trans (hb.mono (by simp))
            have ht5 := ht4.below hb'
            have hM5 := (hM4.below hb').mono (Nat.le_succ k)
            have hb5 := hb4.trans (hb'.mono hb4.size)
            have d05 := (hb'.cell (p := ⟨g, 0, none⟩) hg).trans d0
            clear hb hb' ht4 hM4 hb4 x0 x1 x2 x3 x4 x5 d0 d1
            go_wp2
            exact ⟨⟨k + 1, T, by omega, by omega, by go_num, ht5, hM5, hb5⟩, by simp [intOf]; omega⟩
    · have hstop : Hid (((k : Int) < (A.length : Int) ∧ ¬ (k : Int) < 100) ∨ ¬ (k : Int) < (A.length : Int)) := by
        by_cases h1 : k < A.length
        · exact Or.inl ⟨by omega, by omega⟩
        · exact Or.inr (by omega)
      clear hgo
      have hlen := hM.len 3
      have e1 : ((T.length : Int) == (T.length : Int)) = true := by simp
      rcases hstop.out with ⟨g1, g2⟩ | g1
      all_goals
        clear hstop
        go_wp2_with fail
        refine (Len_tb bt T wr ht).mono ?_
        rintro e w9 ⟨rfl, hw9⟩
        rw [hw9]
        clear hw9
        go_wp2
        go_ret
        exact ⟨rfl, hbel⟩

end Go.Proofs.Ythdempdiibjabaa.Tb
