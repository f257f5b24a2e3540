/- ClockPlays: a clock of any seed under any calls answers, call by call, as the document has it. Proved: for every number of nodes, every seed and every list of calls, no condition. -/
import Derived.Test.YtkofmdchopfcgaaCkRef3
import Derived.Test.YtkofmdchopfcgaaCkForks
import Derived.Test.YtkofmdchopfcgaaCkActs
namespace Go.Proofs.Ytkofmdchopfcgaa.Ck
open Go.RowKit Go.Joins Gk

theorem Sw.trans {a b c : World} (h : Sw a b) (k : Sw b c) : Sw a c := ⟨k.1.trans h.1, h.2.trans (k.2.mono h.2.size)⟩
abbrev ActT : TypeId := 32

set_option maxHeartbeats 12800000 in
set_option maxRecDepth 100000 in
theorem plays_law (nodes : Int) (seed : Int) (a : Option Addr) (cap : Nat) (ac : List ActV) (w : World) (wf : (Lit.int .i64 nodes).wf = true) (wf2 : (Lit.int .u64 seed).wf = true) (hl : ActsAt w a cap ac) :
    Calls Try.prog 3 #[.int .i64 nodes, .int .u64 seed, .slice a ac.length cap] w fun e w' => e = .returned (.bool true) ∧ Below w.heap.size w w' := by
  have hnb := bounds_i64 wf
  have hsb := bounds_u64 wf2
  have hrm := hl.room
  have hmx := hl.max
  by_cases hbad : nodes < 1 ∨ 16 < nodes
  · have h1 := fun W => new_bad nodes seed W hbad
    have h2 := fun W => rnew_bad nodes seed W hbad
    go_enter Try.func3, Try.ntmps3
    go_wp2_with (first | (go_at_call 7; refine (h1 _).mono ?_; rintro e w1 ⟨rfl, rfl⟩) | (go_at_call 8; refine (h2 _).mono ?_; rintro e w2 ⟨rfl, rfl⟩))
    go_loopw [7, 9, 11] (fun cv _ i wr => cv = .pointer none ∧ i = .int .i64 0 ∧ wr = w2) (fun _ _ _ _ => 0)
    case atStart => exact ⟨rfl, rfl, rfl⟩
    case round =>
      obtain ⟨rfl, rfl, rfl⟩ := hrel
      go_wp2_with (first | (go_at_call 22; refine (works_any _).mono ?_; rintro e w3 ⟨rfl, hb3⟩))
      go_ret
      exact ⟨rfl, hb3⟩
  · obtain ⟨n, rfl⟩ : ∃ n : Nat, nodes = (n : Int) := ⟨nodes.toNat, by omega⟩
    have n1 : 1 ≤ n := by omega
    have n2 : n ≤ 16 := by omega
    obtain ⟨s0, s1'⟩ := hsb
    have s1 : seed < 18446744073709551616 := by omega
    clear hbad
    go_enter Try.func3, Try.ntmps3
    go_wp2_with fail
    refine (new_ok n seed w n1 n2 ⟨s0, s1⟩).mono ?_
    rintro e w1 ⟨bc, g, rfl, hbc, hg, hh1, hb1⟩
    go_wp2_with fail
    refine (rnew_ok n seed w1 n1 n2 ⟨s0, s1⟩).mono ?_
    rintro e w2 ⟨br, gr, rfl, hbr, hgr, hr2, hb2⟩
    have hfar := far_new hh1 hbr hgr
    have hh2 := hh1.below hb2
    have hbr' := Nat.le_trans hb1.size hbr
    have hgr' := Nat.le_trans hb1.size hgr
    have hbw : Below w.heap.size w w2 := hb1.trans (hb2.mono hb1.size)
    clear hb1 hb2 hbr hgr hh1
    go_wp2
    go_loopw [7, 9, 11] (fun cv rv i wr => ∃ (k bc g br gr : Nat) (S : Cst), k ≤ ac.length ∧ k ≤ 300 ∧ i = .int .i64 k ∧ cv = .pointer (some ⟨bc, 0, none⟩) ∧ rv = .pointer (some ⟨br, 0, none⟩) ∧ CHeld wr ClkT bc g S ∧ CHeld wr RClkT br gr S ∧ S.Ok ∧ Far bc g br gr ∧ w.heap.size ≤ bc ∧ w.heap.size ≤ g ∧ w.heap.size ≤ br ∧ w.heap.size ≤ gr ∧ Below w.heap.size w wr) (fun _ _ i _ => 300 - (intOf i).toNat)
    case atStart => exact ⟨0, bc, g, br, gr, Cst.new n seed, by omega, by omega, rfl, rfl, rfl, hh2, hr2, Cst.new_ok n1 n2 ⟨s0, s1⟩, hfar, hbc, hg, hbr', hgr', hbw⟩
    case round =>
      clear hh2 hr2 hfar hbc hg hbr' hgr' hbw
      obtain ⟨k, bc, g, br, gr, S, hk, hk1, rfl, rfl, rfl, hC, hR, hok, hfar, hb1, hb2, hb3, hb4, hbel⟩ := hrel
      by_cases hlt : k < ac.length ∧ k < 300
      · obtain ⟨hlt1, hlt2⟩ := hlt
        have j1 : (k : Int) < (ac.length : Int) := by omega
        have j2 : (k : Int) < 300 := by omega
        have j0 : (0 : Int) ≤ (k : Int) := by omega
        obtain ⟨b, off, rfl, hc⟩ := hl.cells k hlt1
        have hx := hl.each ac[k] (List.getElem_mem hlt1)
        generalize ac[k] = x at *
        obtain ⟨xk1, xk2⟩ := hx.kind
        obtain ⟨ck, cn, cv⟩ := hc wr hbel
        have hk0 : 0 ≤ x.kind % 5 := Int.emod_nonneg _ (by omega)
        have hk5 : x.kind % 5 < 5 := Int.emod_lt_of_pos _ (by omega)
        have aK := fun W => among_any x.kind 5 W (by omega) (by omega) xk1 xk2
        generalize x.kind % 5 = kd at *
        have hab : wr.heap.size ≠ bc := by have := hC.lt; omega
        have hag : wr.heap.size ≠ g := by have := hC.rowLt; omega
        have hB0 := below_alloc1 wr (.cells #[.int .i64 x.kind, .int .i64 x.node, .int .i64 x.n] ActT)
        have hA0 := heap_alloc_new wr (.cells #[.int .i64 x.kind, .int .i64 x.node, .int .i64 x.n] ActT)
        have hC0 := hC.below hB0
        have hR0 := hR.below hB0
        have hbel0 : Below w.heap.size w _ := hbel.alloc hbel.size (.cells #[.int .i64 x.kind, .int .i64 x.node, .int .i64 x.n] ActT)
        obtain ⟨W, hW⟩ : ∃ W, W = wr.alloc (.cells #[.int .i64 x.kind, .int .i64 x.node, .int .i64 x.n] ActT) := ⟨_, rfl⟩
        rw [← hW] at hA0 hC0 hR0 hbel0
        clear hx hc hC hR hbel hB0
        go_wp2_with fail
        rw [← hW]
        clear hW ck cn cv
        refine (aK W).mono ?_
        rintro e w4 ⟨rfl, rfl⟩
        clear aK
        generalize wr.heap.size = ba at *
        have d1 : W.cell? ⟨ba, 1, none⟩ = some (.int .i64 x.node) := cell_of_block hA0 1
        have d2 : W.cell? ⟨ba, 2, none⟩ = some (.int .i64 x.n) := cell_of_block hA0 2
        have hbaW : ba < W.heap.size := (Array.getElem?_eq_some_iff.1 hA0).1
        have hkk : kd = 0 ∨ kd = 1 ∨ kd = 2 ∨ kd = 3 ∨ kd = 4 := by omega
        rcases hkk with rfl | rfl | rfl | rfl | rfl
        · have hSt := step_any W hC0 hok x.node x.n
          have hok' := hok.step x.node x.n
          go_wp2_with fail
          refine hSt.mono ?_
          rintro e w5 ⟨rfl, hC5, ho5⟩
          have hR5 := hR0.far ho5 hfar
          have hA5 := (ho5.block ba hbaW fun e => e.elim hab hag).trans hA0
          have hb5 := below_only hbel0 ho5 hb1 hb2
          have e1 : w5.cell? ⟨ba, 1, none⟩ = some (.int .i64 x.node) := cell_of_block hA5 1
          have e2 : w5.cell? ⟨ba, 2, none⟩ = some (.int .i64 x.n) := cell_of_block hA5 2
          have hRt := rstep_any w5 hR5 hok x.node x.n
          clear hSt ho5 hA5 hR5 hC0 hR0 hA0 d1 d2 hbel0 hbaW
          go_wp2_with fail
          refine hRt.mono ?_
          rintro e X ⟨rfl, hRX, hoX⟩
          have hCX := hC5.far hoX hfar.symm
          have hbX := below_only hb5 hoX hb3 hb4
          clear hRt hoX hC5 hb5 e1 e2
          have hfX := hfar
          have hb1X := hb1
          have hb2X := hb2
          have hb3X := hb3
          have hb4X := hb4
          generalize (S.step x.node x.n).2 = S' at *
          generalize (S.step x.node x.n).1.1 = rx at *
          generalize (S.step x.node x.n).1.2 = rg at *
          have hrx : (rx != rx) = false := by simp
          have hrg : (rg != rg) = false := by simp
          have hAc := fun W (hw : Sw X W) => apart_any W (hCX.sw hw) hok'
          have hAr := fun W (hw : Sw X W) => rapart_any W (hRX.sw hw) hok'
          have hap : (S'.apart != S'.apart) = false := by simp
          have hS := Sw.refl X
          have HCX := hide hCX
          have HRX := hide hRX
          clear hCX hRX
          generalize S'.apart = ap at *
          go_wp2_with fail
          refine (hAc _ hS).mono ?_
          rintro e wp ⟨rfl, hsp⟩
          go_wp2_with fail
          refine (hAr _ hsp).mono ?_
          rintro e wq ⟨rfl, hsq⟩
          have hE := Sw.trans hsp hsq
          clear hAc hAr hS hsp hsq
          go_wp2
          go_roundw
          case rel => exact ⟨k + 1, _, _, _, _, S', by omega, by omega, by go_num, rfl, rfl, HCX.out.sw hE, HRX.out.sw hE, hok', hfX, hb1X, hb2X, hb3X, hb4X, hbX.trans (hE.2.mono hbX.size)⟩
          case measure => simp [intOf]; omega
        · have hSt := all_any W hC0 hok x.n
          have hok' := hok.all x.n
          go_wp2_with fail
          refine hSt.mono ?_
          rintro e w5 ⟨rfl, hC5, ho5⟩
          have hR5 := hR0.far ho5 hfar
          have hA5 := (ho5.block ba hbaW fun e => e.elim hab hag).trans hA0
          have hb5 := below_only hbel0 ho5 hb1 hb2
          have e1 : w5.cell? ⟨ba, 1, none⟩ = some (.int .i64 x.node) := cell_of_block hA5 1
          have e2 : w5.cell? ⟨ba, 2, none⟩ = some (.int .i64 x.n) := cell_of_block hA5 2
          have hRt := rall_any w5 hR5 hok x.n
          clear hSt ho5 hA5 hR5 hC0 hR0 hA0 d1 d2 hbel0 hbaW
          go_wp2_with fail
          refine hRt.mono ?_
          rintro e X ⟨rfl, hRX, hoX⟩
          have hCX := hC5.far hoX hfar.symm
          have hbX := below_only hb5 hoX hb3 hb4
          clear hRt hoX hC5 hb5 e1 e2
          have hfX := hfar
          have hb1X := hb1
          have hb2X := hb2
          have hb3X := hb3
          have hb4X := hb4
          generalize (S.all x.n).2 = S' at *
          generalize (S.all x.n).1 = rg at *
          have hrg : (rg != rg) = false := by simp
          have hAc := fun W (hw : Sw X W) => apart_any W (hCX.sw hw) hok'
          have hAr := fun W (hw : Sw X W) => rapart_any W (hRX.sw hw) hok'
          have hap : (S'.apart != S'.apart) = false := by simp
          have hS := Sw.refl X
          have HCX := hide hCX
          have HRX := hide hRX
          clear hCX hRX
          generalize S'.apart = ap at *
          go_wp2_with fail
          refine (hAc _ hS).mono ?_
          rintro e wp ⟨rfl, hsp⟩
          go_wp2_with fail
          refine (hAr _ hsp).mono ?_
          rintro e wq ⟨rfl, hsq⟩
          have hE := Sw.trans hsp hsq
          clear hAc hAr hS hsp hsq
          go_wp2
          go_roundw
          case rel => exact ⟨k + 1, _, _, _, _, S', by omega, by omega, by go_num, rfl, rfl, HCX.out.sw hE, HRX.out.sw hE, hok', hfX, hb1X, hb2X, hb3X, hb4X, hbX.trans (hE.2.mono hbX.size)⟩
          case measure => simp [intOf]; omega
        · have hSt := draw_any W hC0 x.n
          have hok' := hok.draw x.n
          go_wp2_with fail
          refine hSt.mono ?_
          rintro e w5 ⟨rfl, hC5, ho5⟩
          have hR5 := hR0.far ho5 hfar
          have hA5 := (ho5.block ba hbaW fun e => e.elim hab hag).trans hA0
          have hb5 := below_only hbel0 ho5 hb1 hb2
          have e1 : w5.cell? ⟨ba, 1, none⟩ = some (.int .i64 x.node) := cell_of_block hA5 1
          have e2 : w5.cell? ⟨ba, 2, none⟩ = some (.int .i64 x.n) := cell_of_block hA5 2
          have hRt := rdraw_any w5 hR5 x.n
          clear hSt ho5 hA5 hR5 hC0 hR0 hA0 d1 d2 hbel0 hbaW
          go_wp2_with fail
          refine hRt.mono ?_
          rintro e X ⟨rfl, hRX, hoX⟩
          have hCX := hC5.far hoX hfar.symm
          have hbX := below_only hb5 hoX hb3 hb4
          clear hRt hoX hC5 hb5 e1 e2
          have hfX := hfar
          have hb1X := hb1
          have hb2X := hb2
          have hb3X := hb3
          have hb4X := hb4
          generalize (S.draw x.n).2 = S' at *
          generalize (S.draw x.n).1.1 = rx at *
          generalize (S.draw x.n).1.2 = rg at *
          have hrx : (rx != rx) = false := by simp
          have hrg : (rg != rg) = false := by simp
          have hAc := fun W (hw : Sw X W) => apart_any W (hCX.sw hw) hok'
          have hAr := fun W (hw : Sw X W) => rapart_any W (hRX.sw hw) hok'
          have hap : (S'.apart != S'.apart) = false := by simp
          have hS := Sw.refl X
          have HCX := hide hCX
          have HRX := hide hRX
          clear hCX hRX
          generalize S'.apart = ap at *
          go_wp2_with fail
          refine (hAc _ hS).mono ?_
          rintro e wp ⟨rfl, hsp⟩
          go_wp2_with fail
          refine (hAr _ hsp).mono ?_
          rintro e wq ⟨rfl, hsq⟩
          have hE := Sw.trans hsp hsq
          clear hAc hAr hS hsp hsq
          go_wp2
          go_roundw
          case rel => exact ⟨k + 1, _, _, _, _, S', by omega, by omega, by go_num, rfl, rfl, HCX.out.sw hE, HRX.out.sw hE, hok', hfX, hb1X, hb2X, hb3X, hb4X, hbX.trans (hE.2.mono hbX.size)⟩
          case measure => simp [intOf]; omega
        · have hSt := now_any W hC0 x.node
          have hRt := rnow_any W hR0 x.node
          go_wp2_with fail
          refine hSt.mono ?_
          rintro e w5 ⟨rfl, rfl⟩
          clear hSt
          go_wp2_with fail
          refine hRt.mono ?_
          rintro e w5 ⟨rfl, rfl⟩
          clear hRt
          obtain ⟨X, hX⟩ : ∃ X, X = w5 := ⟨_, rfl⟩
          have hCX := hC0
          have hRX := hR0
          have hbX := hbel0
          have hok' := hok
          have hfX := hfar
          have hb1X := hb1
          have hb2X := hb2
          have hb3X := hb3
          have hb4X := hb4
          clear hA0 d1 d2 hbaW hC0 hR0 hbel0
          rw [← hX] at hCX hRX hbX ⊢
          clear hX
          generalize (S.now x.node).1 = rx at *
          generalize (S.now x.node).2 = rg at *
          have hrx : (rx != rx) = false := by simp
          have hrg : (rg != rg) = false := by simp
          obtain ⟨S', hS'⟩ : ∃ S', S' = S := ⟨_, rfl⟩
          rw [← hS'] at hCX hRX hok'
          clear hS'
          have hAc := fun W (hw : Sw X W) => apart_any W (hCX.sw hw) hok'
          have hAr := fun W (hw : Sw X W) => rapart_any W (hRX.sw hw) hok'
          have hap : (S'.apart != S'.apart) = false := by simp
          have hS := Sw.refl X
          have HCX := hide hCX
          have HRX := hide hRX
          clear hCX hRX
          generalize S'.apart = ap at *
          go_wp2_with fail
          refine (hAc _ hS).mono ?_
          rintro e wp ⟨rfl, hsp⟩
          go_wp2_with fail
          refine (hAr _ hsp).mono ?_
          rintro e wq ⟨rfl, hsq⟩
          have hE := Sw.trans hsp hsq
          clear hAc hAr hS hsp hsq
          go_wp2
          go_roundw
          case rel => exact ⟨k + 1, _, _, _, _, S', by omega, by omega, by go_num, rfl, rfl, HCX.out.sw hE, HRX.out.sw hE, hok', hfX, hb1X, hb2X, hb3X, hb4X, hbX.trans (hE.2.mono hbX.size)⟩
          case measure => simp [intOf]; omega
        · have hFc := fork_any W hC0 hok
          go_wp2_with fail
          refine hFc.mono ?_
          rintro e w5 ⟨bcX, gX, rfl, hbcX, hgX, hC5, hb5⟩
          have hR5 := hR0.below hb5
          have hW5 := hC0.below hb5
          have hf1 := far_new hC0 hbcX hgX
          have hb1X := Nat.le_trans hbel0.size hbcX
          have hb2X := Nat.le_trans hbel0.size hgX
          have hbl5 := hbel0.trans (hb5.mono hbel0.size)
          have hFr := rfork_any w5 hR5 hok
          clear hFc hbcX hgX hb5 hC0 hR0 hbel0 hA0 d1 d2
          go_wp2_with fail
          refine hFr.mono ?_
          rintro e w6 ⟨brX, grX, rfl, hbrX, hgrX, hR6, hb6⟩
          have hfX := far_new hC5 hbrX hgrX
          have hf2 := far_new hW5 hbrX hgrX
          have hb3X := Nat.le_trans hbl5.size hbrX
          have hb4X := Nat.le_trans hbl5.size hgrX
          have hC6 := hC5.below hb6
          have hW6 := hW5.below hb6
          have hbl6 := hbl5.trans (hb6.mono hbl5.size)
          have hDr := draw_any w6 hW6 5
          have hokD := hok.draw 5
          clear hFr hbrX hgrX hb6 hC5 hW5 hR5 hbl5
          go_wp2_with fail
          refine hDr.mono ?_
          rintro e w7 ⟨rfl, hW7, ho7⟩
          have hC7 := hC6.far ho7 hf1
          have hR7 := hR6.far ho7 hf2
          have hbl7 := below_only hbl6 ho7 hb1 hb2
          have hSt := step_any w7 hW7 hokD 0 1
          clear hDr ho7 hC6 hR6 hW6 hbl6
          go_wp2_with fail
          refine hSt.mono ?_
          rintro e X ⟨rfl, hW8, ho8⟩
          have hCX := hC7.far ho8 hf1
          have hRX := hR7.far ho8 hf2
          have hbX := below_only hbl7 ho8 hb1 hb2
          clear hSt ho8 hC7 hR7 hW7 hbl7 hW8
          have hok' := hok
          obtain ⟨S', hS'⟩ : ∃ S', S' = S := ⟨_, rfl⟩
          rw [← hS'] at hCX hRX hok'
          clear hS'
          have hAc := fun W (hw : Sw X W) => apart_any W (hCX.sw hw) hok'
          have hAr := fun W (hw : Sw X W) => rapart_any W (hRX.sw hw) hok'
          have hap : (S'.apart != S'.apart) = false := by simp
          have hS := Sw.refl X
          have HCX := hide hCX
          have HRX := hide hRX
          clear hCX hRX
          generalize S'.apart = ap at *
          go_wp2_with fail
          refine (hAc _ hS).mono ?_
          rintro e wp ⟨rfl, hsp⟩
          go_wp2_with fail
          refine (hAr _ hsp).mono ?_
          rintro e wq ⟨rfl, hsq⟩
          have hE := Sw.trans hsp hsq
          clear hAc hAr hS hsp hsq
          go_wp2
          go_roundw
          case rel => exact ⟨k + 1, _, _, _, _, S', by omega, by omega, by go_num, rfl, rfl, HCX.out.sw hE, HRX.out.sw hE, hok', hfX, hb1X, hb2X, hb3X, hb4X, hbX.trans (hE.2.mono hbX.size)⟩
          case measure => simp [intOf]; omega
      · by_cases hl1 : (k : Int) < (ac.length : Int)
        · have hl3 : ¬ (k : Int) < 300 := fun h => hlt ⟨by omega, by omega⟩
          go_wp2_with (first | (go_at_call 22; refine (works_any _).mono ?_; rintro e w3 ⟨rfl, hb3⟩))
          go_ret
          exact ⟨rfl, hbel.trans (hb3.mono hbel.size)⟩
        · go_wp2_with (first | (go_at_call 22; refine (works_any _).mono ?_; rintro e w3 ⟨rfl, hb3⟩))
          go_ret
          exact ⟨rfl, hbel.trans (hb3.mono hbel.size)⟩

end Go.Proofs.Ytkofmdchopfcgaa.Ck
