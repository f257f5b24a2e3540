/- Walks over net.go: Part, Join. -/
import Derived.Test.YtmdpkkipjdpopaaNtParts
namespace Go.Proofs.Ytmdpkkipjdpopaa.Nk
open Go.RowKit Go.Joins Gk
attribute [local go_sem ↓] Go.wp_at_zero Go.wp_at_succ

theorem has_same {own : Nat → Prop} {bn : Nat} {S : Nst} {v u : Value} (w : World) (h : NHeldL w own bn S v u) (x : Int) :
    Calls Try.prog 31 #[.pointer (some ⟨bn, 0, none⟩), .int .i64 x] w fun e w' => e = .returned (.bool (hasN S.nodes x)) ∧ w = w' := by
  refine (has_any w h x).mono ?_
  rintro e w1 ⟨h1, h2⟩
  exact ⟨h1, h2.symm⟩

set_option maxHeartbeats 1600000 in
theorem join_any {own : Nat → Prop} {bn : Nat} {S : Nst} (w : World) (h : NHeld w own bn S) (hok : S.Ok) (a b : Int) :
    Calls Try.prog 21 #[.pointer (some ⟨bn, 0, none⟩), .int .i64 a, .int .i64 b] w fun e w' => e = .returned (.int .i64 (S.join a b).1) ∧ NHeld w' own bn (S.join a b).2 ∧ Only own w w' := by
  obtain ⟨v, u, h⟩ := h
  have hX := fun x => has_same w h x
  by_cases hb : hasN S.nodes a = false ∨ hasN S.nodes b = false
  · have hv : S.join a b = (30, S) := by simp [Nst.join, hb]
    rw [hv]
    have HH := hide h
    clear h
    cases ha : hasN S.nodes a
    · clear hb
      go_enter Try.func21, Try.ntmps21
      go_wp2_with (first | (go_at_call 31; refine (hX _).mono ?_; rintro e w1 ⟨rfl, rfl⟩))
      go_ret
      exact ⟨rfl, ⟨v, u, HH.out⟩, Only.refl _ _⟩
    · have hb' : hasN S.nodes b = false := hb.resolve_left (by rw [ha]; simp)
      clear hb
      go_enter Try.func21, Try.ntmps21
      go_wp2_with (first | (go_at_call 31; refine (hX _).mono ?_; rintro e w1 ⟨rfl, rfl⟩))
      go_ret
      exact ⟨rfl, ⟨v, u, HH.out⟩, Only.refl _ _⟩
  · have hv : S.join a b = (0, { S with ps := S.ps.filter fun p => !isPr (prOf a.toNat b.toNat) p }) := by simp [Nst.join, hb]
    rw [hv]
    have ha' : hasN S.nodes a = true := by cases h1 : hasN S.nodes a <;> simp_all
    have hb' : hasN S.nodes b = true := by cases h1 : hasN S.nodes b <;> simp_all
    have hP := fun W => pairOf_any a.toNat b.toNat W
    rw [Int.toNat_of_nonneg (hasN_iff.1 ha').1, Int.toNat_of_nonneg (hasN_iff.1 hb').1] at hP
    have hfew := hok.few
    generalize prOf a.toNat b.toNat = q at *
    obtain ⟨ps', hps⟩ : ∃ ps', ps' = S.ps.filter fun p => !isPr q p := ⟨_, rfl⟩
    rw [← hps]
    have HPS := hide hps
    have HH := hide h
    clear h hb hps hv
    go_enter Try.func21, Try.ntmps21
    go_wp2_with (first | (go_at_call 31; refine (hX _).mono ?_; rintro e w1 ⟨rfl, rfl⟩) | fail)
    refine (hP _).mono ?_
    rintro e w1 ⟨rfl, hb1⟩
    have hb0 := below_alloc1 w1 (.cells #[.int .i64 q.1, .int .i64 q.2] PairT)
    have hA0 := heap_alloc_new w1 (.cells #[.int .i64 q.1, .int .i64 q.2] PairT)
    obtain ⟨W, hW⟩ : ∃ W, W = w1.alloc (.cells #[.int .i64 q.1, .int .i64 q.2] PairT) := ⟨_, rfl⟩
    rw [← hW] at hb0 hA0
    have hbW : Below w.heap.size w W := hb1.trans (hb0.mono hb1.size)
    have h0 := HH.out.below hbW
    have hzW : w1.heap.size < W.heap.size := (Array.getElem?_eq_some_iff.1 hA0).1
    have hrl : ∀ g, u.ownBlock = some g → g < w.heap.size := fun g hg => HH.out.prowLt hg
    have hz1 := hb1.size
    have k0 : W.cell? ⟨w1.heap.size, 0, none⟩ = some (.int .i64 q.1) := cell_of_block hA0 0
    have k1 : W.cell? ⟨w1.heap.size, 1, none⟩ = some (.int .i64 q.2) := cell_of_block hA0 1
    have hD := delFuncP_any (isPr q) 41 #[.pointer (some ⟨w1.heap.size, 0, none⟩)] enters_join u S.ps W h0.prow (by omega) (fun W' x hg => joinC_any q w1.heap.size W' x (Nat.lt_of_lt_of_le hzW hg.size) ((World.cell?_of_block (a := ⟨w1.heap.size, 0, none⟩) (hg.block _ hzW fun e => absurd (show w1.heap.size < w.heap.size from hrl _ e.symm) (by omega))).trans k0) ((World.cell?_of_block (a := ⟨w1.heap.size, 1, none⟩) (hg.block _ hzW fun e => absurd (show w1.heap.size < w.heap.size from hrl _ e.symm) (by omega))).trans k1))
    obtain ⟨av, cv, rfl⟩ := h0.prow.slice
    have d3 := (HH.out.below hb1).c3
    have hne : bn ≠ w1.heap.size := by have := (HH.out.below hb1).lt; omega
    rw [← HPS.out] at hD
    have HW := hide h0
    have d3W : (w1.alloc (.cells #[.int .i64 q.1, .int .i64 q.2] PairT)).cell? ⟨bn, 3, none⟩ = some (.slice av S.ps.length cv) := by rw [← hW]; exact h0.c3
    have HWW := hide hW
    clear h0 hP hA0 k0 k1 hW hX
    go_wp2_with fail
    rw [← HWW.out]
    refine hD.mono ?_
    rintro e w2 ⟨v2, rfl, hr2, hob2, hg2⟩
    obtain ⟨a2, c2, rfl⟩ := hr2.slice
    have hb2 := hide (hg2.block bn HW.out.lt (fun e => HW.out.prowNe e.symm rfl))
    have k2 := (World.cell?_of_block (a := ⟨bn, 3, none⟩) hb2.out).trans HW.out.c3
    have z2 := (World.frozen?_of_block (a := ⟨bn, 3, none⟩) hb2.out).trans (HW.out.fz 3)
    clear hD
    go_wp2
    go_ret
    refine ⟨rfl, ⟨_, _, HW.out.setPairs hr2 hb2.out (fun g' hg => hg2.block g' (HW.out.rowLt hg) fun e => HW.out.apart hg e.symm rfl) (fun g' hg => HW.out.ownP g' (hob2 ▸ hg))⟩, (Only.of_below hbW).trans ((Only.of_grown hg2 fun k e => HW.out.ownP k e).trans (Only.of_set w2 HW.out.ownD _))⟩

set_option maxHeartbeats 3200000 in
set_option maxRecDepth 100000 in
theorem part_any {own : Nat → Prop} {bn : Nat} {S : Nst} (w : World) (h : NHeld w own bn S) (hfr : Fresh own w) (hok : S.Ok) (a b : Int) :
    Calls Try.prog 20 #[.pointer (some ⟨bn, 0, none⟩), .int .i64 a, .int .i64 b] w fun e w' => e = .returned (.int .i64 (S.part a b).1) ∧ NHeld w' own bn (S.part a b).2 ∧ Only own w w' := by
  obtain ⟨v, u, h⟩ := h
  have hX := fun x => has_same w h x
  by_cases hb : hasN S.nodes a = false ∨ hasN S.nodes b = false
  · have hv : S.part a b = (30, S) := by simp [Nst.part, hb]
    rw [hv]
    have HH := hide h
    clear h
    cases ha : hasN S.nodes a
    · clear hb
      go_enter Try.func20, Try.ntmps20
      go_wp2_with (first | (go_at_call 31; refine (hX _).mono ?_; rintro e w1 ⟨rfl, rfl⟩))
      go_ret
      exact ⟨rfl, ⟨v, u, HH.out⟩, Only.refl _ _⟩
    · have hb' : hasN S.nodes b = false := hb.resolve_left (by rw [ha]; simp)
      clear hb
      go_enter Try.func20, Try.ntmps20
      go_wp2_with (first | (go_at_call 31; refine (hX _).mono ?_; rintro e w1 ⟨rfl, rfl⟩))
      go_ret
      exact ⟨rfl, ⟨v, u, HH.out⟩, Only.refl _ _⟩
  · have ha' : hasN S.nodes a = true := by cases h1 : hasN S.nodes a <;> simp_all
    have hb' : hasN S.nodes b = true := by cases h1 : hasN S.nodes b <;> simp_all
    by_cases hab : a = b
    · have hv : S.part a b = (4, S) := by rw [Nst.part, if_neg hb, if_pos hab]
      rw [hv]
      have hab' : (a == b) = true := by simp [hab]
      have HH := hide h
      clear h hb hv hab
      go_enter Try.func20, Try.ntmps20
      go_wp2_with (first | (go_at_call 31; refine (hX _).mono ?_; rintro e w1 ⟨rfl, rfl⟩))
      go_ret
      exact ⟨rfl, ⟨v, u, HH.out⟩, Only.refl _ _⟩
    · have hab' : (a == b) = false := by simp [hab]
      have hA := apart_any w h hok.few a.toNat b.toNat
      have hP := fun W => pairOf_any a.toNat b.toNat W
      rw [Int.toNat_of_nonneg (hasN_iff.1 ha').1, Int.toNat_of_nonneg (hasN_iff.1 hb').1] at hA hP
      rw [show memP (prOf a.toNat b.toNat) S.ps = S.parted a.toNat b.toNat from rfl] at hA
      have hfew := hok.few
      cases hpt : S.parted a.toNat b.toNat
      · have hv : S.part a b = (0, { S with ps := S.ps ++ [prOf a.toNat b.toNat] }) := by rw [Nst.part, if_neg hb, if_neg hab, if_neg (by rw [hpt]; simp)]
        rw [hv]
        rw [hpt] at hA
        generalize prOf a.toNat b.toNat = q at *
        obtain ⟨av, cv, rfl⟩ := h.prow.slice
        have HH := hide h
        clear h hb hv hab hpt
        go_enter Try.func20, Try.ntmps20
        go_wp2_with (first | (go_at_call 31; refine (hX _).mono ?_; rintro e w1 ⟨rfl, rfl⟩) | (go_at_call 38; refine hA.mono ?_; rintro e W ⟨rfl, hbW⟩))
        have h1 := HH.out.below hbW
        have k3 := h1.c3
        have hbl := h1.lt
        have HW := hide h1
        clear h1 hA hX
        have hfW := hfr.later hbW.size
        go_region_law (first | (go_simp; go_at_call 39; refine (hP _).mono ?_; rintro e w1 ⟨rfl, hb1⟩; have hh1 := hide (HW.out.below (w' := w1) ((Below.refl _ _).drew.trans hb1)); have k3' := hh1.out.c3; have z3' := hh1.out.fz 3; have hz1 := hh1.out.lt) | (refine step_push (enc := penc) (k := 2) (by rfl) (.tmp 29) (.tmp 33) 60 (by rfl) PairT (.agg #[.int .i64 0, .int .i64 0]) 16 Try.underlying60 pair_info rfl (by decide) penc_len penc_one (.slice av S.ps.length cv) S.ps (by rfl) (hh1.out.below (below_alloc1 w1 _)).prow w1.heap.size q (by rfl) (heap_alloc_new w1 _) (by omega) (by omega) ?_; intro ad cap w3 hrow3 hg3 hat3; have h2 := hide (hh1.out.below (below_alloc1 w1 (.cells (penc q).toArray PairT))); have hb3 := hide (hg3.block bn h2.out.lt (fun e => h2.out.prowNe e.symm rfl)); have k3 := (World.cell?_of_block (a := ⟨bn, 3, none⟩) hb3.out).trans h2.out.c3; have z3 := (World.frozen?_of_block (a := ⟨bn, 3, none⟩) hb3.out).trans (h2.out.fz 3)))
        all_goals
          go_wp2
          go_ret
          have hb2 := (Below.refl W.heap.size W).drew.trans hb1
          have hO2 : Only own w (w1.alloc (.cells (penc q).toArray PairT)) := ((Only.of_below hbW).trans (Only.of_below hb2)).trans (Only.of_below (below_alloc1 w1 _))
          have hO3 := hO2.trans (Only.of_grown hg3 fun k e => h2.out.ownP k e)
          refine ⟨rfl, ⟨_, _, h2.out.setPairs hrow3 hb3.out (fun g hg => hg3.block g (h2.out.rowLt hg) fun e => h2.out.apart hg e.symm rfl) (fun g hg => (hat3 g hg).elim (h2.out.ownP g) fun hge => hfr g (Nat.le_trans hO2.size hge))⟩, hO3.trans (Only.of_set w3 h2.out.ownD _)⟩
      · have hv : S.part a b = (0, S) := by rw [Nst.part, if_neg hb, if_neg hab, if_pos hpt]
        rw [hv]
        rw [hpt] at hA
        have HH := hide h
        clear h hb hv hab
        go_enter Try.func20, Try.ntmps20
        go_wp2_with (first | (go_at_call 31; refine (hX _).mono ?_; rintro e w1 ⟨rfl, rfl⟩) | (go_at_call 38; refine hA.mono ?_; rintro e w2 ⟨rfl, hb2⟩))
        go_ret
        exact ⟨rfl, ⟨v, u, HH.out.below hb2⟩, Only.of_below hb2⟩

end Go.Proofs.Ytmdpkkipjdpopaa.Nk
