/- NetPlays: a call of both nets, at a letter that is on its way. -/
import Derived.Test.YtmdpkkipjdpopaaRtStep
namespace Go.Proofs.Ytmdpkkipjdpopaa.Nk
open Go.RowKit Go.Joins Gk
attribute [local go_sem ↓] Go.wp_at_zero Go.wp_at_succ

abbrev Sc3 (w : World) (p1 p2 p3 : Addr) (c1 c2 c3 : Value) (W : World) : Prop := (W.cell? p1 = some c1 ∧ W.cell? p2 = some c2 ∧ W.cell? p3 = some c3) ∧ W.heap = w.heap
theorem Sc3.drew {w : World} {p1 p2 p3 : Addr} {c1 c2 c3 : Value} {A : World} (h : Sc3 w p1 p2 p3 c1 c2 c3 A) : Sc3 w p1 p2 p3 c1 c2 c3 A.drew := ⟨⟨by simpa using h.1.1, by simpa using h.1.2.1, by simpa using h.1.2.2⟩, h.2⟩
theorem Duo.letter {w W : World} {bn br : Nat} {S R : Nst} (h : Duo w W bn br S R) (i : Nat) (hi : i < R.ls.length) : ∃ g cv, W.cell? ⟨br, 1, none⟩ = some (.slice (some ⟨g, 0, none⟩) R.ls.length cv) ∧ W.cell? ⟨g, i * 4, none⟩ = some (.int .i64 (R.ls[i].id : Int)) := by
  obtain ⟨v, u, gs, hr⟩ := h.ref
  obtain ⟨g, cv, rfl, -, hc⟩ := hr.row.at lenc_len i hi
  exact ⟨g, cv, hr.c1, by have := hc 0 _ rfl; rwa [Nat.add_zero] at this⟩

set_option maxHeartbeats 6400000 in
set_option maxRecDepth 100000 in
theorem step_c {w W : World} {bn br : Nat} {S : Nst} (hd : Duo w W bn br S S) (hok : S.Ok) (x : ActV) (hx : x.Ok) (hown : x.own = true) (hl : 0 < S.ls.length) : StepAt w W bn br x := by
  have hxk := hx.kind
  have hxs := hx.body
  have h8 : x.kind % 8 = 0 ∨ x.kind % 8 = 1 ∨ x.kind % 8 = 2 ∨ x.kind % 8 = 3 ∨ x.kind % 8 = 4 ∨ x.kind % 8 = 5 ∨ x.kind % 8 = 6 ∨ x.kind % 8 = 7 := by omega
  have hA := fun (W : World) => among_any x.kind 8 W (by omega) (by omega) (by omega) (by omega)
  have hd1 := hd.later (below_alloc1 W (.cells #[.int .i64 x.kind, .int .i64 x.a, .int .i64 x.b, .int .i64 x.i, .string x.body, .bool x.own] 32))
  have hb1 := heap_alloc_new W (.cells #[.int .i64 x.kind, .int .i64 x.a, .int .i64 x.b, .int .i64 x.i, .string x.body, .bool x.own] 32)
  have HD1 := hide hd1
  have HB1 := hide hb1
  clear hd1 hb1 hd
  rw [hown] at HD1 HB1
  have hxi := hx.i
  have hml := hok.many
  obtain ⟨idx, hidx⟩ : ∃ idx : Nat, x.i % (S.ls.length : Int) = (idx : Int) := ⟨(x.i % (S.ls.length : Int)).toNat, (Int.toNat_of_nonneg (Int.emod_nonneg _ (by omega))).symm⟩
  have hil : idx < S.ls.length := by have := Int.emod_lt_of_pos x.i (show (0 : Int) < S.ls.length by omega); omega
  have hI := fun (W : World) => among_any x.i S.ls.length W (by omega) (by omega) (by omega) (by omega)
  rw [hidx] at hI
  clear hidx
  have hl0' : (0 : Int) < (S.ls.length : Int) := by omega
  have p1 : (0 : Int) ≤ (idx : Int) := by omega
  have p2 : (idx : Int) < (S.ls.length : Int) := by omega
  obtain ⟨g, cv, r1, l0⟩ := HD1.out.letter idx hil
  generalize (S.ls[idx].id : Int) = q at *
  have HI := hide hil
  clear hil hl
  unfold StepAt
  rw [hown]
  rcases h8 with h8 | h8 | h8 | h8 | h8 | h8 | h8 | h8
  · as_aux_lemma =>
    rw [h8] at hA
    go_enter Try.func10, Try.ntmps10
    go_wp2_with fail
    obtain ⟨W1, hW1⟩ : ∃ W1, W1 = W.alloc (.cells #[.int .i64 x.kind, .int .i64 x.a, .int .i64 x.b, .int .i64 x.i, .string x.body, .bool true] 32) := ⟨_, rfl⟩
    rw [← hW1] at HD1 HB1 r1 l0 ⊢
    clear hW1
    have hS : Sc3 W1 ⟨br, 1, none⟩ ⟨W.heap.size, 3, none⟩ ⟨g, idx * 4, none⟩ (.slice (some ⟨g, 0, none⟩) S.ls.length cv) (.int .i64 x.i) (.int .i64 q) W1 := ⟨⟨r1, cell_of_block HB1.out 3, l0⟩, rfl⟩
    go_region_held3 (Sc3 W1 ⟨br, 1, none⟩ ⟨W.heap.size, 3, none⟩ ⟨g, idx * 4, none⟩ (.slice (some ⟨g, 0, none⟩) S.ls.length cv) (.int .i64 x.i) (.int .i64 q)) (first | exact Sc3.drew (by assumption) | assumption)
      (first | (go_at_call 16; refine (hI _).mono ?_; rintro e w1 ⟨rfl, rfl⟩))
    clear hS r1 l0
    replace HD1 := hide HD1.out.drew
    replace HB1 := hide (show W1.drew.heap[W.heap.size]? = _ from HB1.out)
    have c0 := cell_of_block HB1.out 0
    have c1 := cell_of_block HB1.out 1
    have c2 := cell_of_block HB1.out 2
    have c4 := cell_of_block HB1.out 4
    generalize W1.drew = W1 at *
    go_wp2_with (first | (go_at_call 16; refine (hA _).mono ?_; rintro e w1 ⟨rfl, rfl⟩) | (go_at_call 13; refine (HD1.out.nsend hok _ _ _ hxs).mono ?_; rintro e w2 ⟨rfl, hd2, hx2⟩; have HD2 := hide hd2; have HB2 := hide (hx2 _ _ HB1.out); clear hd2 hx2; have k1 := cell_of_block HB2.out 1; have k2 := cell_of_block HB2.out 2; have k4 := cell_of_block HB2.out 4) | (go_at_call 23; refine (HD2.out.rsend hok _ _ _).mono ?_; rintro e w3 ⟨rfl, hd3, -⟩; have HD3 := hide hd3; clear hd3))
    go_ret
    exact ⟨by simp, _, HD3.out, hok.send _ _ _⟩
  · as_aux_lemma =>
    rw [h8] at hA
    obtain ⟨a0, a1, a2, a3, ht⟩ := optV_form (S.take q).1.1
    have hN := fun W (h : Duo w W bn br S S) => h.ntake hok q
    have hR := fun W (h : Duo w W bn br (S.take q).2 S) => h.rtake hok q
    have okt := hok.take q
    rw [ht] at hN hR
    clear ht
    generalize (S.take q).2 = S' at *
    generalize (S.take q).1.2 = er at *
    have OK := hide okt
    clear okt
    go_enter Try.func10, Try.ntmps10
    go_wp2_with fail
    obtain ⟨W1, hW1⟩ : ∃ W1, W1 = W.alloc (.cells #[.int .i64 x.kind, .int .i64 x.a, .int .i64 x.b, .int .i64 x.i, .string x.body, .bool true] 32) := ⟨_, rfl⟩
    rw [← hW1] at HD1 HB1 r1 l0 ⊢
    clear hW1
    have hS : Sc3 W1 ⟨br, 1, none⟩ ⟨W.heap.size, 3, none⟩ ⟨g, idx * 4, none⟩ (.slice (some ⟨g, 0, none⟩) S.ls.length cv) (.int .i64 x.i) (.int .i64 q) W1 := ⟨⟨r1, cell_of_block HB1.out 3, l0⟩, rfl⟩
    go_region_held3 (Sc3 W1 ⟨br, 1, none⟩ ⟨W.heap.size, 3, none⟩ ⟨g, idx * 4, none⟩ (.slice (some ⟨g, 0, none⟩) S.ls.length cv) (.int .i64 x.i) (.int .i64 q)) (first | exact Sc3.drew (by assumption) | assumption)
      (first | (go_at_call 16; refine (hI _).mono ?_; rintro e w1 ⟨rfl, rfl⟩))
    clear hS r1 l0
    replace HD1 := hide HD1.out.drew
    replace HB1 := hide (show W1.drew.heap[W.heap.size]? = _ from HB1.out)
    have c0 := cell_of_block HB1.out 0
    have c1 := cell_of_block HB1.out 1
    have c2 := cell_of_block HB1.out 2
    have c4 := cell_of_block HB1.out 4
    generalize W1.drew = W1 at *
    go_wp2_with (first | (go_at_call 16; refine (hA _).mono ?_; rintro e w1 ⟨rfl, rfl⟩) | (go_at_call 18; refine (hN _ HD1.out).mono ?_; rintro e w2 ⟨rfl, hd2, -⟩; have HD2 := hide hd2; clear hd2) | (go_at_call 24; refine (hR _ (HD2.out.later (below_alloc1 w2 (.cells #[.int .i64 a0, .int .i64 a1, .int .i64 a2, .string a3] LetT)))).mono ?_; rintro e w3 ⟨rfl, hd3, hx3⟩; have HD3 := hide hd3; have HB3 := hide (hx3 _ _ _ (heap_alloc_new w2 (.cells #[.int .i64 a0, .int .i64 a1, .int .i64 a2, .string a3] LetT)) (by decide) (by decide) (by decide) (by decide)); have hlt3 : w2.heap.size < w3.heap.size := (Array.getElem?_eq_some_iff.1 HB3.out).1; have HB4 := hide (((below_alloc1 w3 (.cells #[.int .i64 a0, .int .i64 a1, .int .i64 a2, .string a3] RLetT)).block _ hlt3).trans HB3.out); clear hd3 hx3; have k0 := cell_of_block HB4.out 0; have k1 := cell_of_block HB4.out 1; have k2 := cell_of_block HB4.out 2; have k3 := cell_of_block HB4.out 3))
    go_ret
    exact ⟨by simp, _, HD3.out.later (below_alloc1 _ _), OK.out⟩
  · as_aux_lemma =>
    rw [h8] at hA
    go_enter Try.func10, Try.ntmps10
    go_wp2_with fail
    obtain ⟨W1, hW1⟩ : ∃ W1, W1 = W.alloc (.cells #[.int .i64 x.kind, .int .i64 x.a, .int .i64 x.b, .int .i64 x.i, .string x.body, .bool true] 32) := ⟨_, rfl⟩
    rw [← hW1] at HD1 HB1 r1 l0 ⊢
    clear hW1
    have hS : Sc3 W1 ⟨br, 1, none⟩ ⟨W.heap.size, 3, none⟩ ⟨g, idx * 4, none⟩ (.slice (some ⟨g, 0, none⟩) S.ls.length cv) (.int .i64 x.i) (.int .i64 q) W1 := ⟨⟨r1, cell_of_block HB1.out 3, l0⟩, rfl⟩
    go_region_held3 (Sc3 W1 ⟨br, 1, none⟩ ⟨W.heap.size, 3, none⟩ ⟨g, idx * 4, none⟩ (.slice (some ⟨g, 0, none⟩) S.ls.length cv) (.int .i64 x.i) (.int .i64 q)) (first | exact Sc3.drew (by assumption) | assumption)
      (first | (go_at_call 16; refine (hI _).mono ?_; rintro e w1 ⟨rfl, rfl⟩))
    clear hS r1 l0
    replace HD1 := hide HD1.out.drew
    replace HB1 := hide (show W1.drew.heap[W.heap.size]? = _ from HB1.out)
    have c0 := cell_of_block HB1.out 0
    have c1 := cell_of_block HB1.out 1
    have c2 := cell_of_block HB1.out 2
    have c4 := cell_of_block HB1.out 4
    generalize W1.drew = W1 at *
    go_wp2_with (first | (go_at_call 16; refine (hA _).mono ?_; rintro e w1 ⟨rfl, rfl⟩) | (go_at_call 15; refine (HD1.out.nlose hok _).mono ?_; rintro e w2 ⟨rfl, hd2, -⟩; have HD2 := hide hd2; clear hd2) | (go_at_call 25; refine (HD2.out.rlose hok _).mono ?_; rintro e w3 ⟨rfl, hd3, -⟩; have HD3 := hide hd3; clear hd3))
    go_ret
    exact ⟨by simp, _, HD3.out, hok.lose _⟩
  · as_aux_lemma =>
    rw [h8] at hA
    go_enter Try.func10, Try.ntmps10
    go_wp2_with fail
    obtain ⟨W1, hW1⟩ : ∃ W1, W1 = W.alloc (.cells #[.int .i64 x.kind, .int .i64 x.a, .int .i64 x.b, .int .i64 x.i, .string x.body, .bool true] 32) := ⟨_, rfl⟩
    rw [← hW1] at HD1 HB1 r1 l0 ⊢
    clear hW1
    have hS : Sc3 W1 ⟨br, 1, none⟩ ⟨W.heap.size, 3, none⟩ ⟨g, idx * 4, none⟩ (.slice (some ⟨g, 0, none⟩) S.ls.length cv) (.int .i64 x.i) (.int .i64 q) W1 := ⟨⟨r1, cell_of_block HB1.out 3, l0⟩, rfl⟩
    go_region_held3 (Sc3 W1 ⟨br, 1, none⟩ ⟨W.heap.size, 3, none⟩ ⟨g, idx * 4, none⟩ (.slice (some ⟨g, 0, none⟩) S.ls.length cv) (.int .i64 x.i) (.int .i64 q)) (first | exact Sc3.drew (by assumption) | assumption)
      (first | (go_at_call 16; refine (hI _).mono ?_; rintro e w1 ⟨rfl, rfl⟩))
    clear hS r1 l0
    replace HD1 := hide HD1.out.drew
    replace HB1 := hide (show W1.drew.heap[W.heap.size]? = _ from HB1.out)
    have c0 := cell_of_block HB1.out 0
    have c1 := cell_of_block HB1.out 1
    have c2 := cell_of_block HB1.out 2
    have c4 := cell_of_block HB1.out 4
    generalize W1.drew = W1 at *
    go_wp2_with (first | (go_at_call 16; refine (hA _).mono ?_; rintro e w1 ⟨rfl, rfl⟩) | (go_at_call 14; refine (HD1.out.ncopy hok _).mono ?_; rintro e w2 ⟨rfl, hd2, -⟩; have HD2 := hide hd2; clear hd2) | (go_at_call 26; refine (HD2.out.rcopy hok _).mono ?_; rintro e w3 ⟨rfl, hd3, -⟩; have HD3 := hide hd3; clear hd3))
    go_ret
    exact ⟨by simp, _, HD3.out, hok.copy _⟩
  · as_aux_lemma =>
    rw [h8] at hA
    go_enter Try.func10, Try.ntmps10
    go_wp2_with fail
    obtain ⟨W1, hW1⟩ : ∃ W1, W1 = W.alloc (.cells #[.int .i64 x.kind, .int .i64 x.a, .int .i64 x.b, .int .i64 x.i, .string x.body, .bool true] 32) := ⟨_, rfl⟩
    rw [← hW1] at HD1 HB1 r1 l0 ⊢
    clear hW1
    have hS : Sc3 W1 ⟨br, 1, none⟩ ⟨W.heap.size, 3, none⟩ ⟨g, idx * 4, none⟩ (.slice (some ⟨g, 0, none⟩) S.ls.length cv) (.int .i64 x.i) (.int .i64 q) W1 := ⟨⟨r1, cell_of_block HB1.out 3, l0⟩, rfl⟩
    go_region_held3 (Sc3 W1 ⟨br, 1, none⟩ ⟨W.heap.size, 3, none⟩ ⟨g, idx * 4, none⟩ (.slice (some ⟨g, 0, none⟩) S.ls.length cv) (.int .i64 x.i) (.int .i64 q)) (first | exact Sc3.drew (by assumption) | assumption)
      (first | (go_at_call 16; refine (hI _).mono ?_; rintro e w1 ⟨rfl, rfl⟩))
    clear hS r1 l0
    replace HD1 := hide HD1.out.drew
    replace HB1 := hide (show W1.drew.heap[W.heap.size]? = _ from HB1.out)
    have c0 := cell_of_block HB1.out 0
    have c1 := cell_of_block HB1.out 1
    have c2 := cell_of_block HB1.out 2
    have c4 := cell_of_block HB1.out 4
    generalize W1.drew = W1 at *
    go_wp2_with (first | (go_at_call 16; refine (hA _).mono ?_; rintro e w1 ⟨rfl, rfl⟩))
    have hS : SBox W.heap.size #[.int .i64 x.kind, .int .i64 x.a, .int .i64 x.b, .int .i64 x.i, .string x.body, .bool true] (.int .i64 x.a) (.int .i64 x.b) W1 := ⟨⟨cell_of_block HB1.out 1, cell_of_block HB1.out 2⟩, HB1.out⟩
    go_region_held3 (SBox W.heap.size #[.int .i64 x.kind, .int .i64 x.a, .int .i64 x.b, .int .i64 x.i, .string x.body, .bool true] (.int .i64 x.a) (.int .i64 x.b)) (first | exact SBox.drew (by assumption) | exact SBox.box (by assumption) (by assumption) | exact SBox.rbox (by assumption) (by assumption) | assumption)
      (first | (go_at_call 20; refine (Duo.npart (by first | exact HD1.out | exact HD1.out.drew) hok _ _).mono ?_; rintro e w2 ⟨rfl, hd2, hx2⟩; have HD2 := hide hd2; clear hd2) | (go_at_call 27; refine (Duo.rpart (by first | exact HD2.out | exact HD2.out.drew) hok _ _).mono ?_; rintro e w3 ⟨rfl, hd3, hx3⟩; have HD3 := hide hd3; clear hd3))
    all_goals go_wp2
    all_goals go_ret
    all_goals exact ⟨by simp, _, by first | exact HD3.out | exact HD3.out.drew, hok.part _ _⟩
  · as_aux_lemma =>
    rw [h8] at hA
    go_enter Try.func10, Try.ntmps10
    go_wp2_with fail
    obtain ⟨W1, hW1⟩ : ∃ W1, W1 = W.alloc (.cells #[.int .i64 x.kind, .int .i64 x.a, .int .i64 x.b, .int .i64 x.i, .string x.body, .bool true] 32) := ⟨_, rfl⟩
    rw [← hW1] at HD1 HB1 r1 l0 ⊢
    clear hW1
    have hS : Sc3 W1 ⟨br, 1, none⟩ ⟨W.heap.size, 3, none⟩ ⟨g, idx * 4, none⟩ (.slice (some ⟨g, 0, none⟩) S.ls.length cv) (.int .i64 x.i) (.int .i64 q) W1 := ⟨⟨r1, cell_of_block HB1.out 3, l0⟩, rfl⟩
    go_region_held3 (Sc3 W1 ⟨br, 1, none⟩ ⟨W.heap.size, 3, none⟩ ⟨g, idx * 4, none⟩ (.slice (some ⟨g, 0, none⟩) S.ls.length cv) (.int .i64 x.i) (.int .i64 q)) (first | exact Sc3.drew (by assumption) | assumption)
      (first | (go_at_call 16; refine (hI _).mono ?_; rintro e w1 ⟨rfl, rfl⟩))
    clear hS r1 l0
    replace HD1 := hide HD1.out.drew
    replace HB1 := hide (show W1.drew.heap[W.heap.size]? = _ from HB1.out)
    have c0 := cell_of_block HB1.out 0
    have c1 := cell_of_block HB1.out 1
    have c2 := cell_of_block HB1.out 2
    have c4 := cell_of_block HB1.out 4
    generalize W1.drew = W1 at *
    go_wp2_with (first | (go_at_call 16; refine (hA _).mono ?_; rintro e w1 ⟨rfl, rfl⟩))
    have hS : SBox W.heap.size #[.int .i64 x.kind, .int .i64 x.a, .int .i64 x.b, .int .i64 x.i, .string x.body, .bool true] (.int .i64 x.a) (.int .i64 x.b) W1 := ⟨⟨cell_of_block HB1.out 1, cell_of_block HB1.out 2⟩, HB1.out⟩
    go_region_held3 (SBox W.heap.size #[.int .i64 x.kind, .int .i64 x.a, .int .i64 x.b, .int .i64 x.i, .string x.body, .bool true] (.int .i64 x.a) (.int .i64 x.b)) (first | exact SBox.drew (by assumption) | exact SBox.box (by assumption) (by assumption) | exact SBox.rbox (by assumption) (by assumption) | assumption)
      (first | (go_at_call 21; refine (Duo.njoin (by first | exact HD1.out | exact HD1.out.drew) hok _ _).mono ?_; rintro e w2 ⟨rfl, hd2, hx2⟩; have HD2 := hide hd2; clear hd2) | (go_at_call 28; refine (Duo.rjoin (by first | exact HD2.out | exact HD2.out.drew) hok _ _).mono ?_; rintro e w3 ⟨rfl, hd3, hx3⟩; have HD3 := hide hd3; clear hd3))
    all_goals go_wp2
    all_goals go_ret
    all_goals exact ⟨by simp, _, by first | exact HD3.out | exact HD3.out.drew, hok.join _ _⟩
  · as_aux_lemma =>
    rw [h8] at hA
    go_enter Try.func10, Try.ntmps10
    go_wp2_with fail
    obtain ⟨W1, hW1⟩ : ∃ W1, W1 = W.alloc (.cells #[.int .i64 x.kind, .int .i64 x.a, .int .i64 x.b, .int .i64 x.i, .string x.body, .bool true] 32) := ⟨_, rfl⟩
    rw [← hW1] at HD1 HB1 r1 l0 ⊢
    clear hW1
    have hS : Sc3 W1 ⟨br, 1, none⟩ ⟨W.heap.size, 3, none⟩ ⟨g, idx * 4, none⟩ (.slice (some ⟨g, 0, none⟩) S.ls.length cv) (.int .i64 x.i) (.int .i64 q) W1 := ⟨⟨r1, cell_of_block HB1.out 3, l0⟩, rfl⟩
    go_region_held3 (Sc3 W1 ⟨br, 1, none⟩ ⟨W.heap.size, 3, none⟩ ⟨g, idx * 4, none⟩ (.slice (some ⟨g, 0, none⟩) S.ls.length cv) (.int .i64 x.i) (.int .i64 q)) (first | exact Sc3.drew (by assumption) | assumption)
      (first | (go_at_call 16; refine (hI _).mono ?_; rintro e w1 ⟨rfl, rfl⟩))
    clear hS r1 l0
    replace HD1 := hide HD1.out.drew
    replace HB1 := hide (show W1.drew.heap[W.heap.size]? = _ from HB1.out)
    have c0 := cell_of_block HB1.out 0
    have c1 := cell_of_block HB1.out 1
    have c2 := cell_of_block HB1.out 2
    have c4 := cell_of_block HB1.out 4
    generalize W1.drew = W1 at *
    go_wp2_with (first | (go_at_call 16; refine (hA _).mono ?_; rintro e w1 ⟨rfl, rfl⟩) | (go_at_call 19; refine (HD1.out.nparted hok _ _).mono ?_; rintro e w2 ⟨rfl, hd2, hx2⟩; have HD2 := hide hd2; have HB2 := hide (hx2 _ _ HB1.out); clear hd2 hx2; have k1 := cell_of_block HB2.out 1; have k2 := cell_of_block HB2.out 2) | (go_at_call 29; refine (HD2.out.rparted _ _).mono ?_; rintro e w3 ⟨rfl, hd3, -⟩; have HD3 := hide hd3; clear hd3))
    go_ret
    exact ⟨by simp, _, HD3.out, hok⟩
  · as_aux_lemma =>
    rw [h8] at hA
    go_enter Try.func10, Try.ntmps10
    go_wp2_with fail
    obtain ⟨W1, hW1⟩ : ∃ W1, W1 = W.alloc (.cells #[.int .i64 x.kind, .int .i64 x.a, .int .i64 x.b, .int .i64 x.i, .string x.body, .bool true] 32) := ⟨_, rfl⟩
    rw [← hW1] at HD1 HB1 r1 l0 ⊢
    clear hW1
    have hS : Sc3 W1 ⟨br, 1, none⟩ ⟨W.heap.size, 3, none⟩ ⟨g, idx * 4, none⟩ (.slice (some ⟨g, 0, none⟩) S.ls.length cv) (.int .i64 x.i) (.int .i64 q) W1 := ⟨⟨r1, cell_of_block HB1.out 3, l0⟩, rfl⟩
    go_region_held3 (Sc3 W1 ⟨br, 1, none⟩ ⟨W.heap.size, 3, none⟩ ⟨g, idx * 4, none⟩ (.slice (some ⟨g, 0, none⟩) S.ls.length cv) (.int .i64 x.i) (.int .i64 q)) (first | exact Sc3.drew (by assumption) | assumption)
      (first | (go_at_call 16; refine (hI _).mono ?_; rintro e w1 ⟨rfl, rfl⟩))
    clear hS r1 l0
    replace HD1 := hide HD1.out.drew
    replace HB1 := hide (show W1.drew.heap[W.heap.size]? = _ from HB1.out)
    have c0 := cell_of_block HB1.out 0
    have c1 := cell_of_block HB1.out 1
    have c2 := cell_of_block HB1.out 2
    have c4 := cell_of_block HB1.out 4
    generalize W1.drew = W1 at *
    go_wp2_with (first | (go_at_call 16; refine (hA _).mono ?_; rintro e w1 ⟨rfl, rfl⟩) | (go_at_call 22; refine (HD1.out.ndrop hok _).mono ?_; rintro e w2 ⟨rfl, hd2, hx2⟩; have HD2 := hide hd2; have HB2 := hide (hx2 _ _ HB1.out); clear hd2 hx2; have k1 := cell_of_block HB2.out 1) | (go_at_call 30; refine (HD2.out.rdrop hok _).mono ?_; rintro e w3 ⟨rfl, hd3, -⟩; have HD3 := hide hd3; clear hd3))
    go_ret
    exact ⟨by simp, _, HD3.out, hok.drop _⟩

end Go.Proofs.Ytmdpkkipjdpopaa.Nk
