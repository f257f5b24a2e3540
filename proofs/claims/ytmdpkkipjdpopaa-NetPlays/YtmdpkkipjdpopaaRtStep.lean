/- NetPlays: a call of both nets. -/
import Derived.Test.YtmdpkkipjdpopaaRtFree
import Derived.Test.YtmdpkkipjdpopaaGAmong
import Derived.Test.YtmdpkkipjdpopaaNtActs
namespace Go.Proofs.Ytmdpkkipjdpopaa.Nk
open Go.RowKit Go.Joins Gk
attribute [local go_sem ↓] Go.wp_at_zero Go.wp_at_succ

abbrev StepAt (w W : World) (bn br : Nat) (x : ActV) : Prop :=
  Calls Try.prog 10 #[.pointer (some ⟨bn, 0, none⟩), .pointer (some ⟨br, 0, none⟩), .agg #[.int .i64 x.kind, .int .i64 x.a, .int .i64 x.b, .int .i64 x.i, .string x.body, .bool x.own]] W fun e w' => e = .returned (.bool true) ∧ ∃ S', Duo w w' bn br S' S' ∧ S'.Ok
theorem optV_form (o : Option Lt) : ∃ (a0 a1 a2 : Int) (a3 : ByteArray), optV o = .agg #[.int .i64 a0, .int .i64 a1, .int .i64 a2, .string a3] := by
  cases o with
  | none => exact ⟨_, _, _, _, rfl⟩
  | some y => exact ⟨_, _, _, _, rfl⟩
theorem Duo.empty {w W : World} {bn br : Nat} {S R : Nst} (h : Duo w W bn br S R) (hl : R.ls.length = 0) : ∃ av cv, W.cell? ⟨br, 1, none⟩ = some (.slice av 0 cv) := by
  obtain ⟨v, u, gs, hr⟩ := h.ref
  obtain ⟨av, cv, rfl⟩ := hr.row.slice
  have r1 := hr.c1
  rw [hl] at r1
  exact ⟨av, cv, r1⟩
abbrev SBox (ba : Nat) (cs : Array Value) (c c' : Value) (W : World) : Prop := (W.cell? ⟨ba, 1, none⟩ = some c ∧ W.cell? ⟨ba, 2, none⟩ = some c') ∧ W.heap[ba]? = some (.cells cs 32 (0, 0))
theorem SBox.drew {ba : Nat} {cs : Array Value} {c c' : Value} {A : World} (h : SBox ba cs c c' A) : SBox ba cs c c' A.drew := ⟨⟨by simpa using h.1.1, by simpa using h.1.2⟩, h.2⟩
theorem SBox.same {ba : Nat} {cs : Array Value} {c c' : Value} {A B : World} (h : SBox ba cs c c' A) (hb : B.heap[ba]? = some (.cells cs 32 (0, 0))) : SBox ba cs c c' B :=
  ⟨⟨by rw [cell_of_block hb, ← cell_of_block h.2]; exact h.1.1, by rw [cell_of_block hb, ← cell_of_block h.2]; exact h.1.2⟩, hb⟩
theorem SBox.box {ba : Nat} {cs : Array Value} {c c' : Value} {A B : World} (hb : Box A B) (h : SBox ba cs c c' A) : SBox ba cs c c' B := h.same (hb _ _ h.2)
theorem SBox.rbox {ba : Nat} {cs : Array Value} {c c' : Value} {A B : World} (hb : RBox A B) (h : SBox ba cs c c' A) : SBox ba cs c c' B := h.same (hb _ _ _ h.2 (by decide) (by decide) (by decide) (by decide))

set_option maxHeartbeats 6400000 in
set_option maxRecDepth 100000 in
theorem step_a {w W : World} {bn br : Nat} {S : Nst} (hd : Duo w W bn br S S) (hok : S.Ok) (x : ActV) (hx : x.Ok) (hown : x.own = false) : StepAt w W bn br x := by
  have hxk := hx.kind
  have hxs := hx.body
  have h8 : x.kind % 8 = 0 ∨ x.kind % 8 = 1 ∨ x.kind % 8 = 2 ∨ x.kind % 8 = 3 ∨ x.kind % 8 = 4 ∨ x.kind % 8 = 5 ∨ x.kind % 8 = 6 ∨ x.kind % 8 = 7 := by omega
  have hA := fun (W : World) => among_any x.kind 8 W (by omega) (by omega) (by omega) (by omega)
  have hd1 := hd.later (below_alloc1 W (.cells #[.int .i64 x.kind, .int .i64 x.a, .int .i64 x.b, .int .i64 x.i, .string x.body, .bool x.own] 32))
  have hb1 := heap_alloc_new W (.cells #[.int .i64 x.kind, .int .i64 x.a, .int .i64 x.b, .int .i64 x.i, .string x.body, .bool x.own] 32)
  have HD1 := hide hd1
  have HB1 := hide hb1
  clear hd1 hb1 hd
  rw [hown] at HD1 HB1
  skip
  unfold StepAt
  rw [hown]
  rcases h8 with h8 | h8 | h8 | h8 | h8 | h8 | h8 | h8
  · as_aux_lemma =>
    rw [h8] at hA
    go_enter Try.func10, Try.ntmps10
    go_wp2_with (first | (go_at_call 16; refine (hA _).mono ?_; rintro e w1 ⟨rfl, rfl⟩) | (go_at_call 13; refine (HD1.out.nsend hok _ _ _ hxs).mono ?_; rintro e w2 ⟨rfl, hd2, hx2⟩; have HD2 := hide hd2; have HB2 := hide (hx2 _ _ HB1.out); clear hd2 hx2; have k1 := cell_of_block HB2.out 1; have k2 := cell_of_block HB2.out 2; have k4 := cell_of_block HB2.out 4) | (go_at_call 23; refine (HD2.out.rsend hok _ _ _).mono ?_; rintro e w3 ⟨rfl, hd3, -⟩; have HD3 := hide hd3; clear hd3))
    go_ret
    exact ⟨by simp, _, HD3.out, hok.send _ _ _⟩
  · as_aux_lemma =>
    rw [h8] at hA
    obtain ⟨a0, a1, a2, a3, ht⟩ := optV_form (S.take x.i).1.1
    have hN := HD1.out.ntake hok x.i
    have hR := fun W (h : Duo w W bn br (S.take x.i).2 S) => h.rtake hok x.i
    have okt := hok.take x.i
    rw [ht] at hN hR
    clear ht
    generalize (S.take x.i).2 = S' at *
    generalize (S.take x.i).1.2 = er at *
    have OK := hide okt
    clear okt
    go_enter Try.func10, Try.ntmps10
    go_wp2_with (first | (go_at_call 16; refine (hA _).mono ?_; rintro e w1 ⟨rfl, rfl⟩) | (go_at_call 18; refine hN.mono ?_; rintro e w2 ⟨rfl, hd2, -⟩; have HD2 := hide hd2; clear hd2) | (go_at_call 24; refine (hR _ (HD2.out.later (below_alloc1 w2 (.cells #[.int .i64 a0, .int .i64 a1, .int .i64 a2, .string a3] LetT)))).mono ?_; rintro e w3 ⟨rfl, hd3, hx3⟩; have HD3 := hide hd3; have HB3 := hide (hx3 _ _ _ (heap_alloc_new w2 (.cells #[.int .i64 a0, .int .i64 a1, .int .i64 a2, .string a3] LetT)) (by decide) (by decide) (by decide) (by decide)); have hlt3 : w2.heap.size < w3.heap.size := (Array.getElem?_eq_some_iff.1 HB3.out).1; have HB4 := hide (((below_alloc1 w3 (.cells #[.int .i64 a0, .int .i64 a1, .int .i64 a2, .string a3] RLetT)).block _ hlt3).trans HB3.out); clear hd3 hx3; have k0 := cell_of_block HB4.out 0; have k1 := cell_of_block HB4.out 1; have k2 := cell_of_block HB4.out 2; have k3 := cell_of_block HB4.out 3))
    go_ret
    exact ⟨by simp, _, HD3.out.later (below_alloc1 _ _), OK.out⟩
  · as_aux_lemma =>
    rw [h8] at hA
    go_enter Try.func10, Try.ntmps10
    go_wp2_with (first | (go_at_call 16; refine (hA _).mono ?_; rintro e w1 ⟨rfl, rfl⟩) | (go_at_call 15; refine (HD1.out.nlose hok _).mono ?_; rintro e w2 ⟨rfl, hd2, -⟩; have HD2 := hide hd2; clear hd2) | (go_at_call 25; refine (HD2.out.rlose hok _).mono ?_; rintro e w3 ⟨rfl, hd3, -⟩; have HD3 := hide hd3; clear hd3))
    go_ret
    exact ⟨by simp, _, HD3.out, hok.lose _⟩
  · as_aux_lemma =>
    rw [h8] at hA
    go_enter Try.func10, Try.ntmps10
    go_wp2_with (first | (go_at_call 16; refine (hA _).mono ?_; rintro e w1 ⟨rfl, rfl⟩) | (go_at_call 14; refine (HD1.out.ncopy hok _).mono ?_; rintro e w2 ⟨rfl, hd2, -⟩; have HD2 := hide hd2; clear hd2) | (go_at_call 26; refine (HD2.out.rcopy hok _).mono ?_; rintro e w3 ⟨rfl, hd3, -⟩; have HD3 := hide hd3; clear hd3))
    go_ret
    exact ⟨by simp, _, HD3.out, hok.copy _⟩
  · as_aux_lemma =>
    rw [h8] at hA
    go_enter Try.func10, Try.ntmps10
    go_wp2_with (first | (go_at_call 16; refine (hA _).mono ?_; rintro e w1 ⟨rfl, rfl⟩))
    --GEN
    obtain ⟨W1, hW1⟩ : ∃ W1, W1 = W.alloc (.cells #[.int .i64 x.kind, .int .i64 x.a, .int .i64 x.b, .int .i64 x.i, .string x.body, .bool false] 32) := ⟨_, rfl⟩
    rw [← hW1] at HD1 HB1 ⊢
    clear hW1
    --NEG
    have hS : SBox W.heap.size #[.int .i64 x.kind, .int .i64 x.a, .int .i64 x.b, .int .i64 x.i, .string x.body, .bool false] (.int .i64 x.a) (.int .i64 x.b) W1 := ⟨⟨cell_of_block HB1.out 1, cell_of_block HB1.out 2⟩, HB1.out⟩
    go_region_held3 (SBox W.heap.size #[.int .i64 x.kind, .int .i64 x.a, .int .i64 x.b, .int .i64 x.i, .string x.body, .bool false] (.int .i64 x.a) (.int .i64 x.b)) (first | exact SBox.drew (by assumption) | exact SBox.box (by assumption) (by assumption) | exact SBox.rbox (by assumption) (by assumption) | assumption)
      (first | (go_at_call 20; refine (Duo.npart (by first | exact HD1.out | exact HD1.out.drew) hok _ _).mono ?_; rintro e w2 ⟨rfl, hd2, hx2⟩; have HD2 := hide hd2; clear hd2) | (go_at_call 27; refine (Duo.rpart (by first | exact HD2.out | exact HD2.out.drew) hok _ _).mono ?_; rintro e w3 ⟨rfl, hd3, hx3⟩; have HD3 := hide hd3; clear hd3))
    all_goals go_wp2
    all_goals go_ret
    all_goals exact ⟨by simp, _, by first | exact HD3.out | exact HD3.out.drew, hok.part _ _⟩
  · as_aux_lemma =>
    rw [h8] at hA
    go_enter Try.func10, Try.ntmps10
    go_wp2_with (first | (go_at_call 16; refine (hA _).mono ?_; rintro e w1 ⟨rfl, rfl⟩))
    --GEN
    obtain ⟨W1, hW1⟩ : ∃ W1, W1 = W.alloc (.cells #[.int .i64 x.kind, .int .i64 x.a, .int .i64 x.b, .int .i64 x.i, .string x.body, .bool false] 32) := ⟨_, rfl⟩
    rw [← hW1] at HD1 HB1 ⊢
    clear hW1
    --NEG
    have hS : SBox W.heap.size #[.int .i64 x.kind, .int .i64 x.a, .int .i64 x.b, .int .i64 x.i, .string x.body, .bool false] (.int .i64 x.a) (.int .i64 x.b) W1 := ⟨⟨cell_of_block HB1.out 1, cell_of_block HB1.out 2⟩, HB1.out⟩
    go_region_held3 (SBox W.heap.size #[.int .i64 x.kind, .int .i64 x.a, .int .i64 x.b, .int .i64 x.i, .string x.body, .bool false] (.int .i64 x.a) (.int .i64 x.b)) (first | exact SBox.drew (by assumption) | exact SBox.box (by assumption) (by assumption) | exact SBox.rbox (by assumption) (by assumption) | assumption)
      (first | (go_at_call 21; refine (Duo.njoin (by first | exact HD1.out | exact HD1.out.drew) hok _ _).mono ?_; rintro e w2 ⟨rfl, hd2, hx2⟩; have HD2 := hide hd2; clear hd2) | (go_at_call 28; refine (Duo.rjoin (by first | exact HD2.out | exact HD2.out.drew) hok _ _).mono ?_; rintro e w3 ⟨rfl, hd3, hx3⟩; have HD3 := hide hd3; clear hd3))
    all_goals go_wp2
    all_goals go_ret
    all_goals exact ⟨by simp, _, by first | exact HD3.out | exact HD3.out.drew, hok.join _ _⟩
  · as_aux_lemma =>
    rw [h8] at hA
    go_enter Try.func10, Try.ntmps10
    go_wp2_with (first | (go_at_call 16; refine (hA _).mono ?_; rintro e w1 ⟨rfl, rfl⟩) | (go_at_call 19; refine (HD1.out.nparted hok _ _).mono ?_; rintro e w2 ⟨rfl, hd2, hx2⟩; have HD2 := hide hd2; have HB2 := hide (hx2 _ _ HB1.out); clear hd2 hx2; have k1 := cell_of_block HB2.out 1; have k2 := cell_of_block HB2.out 2) | (go_at_call 29; refine (HD2.out.rparted _ _).mono ?_; rintro e w3 ⟨rfl, hd3, -⟩; have HD3 := hide hd3; clear hd3))
    go_ret
    exact ⟨by simp, _, HD3.out, hok⟩
  · as_aux_lemma =>
    rw [h8] at hA
    go_enter Try.func10, Try.ntmps10
    go_wp2_with (first | (go_at_call 16; refine (hA _).mono ?_; rintro e w1 ⟨rfl, rfl⟩) | (go_at_call 22; refine (HD1.out.ndrop hok _).mono ?_; rintro e w2 ⟨rfl, hd2, hx2⟩; have HD2 := hide hd2; have HB2 := hide (hx2 _ _ HB1.out); clear hd2 hx2; have k1 := cell_of_block HB2.out 1) | (go_at_call 30; refine (HD2.out.rdrop hok _).mono ?_; rintro e w3 ⟨rfl, hd3, -⟩; have HD3 := hide hd3; clear hd3))
    go_ret
    exact ⟨by simp, _, HD3.out, hok.drop _⟩
set_option maxHeartbeats 6400000 in
set_option maxRecDepth 100000 in
theorem step_b {w W : World} {bn br : Nat} {S : Nst} (hd : Duo w W bn br S S) (hok : S.Ok) (x : ActV) (hx : x.Ok) (hown : x.own = true) (hl : S.ls.length = 0) : StepAt w W bn br x := by
  have hxk := hx.kind
  have hxs := hx.body
  have h8 : x.kind % 8 = 0 ∨ x.kind % 8 = 1 ∨ x.kind % 8 = 2 ∨ x.kind % 8 = 3 ∨ x.kind % 8 = 4 ∨ x.kind % 8 = 5 ∨ x.kind % 8 = 6 ∨ x.kind % 8 = 7 := by omega
  have hA := fun (W : World) => among_any x.kind 8 W (by omega) (by omega) (by omega) (by omega)
  have hd1 := hd.later (below_alloc1 W (.cells #[.int .i64 x.kind, .int .i64 x.a, .int .i64 x.b, .int .i64 x.i, .string x.body, .bool x.own] 32))
  have hb1 := heap_alloc_new W (.cells #[.int .i64 x.kind, .int .i64 x.a, .int .i64 x.b, .int .i64 x.i, .string x.body, .bool x.own] 32)
  have HD1 := hide hd1
  have HB1 := hide hb1
  clear hd1 hb1 hd
  rw [hown] at HD1 HB1
  obtain ⟨av, cv, r1⟩ := HD1.out.empty hl
  unfold StepAt
  rw [hown]
  rcases h8 with h8 | h8 | h8 | h8 | h8 | h8 | h8 | h8
  · as_aux_lemma =>
    rw [h8] at hA
    go_enter Try.func10, Try.ntmps10
    go_wp2_with (first | (go_at_call 16; refine (hA _).mono ?_; rintro e w1 ⟨rfl, rfl⟩) | (go_at_call 13; refine (HD1.out.nsend hok _ _ _ hxs).mono ?_; rintro e w2 ⟨rfl, hd2, hx2⟩; have HD2 := hide hd2; have HB2 := hide (hx2 _ _ HB1.out); clear hd2 hx2; have k1 := cell_of_block HB2.out 1; have k2 := cell_of_block HB2.out 2; have k4 := cell_of_block HB2.out 4) | (go_at_call 23; refine (HD2.out.rsend hok _ _ _).mono ?_; rintro e w3 ⟨rfl, hd3, -⟩; have HD3 := hide hd3; clear hd3))
    go_ret
    exact ⟨by simp, _, HD3.out, hok.send _ _ _⟩
  · as_aux_lemma =>
    rw [h8] at hA
    obtain ⟨a0, a1, a2, a3, ht⟩ := optV_form (S.take x.i).1.1
    have hN := HD1.out.ntake hok x.i
    have hR := fun W (h : Duo w W bn br (S.take x.i).2 S) => h.rtake hok x.i
    have okt := hok.take x.i
    rw [ht] at hN hR
    clear ht
    generalize (S.take x.i).2 = S' at *
    generalize (S.take x.i).1.2 = er at *
    have OK := hide okt
    clear okt
    go_enter Try.func10, Try.ntmps10
    go_wp2_with (first | (go_at_call 16; refine (hA _).mono ?_; rintro e w1 ⟨rfl, rfl⟩) | (go_at_call 18; refine hN.mono ?_; rintro e w2 ⟨rfl, hd2, -⟩; have HD2 := hide hd2; clear hd2) | (go_at_call 24; refine (hR _ (HD2.out.later (below_alloc1 w2 (.cells #[.int .i64 a0, .int .i64 a1, .int .i64 a2, .string a3] LetT)))).mono ?_; rintro e w3 ⟨rfl, hd3, hx3⟩; have HD3 := hide hd3; have HB3 := hide (hx3 _ _ _ (heap_alloc_new w2 (.cells #[.int .i64 a0, .int .i64 a1, .int .i64 a2, .string a3] LetT)) (by decide) (by decide) (by decide) (by decide)); have hlt3 : w2.heap.size < w3.heap.size := (Array.getElem?_eq_some_iff.1 HB3.out).1; have HB4 := hide (((below_alloc1 w3 (.cells #[.int .i64 a0, .int .i64 a1, .int .i64 a2, .string a3] RLetT)).block _ hlt3).trans HB3.out); clear hd3 hx3; have k0 := cell_of_block HB4.out 0; have k1 := cell_of_block HB4.out 1; have k2 := cell_of_block HB4.out 2; have k3 := cell_of_block HB4.out 3))
    go_ret
    exact ⟨by simp, _, HD3.out.later (below_alloc1 _ _), OK.out⟩
  · as_aux_lemma =>
    rw [h8] at hA
    go_enter Try.func10, Try.ntmps10
    go_wp2_with (first | (go_at_call 16; refine (hA _).mono ?_; rintro e w1 ⟨rfl, rfl⟩) | (go_at_call 15; refine (HD1.out.nlose hok _).mono ?_; rintro e w2 ⟨rfl, hd2, -⟩; have HD2 := hide hd2; clear hd2) | (go_at_call 25; refine (HD2.out.rlose hok _).mono ?_; rintro e w3 ⟨rfl, hd3, -⟩; have HD3 := hide hd3; clear hd3))
    go_ret
    exact ⟨by simp, _, HD3.out, hok.lose _⟩
  · as_aux_lemma =>
    rw [h8] at hA
    go_enter Try.func10, Try.ntmps10
    go_wp2_with (first | (go_at_call 16; refine (hA _).mono ?_; rintro e w1 ⟨rfl, rfl⟩) | (go_at_call 14; refine (HD1.out.ncopy hok _).mono ?_; rintro e w2 ⟨rfl, hd2, -⟩; have HD2 := hide hd2; clear hd2) | (go_at_call 26; refine (HD2.out.rcopy hok _).mono ?_; rintro e w3 ⟨rfl, hd3, -⟩; have HD3 := hide hd3; clear hd3))
    go_ret
    exact ⟨by simp, _, HD3.out, hok.copy _⟩
  · as_aux_lemma =>
    rw [h8] at hA
    go_enter Try.func10, Try.ntmps10
    go_wp2_with (first | (go_at_call 16; refine (hA _).mono ?_; rintro e w1 ⟨rfl, rfl⟩))
    --GEN
    obtain ⟨W1, hW1⟩ : ∃ W1, W1 = W.alloc (.cells #[.int .i64 x.kind, .int .i64 x.a, .int .i64 x.b, .int .i64 x.i, .string x.body, .bool true] 32) := ⟨_, rfl⟩
    rw [← hW1] at HD1 HB1 ⊢
    clear hW1
    --NEG
    have hS : SBox W.heap.size #[.int .i64 x.kind, .int .i64 x.a, .int .i64 x.b, .int .i64 x.i, .string x.body, .bool true] (.int .i64 x.a) (.int .i64 x.b) W1 := ⟨⟨cell_of_block HB1.out 1, cell_of_block HB1.out 2⟩, HB1.out⟩
    go_region_held3 (SBox W.heap.size #[.int .i64 x.kind, .int .i64 x.a, .int .i64 x.b, .int .i64 x.i, .string x.body, .bool true] (.int .i64 x.a) (.int .i64 x.b)) (first | exact SBox.drew (by assumption) | exact SBox.box (by assumption) (by assumption) | exact SBox.rbox (by assumption) (by assumption) | assumption)
      (first | (go_at_call 20; refine (Duo.npart (by first | exact HD1.out | exact HD1.out.drew) hok _ _).mono ?_; rintro e w2 ⟨rfl, hd2, hx2⟩; have HD2 := hide hd2; clear hd2) | (go_at_call 27; refine (Duo.rpart (by first | exact HD2.out | exact HD2.out.drew) hok _ _).mono ?_; rintro e w3 ⟨rfl, hd3, hx3⟩; have HD3 := hide hd3; clear hd3))
    all_goals go_wp2
    all_goals go_ret
    all_goals exact ⟨by simp, _, by first | exact HD3.out | exact HD3.out.drew, hok.part _ _⟩
  · as_aux_lemma =>
    rw [h8] at hA
    go_enter Try.func10, Try.ntmps10
    go_wp2_with (first | (go_at_call 16; refine (hA _).mono ?_; rintro e w1 ⟨rfl, rfl⟩))
    --GEN
    obtain ⟨W1, hW1⟩ : ∃ W1, W1 = W.alloc (.cells #[.int .i64 x.kind, .int .i64 x.a, .int .i64 x.b, .int .i64 x.i, .string x.body, .bool true] 32) := ⟨_, rfl⟩
    rw [← hW1] at HD1 HB1 ⊢
    clear hW1
    --NEG
    have hS : SBox W.heap.size #[.int .i64 x.kind, .int .i64 x.a, .int .i64 x.b, .int .i64 x.i, .string x.body, .bool true] (.int .i64 x.a) (.int .i64 x.b) W1 := ⟨⟨cell_of_block HB1.out 1, cell_of_block HB1.out 2⟩, HB1.out⟩
    go_region_held3 (SBox W.heap.size #[.int .i64 x.kind, .int .i64 x.a, .int .i64 x.b, .int .i64 x.i, .string x.body, .bool true] (.int .i64 x.a) (.int .i64 x.b)) (first | exact SBox.drew (by assumption) | exact SBox.box (by assumption) (by assumption) | exact SBox.rbox (by assumption) (by assumption) | assumption)
      (first | (go_at_call 21; refine (Duo.njoin (by first | exact HD1.out | exact HD1.out.drew) hok _ _).mono ?_; rintro e w2 ⟨rfl, hd2, hx2⟩; have HD2 := hide hd2; clear hd2) | (go_at_call 28; refine (Duo.rjoin (by first | exact HD2.out | exact HD2.out.drew) hok _ _).mono ?_; rintro e w3 ⟨rfl, hd3, hx3⟩; have HD3 := hide hd3; clear hd3))
    all_goals go_wp2
    all_goals go_ret
    all_goals exact ⟨by simp, _, by first | exact HD3.out | exact HD3.out.drew, hok.join _ _⟩
  · as_aux_lemma =>
    rw [h8] at hA
    go_enter Try.func10, Try.ntmps10
    go_wp2_with (first | (go_at_call 16; refine (hA _).mono ?_; rintro e w1 ⟨rfl, rfl⟩) | (go_at_call 19; refine (HD1.out.nparted hok _ _).mono ?_; rintro e w2 ⟨rfl, hd2, hx2⟩; have HD2 := hide hd2; have HB2 := hide (hx2 _ _ HB1.out); clear hd2 hx2; have k1 := cell_of_block HB2.out 1; have k2 := cell_of_block HB2.out 2) | (go_at_call 29; refine (HD2.out.rparted _ _).mono ?_; rintro e w3 ⟨rfl, hd3, -⟩; have HD3 := hide hd3; clear hd3))
    go_ret
    exact ⟨by simp, _, HD3.out, hok⟩
  · as_aux_lemma =>
    rw [h8] at hA
    go_enter Try.func10, Try.ntmps10
    go_wp2_with (first | (go_at_call 16; refine (hA _).mono ?_; rintro e w1 ⟨rfl, rfl⟩) | (go_at_call 22; refine (HD1.out.ndrop hok _).mono ?_; rintro e w2 ⟨rfl, hd2, hx2⟩; have HD2 := hide hd2; have HB2 := hide (hx2 _ _ HB1.out); clear hd2 hx2; have k1 := cell_of_block HB2.out 1) | (go_at_call 30; refine (HD2.out.rdrop hok _).mono ?_; rintro e w3 ⟨rfl, hd3, -⟩; have HD3 := hide hd3; clear hd3))
    go_ret
    exact ⟨by simp, _, HD3.out, hok.drop _⟩

end Go.Proofs.Ytmdpkkipjdpopaa.Nk
