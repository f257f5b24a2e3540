/- Walks over rlog: copied, upward, Slice. -/
import Derived.Test.YtmpahgklcabihaaGreatRlLack
namespace Go.Proofs.YtmpahgklcabihaaGreat.Rl
open Go.RowKit Go.Joins Gk

attribute [local go_sem] Oper.semAt_some

theorem er_own {β : Type} (f : β → List En) (v : Value) (B : Nat) : OwnB B (fun (s : β) W => ER W v (f s)) := fun s W W' row h hg hr =>
  h.stay fun k hk => hg.block k (h.lt hk) (fun e => by
    obtain ⟨_, o, ho, hc⟩ := hr k e.symm
    rcases h with ⟨rfl, _⟩ | ⟨g, o', cap, cur, rfl, hg', _⟩
    · cases hk
    · cases hk; rw [hg'] at ho; cases ho; rcases hc with hc | ⟨_, hc⟩ <;> cases hc)

set_option maxRecDepth 100000 in
set_option maxHeartbeats 8000000 in
theorem copied_in (gf : Nat) (lb : Array Value) (L : List (Nat × En)) (X : Nat → Prop) (w : World) (eg : ∀ args w, (callFunc gf args).run Tryz.prog w = .ok (.enter gf args) w) (hseq : SeqP Tryz.prog gf lb nenc (Kpt X) L (w.heap.size + 3) w) (hX : ∀ k, X k → k < w.heap.size) (hLl : L.length ≤ 1048577) (hLd : ∀ x ∈ L, x.2.d.size ≤ 140737488351232) :
    CallsIn Fence.wide 9 Tryz.prog 84 #[.func (.func gf) #[] lb] w fun e w' => ∃ v, e = .returned v ∧ ER w' v (L.map (·.2)) ∧ (∀ g, blk v = some g → w.heap.size ≤ g) ∧ Below w.heap.size w w' := by
  refine callsIn_of_wp_marks Tryz.func84 rfl trivial ?_ rfl
  simp only [Tryz.ntmps84, List.size_toArray, List.length_cons, List.length_nil, Nat.reduceAdd, Nat.reduceSub, Array.replicate_succ, Array.replicate_zero, List.push_toArray, List.append_toArray, List.nil_append, List.cons_append]
  gi_wp2
  obtain ⟨W0, hW0⟩ : ∃ W0, w.alloc (.cells #[.slice none 0 0] EnsT) = W0 := ⟨_, rfl⟩
  have hsz : W0.heap.size = w.heap.size + 1 := by rw [← hW0]; simp
  have bL : Boxed W0 w.heap.size EnsT (.slice none 0 0) := by rw [← hW0]; exact Boxed.new w _ _
  have hB0 : Below w.heap.size w W0 := by rw [← hW0]; exact (Below.refl _ w).alloc (Nat.le_refl _) _
  rw [hW0]
  clear hW0
  refine range_pre rfl eg (show SeqP Tryz.prog gf lb nenc (Kpt X) L (W0.heap.size + 2) w by rw [hsz]; exact hseq) (fun h k => h.trans k) (Kpt.put (fun k hk => by have := hX k hk; omega)) hB0 (fun _ => rfl)
    (fun pre W => (∃ v, Boxed W w.heap.size EnsT v ∧ ER W v (pre.map (·.2)) ∧ (∀ g, blk v = some g → w.heap.size ≤ g)) ∧ Below w.heap.size w W)
    (fun _ _ _ => False)
    (OwnB.and (OwnB.ex fun v => OwnB.and (OwnB.boxed _ _ _ (fun _ => v) (Or.inl (by omega))) (OwnB.and (er_own (fun pre : List (Nat × En) => pre.map (·.2)) v _) (OwnB.pure _ (fun _ => ∀ g, blk v = some g → w.heap.size ≤ g)))) (OwnB.below (Nat.le_refl _) (by omega)))
    (fun c s W W' row h _ _ => h)
    ⟨⟨_, bL, ER.nil _, fun g e => by cases e⟩, hB0⟩
    (fun x a' W => ∃ Bx vv, w.heap.size + 1 ≤ Bx ∧ W.heap[Bx]? = some (.cells #[.int .i64 x.2.t, .string x.2.d] EnT (0, 0)) ∧ W.heap[w.heap.size]? = some (.cells #[vv] EnsT (0, 0)) ∧ blk vv ≠ some Bx ∧ a' = { tmps := #[.func (.func gf) #[] lb, undef, .slice none 0 0, ptr w.heap.size, undef, ptr Bx, .func (.func gf) #[] lb, .int .i64 x.1, ev x.2, undef, undef, undef, undef, undef, undef, undef, undef, undef, undef], defers := [] })
    (fun x a' => ownFrom_ex fun Bx => ownFrom_ex fun vv => OwnFrom.and (ownFrom_pure _ (fun _ => w.heap.size + 1 ≤ Bx)) (OwnFrom.and (ownFrom_block _ Bx (fun _ => #[.int .i64 x.2.t, .string x.2.d]) EnT) (OwnFrom.and (ownFrom_block _ w.heap.size (fun _ => #[vv]) EnsT) (ownFrom_pure _ (fun _ => blk vv ≠ some Bx ∧ a' = _)))))
    ?assign ?body ?done ?stop
  case assign =>
    rintro l' pre x W K ⟨⟨v1, h1, h2, h3⟩, h4⟩ hK
    have hz1 := h1.lt
    dsimp only [nenc, ev]
    gi_wp2
    exact hK _ _ ((KeepsOthers.alloc W _).from _) (Kpt.alloc (fun k hk => by have := hX k hk; omega) _) ⟨⟨v1, h1.alloc _, h2.below ((Below.refl _ W).alloc (Nat.le_refl _) _), h3⟩, h4.alloc h4.size _⟩ ⟨W.heap.size, v1, by omega, World.alloc_heap_new W _, h1.alloc _, fun e => by have := h2.lt e; omega, rfl⟩
  case body =>
    rintro l' pre x a' W hl' hpre ⟨⟨v1, h1, h2, h3⟩, h4⟩ ⟨Bx, vv, hBx, hx, hvb, hvn, rfl⟩
    have hvv : vv = v1 := by rw [show W.heap[w.heap.size]? = _ from h1] at hvb; simp at hvb; exact hvb.symm
    subst hvv
    obtain ⟨E1, hE1⟩ : ∃ E1, pre.map (·.2) = E1 := ⟨_, rfl⟩
    have hE1l : E1.length = pre.length := by rw [← hE1, List.length_map]
    rw [hE1] at h2
    have HE1 := hide hE1
    clear hE1 hvb
    obtain ⟨av, cv, rfl, _⟩ := h2.slice
    obtain ⟨n, y, d⟩ := x
    dsimp only at hx
    have hxl : Bx < W.heap.size := (Array.getElem?_eq_some_iff.1 hx).1
    have hlen : E1.length ≤ 1048576 := by
      have := hpre.length_le; rw [List.length_append, List.length_singleton] at this; omega
    have hd : d.size ≤ 140737488351232 := hLd (n, ⟨y, d⟩) (hpre.subset (List.mem_append_right _ (List.mem_singleton.2 rfl)))
    have x0 : W.cell? ⟨Bx, 0, none⟩ = some (.int .i64 y) := by rw [cell_of_block hx]; rfl
    have x1 : W.cell? ⟨Bx, 1, none⟩ = some (.string d) := by rw [cell_of_block hx]; rfl
    have c1 := h1.cell
    have hz := h4.size
    have hbl := h1.lt
    have HC := hide (fun W => clone_any d W hd)
    have hne : w.heap.size ≠ Bx := by omega
    have hkey : ∀ (wa w3 : World), Below W.heap.size W wa → wa.grownBy w3 (blk (.slice av E1.length cv)) → ∀ k, k < W.heap.size → blk (.slice av E1.length cv) ≠ some k → w3.heap[k]? = W.heap[k]? := fun wa w3 hb hg k hk hn => (hg.block k (Nat.lt_of_lt_of_le hk hb.size) (fun e => hn e.symm)).trans (hb.block k hk)
    have hbn : blk (.slice av E1.length cv) ≠ some w.heap.size := fun e => h2.ne h1 (by decide) e rfl
    have HWN := hide (show ∀ w2, Below W.heap.size W.drew w2 → w2.cell? ⟨w.heap.size, 0, none⟩ = some (.slice av E1.length cv) ∧ (w2.cell? ⟨Bx, 0, none⟩ = some (.int .i64 y) ∧ w2.cell? ⟨Bx, 1, none⟩ = some (.string d)) ∧
        ((w2.alloc (.cells #[.int .i64 y, .string d] EnT)).cell? ⟨Bx, 0, none⟩ = some (.int .i64 y) ∧ (w2.alloc (.cells #[.int .i64 y, .string d] EnT)).cell? ⟨Bx, 1, none⟩ = some (.string d)) ∧ (w2.alloc (.cells #[.int .i64 y, .string d] EnT)).cell? ⟨w.heap.size, 0, none⟩ = some (.slice av E1.length cv) ∧ ER (w2.alloc (.cells #[.int .i64 y, .string d] EnT)) (.slice av E1.length cv) (E1) by
      intro w2 hb2
      have hb : Below W.heap.size W w2 := (Below.refl _ W).drew.trans hb2
      have hb' : Below W.heap.size W (w2.alloc (.cells #[.int .i64 y, .string d] EnT)) := hb.alloc hb.size _
      exact ⟨(hb.cell (p := ⟨w.heap.size, 0, none⟩) hbl).trans c1, ⟨(hb.cell (p := ⟨Bx, 0, none⟩) hxl).trans x0, (hb.cell (p := ⟨Bx, 1, none⟩) hxl).trans x1⟩, ⟨(hb'.cell (p := ⟨Bx, 0, none⟩) hxl).trans x0, (hb'.cell (p := ⟨Bx, 1, none⟩) hxl).trans x1⟩, (hb'.cell (p := ⟨w.heap.size, 0, none⟩) hbl).trans c1, h2.below hb'⟩)
    have HFN := hide (show ∀ w2, Below W.heap.size W.drew w2 → ∀ ad cap3 w3, ER w3 (.slice ad (E1.length + 1) cap3) (E1 ++ [⟨y, d⟩]) → (w2.alloc (.cells #[.int .i64 y, .string d] EnT)).grownBy w3 (blk (.slice av E1.length cv)) → (∀ g, blk (.slice ad (E1.length + 1) cap3) = some g → blk (.slice av E1.length cv) = some g ∨ (w2.alloc (.cells #[.int .i64 y, .string d] EnT)).heap.size ≤ g) →
        w3.cell? ⟨w.heap.size, 0, none⟩ = some (.slice av E1.length cv) ∧ w3.frozen? ⟨w.heap.size, 0, none⟩ = false ∧ (w3.cell? ⟨Bx, 0, none⟩ = some (.int .i64 y) ∧ w3.cell? ⟨Bx, 1, none⟩ = some (.string d)) ∧
        ((w3.setCell ⟨w.heap.size, 0, none⟩ (.slice ad (E1.length + 1) cap3)).cell? ⟨Bx, 0, none⟩ = some (.int .i64 y) ∧ (w3.setCell ⟨w.heap.size, 0, none⟩ (.slice ad (E1.length + 1) cap3)).cell? ⟨Bx, 1, none⟩ = some (.string d)) ∧
        KeepsFrom W0.heap.size W (w3.setCell ⟨w.heap.size, 0, none⟩ (.slice ad (E1.length + 1) cap3)) ∧ Kpt X W (w3.setCell ⟨w.heap.size, 0, none⟩ (.slice ad (E1.length + 1) cap3)) ∧
        (∃ v, Boxed (w3.setCell ⟨w.heap.size, 0, none⟩ (.slice ad (E1.length + 1) cap3)) w.heap.size EnsT v ∧ ER (w3.setCell ⟨w.heap.size, 0, none⟩ (.slice ad (E1.length + 1) cap3)) v ((pre ++ [(n, (⟨y, d⟩ : En))]).map (·.2)) ∧ (∀ g, blk v = some g → w.heap.size ≤ g)) ∧ Below w.heap.size w (w3.setCell ⟨w.heap.size, 0, none⟩ (.slice ad (E1.length + 1) cap3)) by
      intro w2 hb2 ad cap3 w3 her hg hat
      have hb : Below W.heap.size W w2 := (Below.refl _ W).drew.trans hb2
      have hb' : Below W.heap.size W (w2.alloc (.cells #[.int .i64 y, .string d] EnT)) := hb.alloc hb.size _
      have hk := hkey _ w3 hb' hg
      have k1 : Boxed w3 w.heap.size EnsT (.slice av E1.length cv) := (hk _ hbl hbn).trans h1
      have kx : w3.heap[Bx]? = some (.cells #[.int .i64 y, .string d] EnT (0, 0)) := (hk _ hxl hvn).trans hx
      have hst : ∀ k, k ≠ w.heap.size → (w3.setCell ⟨w.heap.size, 0, none⟩ (.slice ad (E1.length + 1) cap3)).heap[k]? = w3.heap[k]? := fun k h => Below.heap_setCell w3 ⟨w.heap.size, 0, none⟩ _ k h
      have kx' := (hst Bx (fun e => hne e.symm)).trans kx
      have hsz3 : W.heap.size ≤ w3.heap.size := Nat.le_trans hb'.size hg.size
      refine ⟨k1.cell, k1.frozen, ⟨by rw [cell_of_block kx]; rfl, by rw [cell_of_block kx]; rfl⟩, ⟨by rw [cell_of_block kx']; rfl, by rw [cell_of_block kx']; rfl⟩, ⟨by simpa using hsz3, fun k o _ hko hc => ?_⟩, ⟨by simpa using hsz3, fun k hXk => ?_⟩, ⟨_, k1.set _, ?_, fun g hgb => ?_⟩, ⟨hg.os.trans (hb'.os.trans h4.os), hg.tape.trans (hb'.tape.trans h4.tape), hg.output.trans (hb'.output.trans h4.output), by have := h4.size; simp; omega, fun k hkw => ?_⟩⟩
      · have hkl := (Array.getElem?_eq_some_iff.1 hko).1
        refine ((hst k (fun e => ?_)).trans (hk k hkl (fun e => ?_))).trans hko
        · rw [e, show W.heap[w.heap.size]? = _ from h1] at hko; cases hko; cases hc
        · rcases h2 with ⟨e1, _⟩ | ⟨g, o', cp, cur, e1, hg', _⟩
          · rw [e1] at e; cases e
          · rw [e1] at e; cases e; rw [hg'] at hko; cases hko; cases hc
      · have := hX k hXk
        exact (hst k (by omega)).trans (hk k (by omega) (fun e => by have := h3 k e; omega))
      · rw [List.map_append, HE1.out]; exact her.stay fun g hgb => hst g (her.ne k1 (by decide) hgb)
      · rcases hat g hgb with h | h
        · exact h3 g h
        · have := hb'.size; omega
      · exact ((hst k (by omega)).trans (hk k (by omega) (fun e => by have := h3 k e; omega))).trans (h4.block k hkw))
    have HB1 := hide h1
    clear h1 h2 h3 h4 hx hpre hseq hLl hLd hvn hkey hbn hE1l
    dsimp only [ev]
    gi_wp2
    refine held_round (S := fun W' => W'.cell? ⟨Bx, 0, none⟩ = some (.int .i64 y) ∧ W'.cell? ⟨Bx, 1, none⟩ = some (.string d)) (by kernel_rfl) ?lo (by kernel_rfl) ⟨x0, x1⟩ (fun hHeld => ?_)
    case lo => rintro ⟨_, _, h⟩; exact h
    refine take_held (i := 1) (dst := some 10) (v := ?_) rfl (by kernel_rfl) (by kernel_rfl) (by kernel_rfl) (by kernel_rfl) (fun _ _ _ h => h) (Or.inl ⟨by kernel_rfl, ?_⟩) (by assumption) ?_
    rotate_left
    · intro w hSw; obtain ⟨kx0, kx1⟩ := hSw; go_simp; try with_reducible rfl
    simp only [Act.put, List.setIfInBounds_toArray, List.set_cons_zero, List.set_cons_succ]
    refine take_held (i := 2) (dst := some 11) (v := ?_) rfl (by kernel_rfl) (by kernel_rfl) (by kernel_rfl) (by kernel_rfl) (fun _ _ _ h => h) (Or.inl ⟨by kernel_rfl, ?_⟩) (by assumption) ?_
    rotate_left
    · intro w hSw; obtain ⟨kx0, kx1⟩ := hSw; go_simp; try with_reducible rfl
    simp only [Act.put, List.setIfInBounds_toArray, List.set_cons_zero, List.set_cons_succ]
    refine take_held (i := 3) (dst := some 12) (v := ?_) rfl (by kernel_rfl) (by kernel_rfl) (by kernel_rfl) (by kernel_rfl) (fun _ _ _ h => h) (Or.inl ⟨by kernel_rfl, ?_⟩) (by assumption) ?_
    rotate_left
    · intro w hSw; obtain ⟨kx0, kx1⟩ := hSw; go_simp; try with_reducible rfl
    simp only [Act.put, List.setIfInBounds_toArray, List.set_cons_zero, List.set_cons_succ]
    refine take_held (i := 4) (dst := some 13) (v := ?_) rfl (by kernel_rfl) (by kernel_rfl) (by kernel_rfl) (by kernel_rfl) (fun _ _ _ h => h) (Or.inl ⟨by kernel_rfl, ?_⟩) (by assumption) ?_
    rotate_left
    · intro w hSw; obtain ⟨kx0, kx1⟩ := hSw; go_simp; try with_reducible rfl
    simp only [Act.put, List.setIfInBounds_toArray, List.set_cons_zero, List.set_cons_succ]
    refine wpAnyH_ready (rs := [0, 5]) (by kernel_rfl) (by simp) ?_
    refine AllReadyH.cons rfl (fun K hK => ?_) (AllReadyH.cons rfl (fun K hK => ?_) AllReadyH.nil)
    · go_simp
      refine hK.out _ _ ⟨x0, x1⟩ (fun _ => ?_)
      clear hK K
      try simp only [Act.put, List.setIfInBounds_toArray, List.set_cons_zero, List.set_cons_succ]
      refine wpAnyH_ready (rs := [5]) (by kernel_rfl) (by simp) ?_
      refine AllReadyH.cons rfl (fun K hK => ?_) AllReadyH.nil
      go_simp
      go_at_call 129
      refine (HC.out _).mono ?_
      rintro e w2 ⟨rfl, hb2⟩
      have HW2 := hide (HWN.out w2 hb2)
      have l2 := HW2.out.1
      refine hK.out _ _ HW2.out.2.1 (fun _ => ?_)
      clear hK K
      try simp only [Act.put, List.setIfInBounds_toArray, List.set_cons_zero, List.set_cons_succ]
      refine take_held (i := 6) (dst := some 15) (v := ?_) rfl (by kernel_rfl) (by kernel_rfl) (by kernel_rfl) (by kernel_rfl) (fun _ _ _ h => h) (Or.inl ⟨by kernel_rfl, ?_⟩) (by assumption) ?_
      rotate_left
      · intro w hSw; obtain ⟨kx0, kx1⟩ := hSw; go_simp; try with_reducible rfl
      simp only [Act.put, List.setIfInBounds_toArray, List.set_cons_zero, List.set_cons_succ]
      refine wpAnyH_ready (rs := [7]) (by kernel_rfl) (by simp) ?_
      refine AllReadyH.cons rfl (fun K hK => ?_) AllReadyH.nil
      go_simp
      refine hK.out _ _ HW2.out.2.2.1 (fun _ => ?_)
      have l3 := HW2.out.2.2.2.1
      clear hK K
      try simp only [Act.put, List.setIfInBounds_toArray, List.set_cons_zero, List.set_cons_succ]
      refine wpAnyH_ready (rs := [8]) (by kernel_rfl) (by simp) ?_
      refine AllReadyH.cons rfl (fun K hK => ?_) AllReadyH.nil
      refine step_er (by rfl) (.tmp 9) (.tmp 16) (by rfl) (.slice av E1.length cv) E1 (by rfl) HW2.out.2.2.2.2 w2.heap.size ⟨y, d⟩ (by rfl) (heap_alloc_new w2 _) hlen ?_
      intro ad cap3 w3 her hg3 hat3
      have HF := hide (HFN.out w2 hb2 ad cap3 w3 her hg3 hat3)
      have l4 := HF.out.1
      have f4 := HF.out.2.1
      refine hK.out _ _ HF.out.2.2.1 (fun _ => ?_)
      clear hK K
      try simp only [Act.put, List.setIfInBounds_toArray]
      refine wpAnyH_ready (rs := [9]) (by kernel_rfl) (by simp) ?_
      refine AllReadyH.cons rfl (fun K hK => ?_) AllReadyH.nil
      go_simp
      refine hK.out _ _ HF.out.2.2.2.1 (fun _ => ?_)
      clear hK K
      refine wpAnyH_done (by kernel_rfl) ?_ _
      gi_wp2
      exact HF.out.2.2.2.2
    · go_simp
      go_at_call 129
      refine (HC.out _).mono ?_
      rintro e w2 ⟨rfl, hb2⟩
      have HW2 := hide (HWN.out w2 hb2)
      have l2 := HW2.out.1
      refine hK.out _ _ HW2.out.2.1 (fun _ => ?_)
      clear hK K
      try simp only [Act.put, List.setIfInBounds_toArray, List.set_cons_zero, List.set_cons_succ]
      refine take_held (i := 6) (dst := some 15) (v := ?_) rfl (by kernel_rfl) (by kernel_rfl) (by kernel_rfl) (by kernel_rfl) (fun _ _ _ h => h) (Or.inl ⟨by kernel_rfl, ?_⟩) (by assumption) ?_
      rotate_left
      · intro w hSw; obtain ⟨kx0, kx1⟩ := hSw; go_simp; try with_reducible rfl
      simp only [Act.put, List.setIfInBounds_toArray, List.set_cons_zero, List.set_cons_succ]
      refine wpAnyH_ready (rs := [0, 7]) (by kernel_rfl) (by simp) ?_
      refine AllReadyH.cons rfl (fun K hK => ?_) (AllReadyH.cons rfl (fun K hK => ?_) AllReadyH.nil)
      · go_simp
        refine hK.out _ _ HW2.out.2.1 (fun _ => ?_)
        clear hK K
        try simp only [Act.put, List.setIfInBounds_toArray, List.set_cons_zero, List.set_cons_succ]
        refine wpAnyH_ready (rs := [7]) (by kernel_rfl) (by simp) ?_
        refine AllReadyH.cons rfl (fun K hK => ?_) AllReadyH.nil
        go_simp
        refine hK.out _ _ HW2.out.2.2.1 (fun _ => ?_)
        have l3 := HW2.out.2.2.2.1
        clear hK K
        try simp only [Act.put, List.setIfInBounds_toArray, List.set_cons_zero, List.set_cons_succ]
        refine wpAnyH_ready (rs := [8]) (by kernel_rfl) (by simp) ?_
        refine AllReadyH.cons rfl (fun K hK => ?_) AllReadyH.nil
        refine step_er (by rfl) (.tmp 9) (.tmp 16) (by rfl) (.slice av E1.length cv) E1 (by rfl) HW2.out.2.2.2.2 w2.heap.size ⟨y, d⟩ (by rfl) (heap_alloc_new w2 _) hlen ?_
        intro ad cap3 w3 her hg3 hat3
        have HF := hide (HFN.out w2 hb2 ad cap3 w3 her hg3 hat3)
        have l4 := HF.out.1
        have f4 := HF.out.2.1
        refine hK.out _ _ HF.out.2.2.1 (fun _ => ?_)
        clear hK K
        try simp only [Act.put, List.setIfInBounds_toArray]
        refine wpAnyH_ready (rs := [9]) (by kernel_rfl) (by simp) ?_
        refine AllReadyH.cons rfl (fun K hK => ?_) AllReadyH.nil
        go_simp
        refine hK.out _ _ HF.out.2.2.2.1 (fun _ => ?_)
        clear hK K
        refine wpAnyH_done (by kernel_rfl) ?_ _
        gi_wp2
        exact HF.out.2.2.2.2
      · go_simp
        refine hK.out _ _ HW2.out.2.2.1 (fun _ => ?_)
        have l3 := HW2.out.2.2.2.1
        clear hK K
        try simp only [Act.put, List.setIfInBounds_toArray, List.set_cons_zero, List.set_cons_succ]
        refine wpAnyH_ready (rs := [0]) (by kernel_rfl) (by simp) ?_
        refine AllReadyH.cons rfl (fun K hK => ?_) AllReadyH.nil
        go_simp
        refine hK.out _ _ HW2.out.2.2.1 (fun _ => ?_)
        clear hK K
        try simp only [Act.put, List.setIfInBounds_toArray, List.set_cons_zero, List.set_cons_succ]
        refine wpAnyH_ready (rs := [8]) (by kernel_rfl) (by simp) ?_
        refine AllReadyH.cons rfl (fun K hK => ?_) AllReadyH.nil
        refine step_er (by rfl) (.tmp 9) (.tmp 16) (by rfl) (.slice av E1.length cv) E1 (by rfl) HW2.out.2.2.2.2 w2.heap.size ⟨y, d⟩ (by rfl) (heap_alloc_new w2 _) hlen ?_
        intro ad cap3 w3 her hg3 hat3
        have HF := hide (HFN.out w2 hb2 ad cap3 w3 her hg3 hat3)
        have l4 := HF.out.1
        have f4 := HF.out.2.1
        refine hK.out _ _ HF.out.2.2.1 (fun _ => ?_)
        clear hK K
        try simp only [Act.put, List.setIfInBounds_toArray]
        refine wpAnyH_ready (rs := [9]) (by kernel_rfl) (by simp) ?_
        refine AllReadyH.cons rfl (fun K hK => ?_) AllReadyH.nil
        go_simp
        refine hK.out _ _ HF.out.2.2.2.1 (fun _ => ?_)
        clear hK K
        refine wpAnyH_done (by kernel_rfl) ?_ _
        gi_wp2
        exact HF.out.2.2.2.2
  case done =>
    rintro D W hD ⟨⟨v1, h1, h2, h3⟩, h4⟩ hK
    obtain ⟨E1, hE1⟩ : ∃ E1, L.map (·.2) = E1 := ⟨_, rfl⟩
    rw [hE1] at h2
    have HE1 := hide hE1
    clear hE1
    obtain ⟨av, cv, rfl, _⟩ := h2.slice
    have c1 := h1.cell
    gi_wp2
    refine ⟨by simp, .inl ⟨_, _, rfl, run_takeDeferred hK, ?_⟩⟩
    refine ⟨_, results_tmp rfl _ _ _, .slice av E1.length cv, rfl, ?_, h3, h4.trans (belowK_b (w := w) (Nat.le_refl _) W D _ _ (by omega) hK rfl rfl)⟩
    rw [HE1.out]
    exact h2.stay fun g hg => World.putObj_heap_other (fun e => by
      rcases h2 with ⟨e1, _⟩ | ⟨g', o', cp, cur, e1, hg', _⟩
      · rw [e1] at hg; cases hg
      · rw [e1] at hg; cases hg
        have e2 : g' = D := e
        rw [e2, hK] at hg'; cases hg')
  case stop =>
    rintro D c pre W hD hpre h
    exact h.elim

set_option maxRecDepth 100000 in
set_option maxHeartbeats 1000000 in
theorem upward_any (bl : Nat) (S : Lo) (v : Value) (i k : Nat) (w : World) (h : LH w bl S v) (hbd : S.b + S.es.length ≤ 1048577) (hik : i + k ≤ S.es.length) :
    Calls Tryz.prog 85 #[ptr bl, .int .i64 ((S.b + 1 + i : Nat) : Int), .int .i64 (k : Int)] w fun e w' => e = .returned (.func (.func 176) #[] #[ptr (w.heap.size + 1), ptr w.heap.size]) ∧ Below w.heap.size w w' ∧
      ∃ a cap, Lies w eenc a ((S.es.drop i).take k) ∧ Boxed w' (w.heap.size + 1) EnsT (.slice a k cap) ∧ Boxed w' w.heap.size 3 (.int .i64 ((S.b + 1 + i : Nat) : Int)) := by
  have c0 := h.c0
  have c2 := h.c2
  have e1 : ((S.b + 1 + i : Nat) : Int) - (S.b : Int) = (i : Int) + 1 := by omega
  have i1 : (0 : Int) ≤ (i : Int) := by omega
  have i2 : (i : Int) ≤ 1048577 := by omega
  have i3 : (k : Int) ≤ 1048577 := by omega
  have i4 : (0 : Int) ≤ (k : Int) := by omega
  have hN := fun a cap W => numbered_any (S.b + 1 + i) a k cap W
  have HFN := hide (show ∀ a cap, Lies w eenc a ((S.es.drop i).take k) → ∀ w', w' = (w.alloc (.cells #[.int .i64 ((S.b + 1 + i : Nat) : Int)] 3)).alloc (.cells #[.slice a k cap] EnsT) → Below w.heap.size w w' ∧ ∃ a cap, Lies w eenc a ((S.es.drop i).take k) ∧ Boxed w' (w.heap.size + 1) EnsT (.slice a k cap) ∧ Boxed w' w.heap.size 3 (.int .i64 ((S.b + 1 + i : Nat) : Int)) by
    rintro a cap hl w' rfl
    refine ⟨((Below.refl _ w).alloc (Nat.le_refl _) _).alloc (by simp) _, a, cap, hl, ?_, (Boxed.new w _ _).alloc _⟩
    have := Boxed.new (w.alloc (.cells #[.int .i64 ((S.b + 1 + i : Nat) : Int)] 3)) EnsT (.slice a k cap)
    rw [World.size_alloc] at this
    exact this)
  generalize ((S.b + 1 + i : Nat) : Int) = fi at *
  rcases h.row with ⟨rfl, h0⟩ | ⟨g, o, cap, cur, rfl, hg, h1, h2, h3, h4⟩
  · rw [h0] at hik HFN
    have hi0 : i = 0 := by simp at hik; omega
    have hk0 : k = 0 := by simp at hik; omega
    subst hi0 hk0
    have HL := hide (HFN.out none 0 (Or.inl (by simp)))
    clear h HFN
    go_enter Tryz.func85, Tryz.ntmps85
    go_wp2_with (go_at_call 130; refine (hN _ _ _).mono ?_; rintro e w1 ⟨rfl, hw1⟩; have HW1 := hide hw1; clear hw1)
    go_ret
    exact ⟨rfl, HL.out _ HW1.out⟩
  · have hdr := h.row.drop i (by omega)
    have i5 : (i : Int) + (k : Int) ≤ (cap : Int) := by omega
    have i6 : (i : Int) ≤ (i : Int) + (k : Int) := by omega
    have i7 : i + k ≤ cap := by omega
    by_cases hc : cap = i
    · have hk0 : k = 0 := by omega
      subst hk0 hc
      have HL := hide (HFN.out (some ⟨g, o, none⟩) 0 (Or.inl (by simp)))
      clear h HFN hdr h4 h3 hg
      go_enter Tryz.func85, Tryz.ntmps85
      go_wp2_with (go_at_call 130; refine (hN _ _ _).mono ?_; rintro e w1 ⟨rfl, hw1⟩; have HW1 := hide hw1; clear hw1)
      go_ret
      exact ⟨rfl, HL.out _ HW1.out⟩
    · have HL := hide (HFN.out (some ⟨g, o + i * 2, none⟩) (cap - i) (hdr.take k (by rw [List.length_drop]; omega)).lies)
      clear h HFN hdr h4 h3 hg
      go_enter Tryz.func85, Tryz.ntmps85
      go_wp2_with (go_at_call 130; refine (hN _ _ _).mono ?_; rintro e w1 ⟨rfl, hw1⟩; have HW1 := hide hw1; clear hw1)
      go_ret
      exact ⟨rfl, HL.out _ HW1.out⟩

end Go.Proofs.YtmpahgklcabihaaGreat.Rl
