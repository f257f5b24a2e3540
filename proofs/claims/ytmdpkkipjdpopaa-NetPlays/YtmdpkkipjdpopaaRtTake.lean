/- Walks over skylarkref03: Take. -/
import Derived.Test.YtmdpkkipjdpopaaRtDrop
namespace Go.Proofs.Ytmdpkkipjdpopaa.Nk
open Go.RowKit Go.Joins Gk

set_option maxHeartbeats 3200000 in
theorem rtake_any {own : Nat → Prop} {br : Nat} {S : Nst} (w : World) (h : RNHeld w own br S) (hfr : Fresh own w) (hok : S.Ok) (id : Int) :
    Calls Try.prog 24 #[.pointer (some ⟨br, 0, none⟩), .int .i64 id] w fun e w' => e = .returned (.tuple #[optV (S.take id).1.1, .int .i64 (S.take id).1.2]) ∧ RNHeld w' own br (S.take id).2 ∧ Only own w w' := by
  obtain ⟨v, u, gs, h⟩ := h
  have hb0 := below_alloc1 w (.cells #[.int .i64 0, .int .i64 0, .int .i64 0, .string ⟨#[]⟩] RLetT)
  have hA0 := heap_alloc_new w (.cells #[.int .i64 0, .int .i64 0, .int .i64 0, .string ⟨#[]⟩] RLetT)
  obtain ⟨W, hW⟩ : ∃ W, W = w.alloc (.cells #[.int .i64 0, .int .i64 0, .int .i64 0, .string ⟨#[]⟩] RLetT) := ⟨_, rfl⟩
  rw [← hW] at hb0 hA0
  have hzW : w.heap.size < W.heap.size := by rw [hW]; simp
  have h0 := h.below hb0
  have hF := rfind_any W h0 hok.many id
  cases hf : S.find id with
  | none =>
    have hv : S.take id = ((none, 5), S) := by simp [Nst.take, hf]
    rw [hv]
    rw [find_none hf] at hF
    have HH := hide h
    clear h h0
    go_enter Try.func24, Try.ntmps24
    go_wp2_with fail
    rw [← hW]
    clear hW
    go_wp2_with (first | (go_at_call 46; refine hF.mono ?_; rintro e w1 ⟨rfl, hb1⟩; have hA1 := (hb1.block w.heap.size hzW).trans hA0; have e0 : w1.cell? ⟨w.heap.size, 0, none⟩ = some (.int .i64 0) := cell_of_block hA1 0; have e1 : w1.cell? ⟨w.heap.size, 1, none⟩ = some (.int .i64 0) := cell_of_block hA1 1; have e2 : w1.cell? ⟨w.heap.size, 2, none⟩ = some (.int .i64 0) := cell_of_block hA1 2; have e3 : w1.cell? ⟨w.heap.size, 3, none⟩ = some (.string ⟨#[]⟩) := cell_of_block hA1 3; have z0 := unfrozen_of_block hA1 0; have z1 := unfrozen_of_block hA1 1; have z2 := unfrozen_of_block hA1 2; have z3 := unfrozen_of_block hA1 3))
    refine bodyPost_ret (v := .tuple #[noL, .int .i64 5]) (by simp [results, Try.results24, go_sem, e0, e1, e2, e3]) rfl ?_
    have hbx := (((((hb0.trans (hb1.mono hb0.size)).setCell (p := ⟨w.heap.size, 0, none⟩) (Nat.le_refl _) (.int .i64 0)).setCell (p := ⟨w.heap.size, 1, none⟩) (Nat.le_refl _) (.int .i64 0)).setCell (p := ⟨w.heap.size, 2, none⟩) (Nat.le_refl _) (.int .i64 0)).setCell (p := ⟨w.heap.size, 3, none⟩) (Nat.le_refl _) (.string ⟨#[]⟩))
    exact ⟨rfl, ⟨v, u, gs, HH.out.below hbx⟩, Only.of_below hbx⟩
  | some i =>
    obtain ⟨h1, h2⟩ := find_some hf
    rw [h1] at hF
    clear h1
    have i1 : (0 : Int) ≤ (i : Int) := by omega
    have i2 : (i : Int) < (S.ls.length : Int) := by omega
    obtain ⟨x, hx⟩ : ∃ x, S.ls[i] = x := ⟨_, rfl⟩
    have hgx : S.ls[i]? = some x := by rw [List.getElem?_eq_getElem h2, hx]
    have hex := hok.each _ (List.getElem_mem h2)
    rw [hx] at hex
    obtain ⟨g, cap, rfl, hgl, hc⟩ := h0.row.at lenc_len i h2
    have c0 := hc 0 _ rfl
    have c1 := hc 1 _ rfl
    have c2 := hc 2 _ rfl
    have c3 := hc 3 _ rfl
    rw [Nat.add_zero] at c0
    rw [hx] at c0 c1 c2 c3
    have d2 := h0.c1
    have hbl := h0.lt
    have hbl0 := h.lt
    clear hc hx
    have j1 : (0 : Int) ≤ (x.fr : Int) := by omega
    have j2 : (x.fr : Int) < (S.nodes : Int) := by omega
    have j3 : (0 : Int) ≤ (x.to : Int) := by omega
    have j4 : (x.to : Int) < (S.nodes : Int) := by omega
    obtain ⟨gc, capc, gr, hu, q1, q2, _, hgcl, hgrl, _⟩ := h0.cutAt x.fr x.to (by omega) (by omega)
    subst hu
    have q0 := h0.c3
    cases hpt : S.parted x.fr x.to
    all_goals
      rw [hpt] at q2
      have hFX : ∀ W', Below W.heap.size W W' → W'.cell? ⟨br, 3, none⟩ = some (.slice (some ⟨gc, 0, none⟩) S.nodes capc) ∧ W'.cell? ⟨gc, x.fr, none⟩ = some (.slice (some ⟨gr, 0, none⟩) S.nodes S.nodes) ∧ W'.cell? ⟨gr, x.to, none⟩ = some _ := fun W' hb => ⟨(hb.cell (p := ⟨br, 3, none⟩) hbl).trans q0, (hb.cell (p := ⟨gc, x.fr, none⟩) hgcl).trans q1, (hb.cell (p := ⟨gr, x.to, none⟩) hgrl).trans q2⟩
    · have hv : S.take id = ((some x, 0), { S with ls := S.ls.eraseIdx i }) := by simp [Nst.take, hf, hgx, hpt]
      rw [hv]
      obtain ⟨own', h', hown'⟩ := h.tight
      have HH := hide h'
      have HO := hide hown'
      have HM := hide hok.many
      have HX := hide hFX
      clear h' hown' h h0 hok hFX q0 q1 q2 hv
      go_enter Try.func24, Try.ntmps24
      go_wp2_with fail
      rw [← hW]
      clear hW
      go_wp2_with (first | (go_at_call 46; refine hF.mono ?_; rintro e w1 ⟨rfl, hb1⟩; have d2' := (hb1.cell (p := ⟨br, 1, none⟩) hbl).trans d2; have c0' := (hb1.cell (p := ⟨g, i * 4, none⟩) hgl).trans c0; have c1' := (hb1.cell (p := ⟨g, i * 4 + 1, none⟩) hgl).trans c1; have c2' := (hb1.cell (p := ⟨g, i * 4 + 2, none⟩) hgl).trans c2; have c3' := (hb1.cell (p := ⟨g, i * 4 + 3, none⟩) hgl).trans c3; have hz1 := hb1.size) | fail)
      obtain ⟨W2, hW2⟩ : ∃ W2, W2 = w1.alloc (.cells #[.int .i64 x.id, .int .i64 x.fr, .int .i64 x.to, .string x.body] RLetT) := ⟨_, rfl⟩
      rw [← hW2]
      have hb2 : Below w1.heap.size w1 W2 := by rw [hW2]; exact below_alloc1 _ _
      have hA2 : W2.heap[w1.heap.size]? = some (.cells #[.int .i64 x.id, .int .i64 x.fr, .int .i64 x.to, .string x.body] RLetT (0, 0)) := by rw [hW2]; exact heap_alloc_new w1 _
      clear hW2 d2' c0' c1' c2' c3' c0 c1 c2 c3 d2
      have hbw2 : Below w.heap.size w W2 := hb0.trans ((hb1.trans (hb2.mono hz1)).mono hb0.size)
      have hR2 : W2.heap[w.heap.size]? = some (.cells #[.int .i64 0, .int .i64 0, .int .i64 0, .string ⟨#[]⟩] RLetT (0, 0)) := (hb2.block _ (by omega)).trans ((hb1.block _ hzW).trans hA0)
      have hl2 := (Array.getElem?_eq_some_iff.1 hA2).1
      have hz2 := hbw2.size
      obtain ⟨r0, r1, r2⟩ := HX.out W2 (hb1.trans (hb2.mono hz1))
      have k1 : W2.cell? ⟨w1.heap.size, 1, none⟩ = some (.int .i64 x.fr) := cell_of_block hA2 1
      have k2 : W2.cell? ⟨w1.heap.size, 2, none⟩ = some (.int .i64 x.to) := cell_of_block hA2 2
      go_quiet (fail)
      obtain ⟨w3, hw3⟩ : ∃ w3, w3 = W2.drewN nq := ⟨_, rfl⟩
      rw [← hw3]
      have hb3 : Below W2.heap.size W2 w3 := by rw [hw3]; exact below_draws _ _ _
      clear hw3 r0 r1 r2 k1 k2
      have hz3 := hb3.size
      have h3 : RNHeldL w3 (fun b => own' b ∨ w3.heap.size ≤ b) br S (.slice (some ⟨g, 0, none⟩) S.ls.length cap) (.slice (some ⟨gc, 0, none⟩) S.nodes capc) gs := ((HH.out.below hbw2).below hb3).owns fun b hb => Or.inl hb
      have hRem := rdrop_any w3 h3 (fun b hb => Or.inr hb) HM.out i h2
      clear h3
      go_wp2_with (first | (go_at_call 47; refine hRem.mono ?_; rintro e w4 ⟨rfl, hh4, ho4⟩; have hR4 := (ho4.block w.heap.size (by omega) (fun e => e.elim (fun e => absurd (HO.out _ e).2 (by omega)) (fun e => by omega))).trans ((hb3.block w.heap.size (by omega)).trans hR2); have hA4 := (ho4.block w1.heap.size (by omega) (fun e => e.elim (fun e => absurd (HO.out _ e).2 (by omega)) (fun e => by omega))).trans ((hb3.block w1.heap.size hl2).trans hA2); have e0 : w4.cell? ⟨w.heap.size, 0, none⟩ = some (.int .i64 0) := cell_of_block hR4 0; have e1 : w4.cell? ⟨w.heap.size, 1, none⟩ = some (.int .i64 0) := cell_of_block hR4 1; have e2 : w4.cell? ⟨w.heap.size, 2, none⟩ = some (.int .i64 0) := cell_of_block hR4 2; have e3 : w4.cell? ⟨w.heap.size, 3, none⟩ = some (.string ⟨#[]⟩) := cell_of_block hR4 3; have z0 := unfrozen_of_block hR4 0; have z1 := unfrozen_of_block hR4 1; have z2 := unfrozen_of_block hR4 2; have z3 := unfrozen_of_block hR4 3; have f0 : w4.cell? ⟨w1.heap.size, 0, none⟩ = some (.int .i64 x.id) := cell_of_block hA4 0; have f1 : w4.cell? ⟨w1.heap.size, 1, none⟩ = some (.int .i64 x.fr) := cell_of_block hA4 1; have f2 : w4.cell? ⟨w1.heap.size, 2, none⟩ = some (.int .i64 x.to) := cell_of_block hA4 2; have f3 : w4.cell? ⟨w1.heap.size, 3, none⟩ = some (.string x.body) := cell_of_block hA4 3))
      refine bodyPost_ret (v := .tuple #[lval x, .int .i64 0]) (by simp [results, Try.results24, go_sem, e0, e1, e2, e3]) rfl ?_
      have hso := ho4.size
      have hbx := (((((Below.refl w.heap.size w4).setCell (p := ⟨w.heap.size, 0, none⟩) (Nat.le_refl _) (.int .i64 x.id)).setCell (p := ⟨w.heap.size, 1, none⟩) (Nat.le_refl _) (.int .i64 x.fr)).setCell (p := ⟨w.heap.size, 2, none⟩) (Nat.le_refl _) (.int .i64 x.to)).setCell (p := ⟨w.heap.size, 3, none⟩) (Nat.le_refl _) (.string x.body))
      obtain ⟨v4, u4, gs4, h4⟩ := hh4
      have hset : ∀ b, b ≠ w.heap.size → ((((w4.setCell ⟨w.heap.size, 0, none⟩ (.int .i64 x.id)).setCell ⟨w.heap.size, 1, none⟩ (.int .i64 x.fr)).setCell ⟨w.heap.size, 2, none⟩ (.int .i64 x.to)).setCell ⟨w.heap.size, 3, none⟩ (.string x.body)).heap[b]? = w4.heap[b]? := fun b hb =>
        (Below.heap_setCell _ _ _ b hb).trans ((Below.heap_setCell _ _ _ b hb).trans ((Below.heap_setCell _ _ _ b hb).trans (Below.heap_setCell _ _ _ b hb)))
      have hnb : ∀ b, (own' b ∨ w3.heap.size ≤ b) → b ≠ w.heap.size := fun b hb e => hb.elim (fun h => absurd (HO.out b h).2 (by omega)) (fun h => by omega)
      have h5 := (h4.stay fun b _ _ _ _ hown => hset b (hnb b hown)).owns fun b hb => hb.elim (fun h => (HO.out b h).1) (fun h => hfr b (by omega))
      have hbw3 : Below w.heap.size w w3 := hbw2.trans (hb3.mono hz2)
      refine ⟨rfl, ⟨_, _, _, h5⟩, ⟨hbx.os.trans (ho4.os.trans hbw3.os), hbx.tape.trans (ho4.tape.trans hbw3.tape), hbx.output.trans (ho4.output.trans hbw3.output), Nat.le_trans (Nat.le_trans hbw3.size ho4.size) hbx.size, fun k hk hn => (hset k (by omega)).trans ((ho4.block k (by omega) (fun h => h.elim (fun h => hn (HO.out k h).1) (fun h => by omega))).trans (hbw3.block k hk))⟩⟩
    · have hv : S.take id = ((none, 4), S) := by simp [Nst.take, hf, hgx, hpt]
      rw [hv]
      have HH := hide h
      have HX := hide hFX
      clear h h0 hok hFX q0 q1 q2 hv
      go_enter Try.func24, Try.ntmps24
      go_wp2_with fail
      rw [← hW]
      clear hW
      go_wp2_with (first | (go_at_call 46; refine hF.mono ?_; rintro e w1 ⟨rfl, hb1⟩; have d2' := (hb1.cell (p := ⟨br, 1, none⟩) hbl).trans d2; have c0' := (hb1.cell (p := ⟨g, i * 4, none⟩) hgl).trans c0; have c1' := (hb1.cell (p := ⟨g, i * 4 + 1, none⟩) hgl).trans c1; have c2' := (hb1.cell (p := ⟨g, i * 4 + 2, none⟩) hgl).trans c2; have c3' := (hb1.cell (p := ⟨g, i * 4 + 3, none⟩) hgl).trans c3; have hz1 := hb1.size) | fail)
      obtain ⟨W2, hW2⟩ : ∃ W2, W2 = w1.alloc (.cells #[.int .i64 x.id, .int .i64 x.fr, .int .i64 x.to, .string x.body] RLetT) := ⟨_, rfl⟩
      rw [← hW2]
      have hb2 : Below w1.heap.size w1 W2 := by rw [hW2]; exact below_alloc1 _ _
      have hA2 : W2.heap[w1.heap.size]? = some (.cells #[.int .i64 x.id, .int .i64 x.fr, .int .i64 x.to, .string x.body] RLetT (0, 0)) := by rw [hW2]; exact heap_alloc_new w1 _
      clear hW2 d2' c0' c1' c2' c3' c0 c1 c2 c3 d2
      have hbw2 : Below w.heap.size w W2 := hb0.trans ((hb1.trans (hb2.mono hz1)).mono hb0.size)
      have hR2 : W2.heap[w.heap.size]? = some (.cells #[.int .i64 0, .int .i64 0, .int .i64 0, .string ⟨#[]⟩] RLetT (0, 0)) := (hb2.block _ (by omega)).trans ((hb1.block _ hzW).trans hA0)
      obtain ⟨r0, r1, r2⟩ := HX.out W2 (hb1.trans (hb2.mono hz1))
      have k1 : W2.cell? ⟨w1.heap.size, 1, none⟩ = some (.int .i64 x.fr) := cell_of_block hA2 1
      have k2 : W2.cell? ⟨w1.heap.size, 2, none⟩ = some (.int .i64 x.to) := cell_of_block hA2 2
      go_quiet (fail)
      obtain ⟨w3, hw3⟩ : ∃ w3, w3 = W2.drewN nq := ⟨_, rfl⟩
      rw [← hw3]
      have hb3 : Below W2.heap.size W2 w3 := by rw [hw3]; exact below_draws _ _ _
      clear hw3 r0 r1 r2 k1 k2
      have hl2 := (Array.getElem?_eq_some_iff.1 hR2).1
      have hR3 := (hb3.block w.heap.size hl2).trans hR2
      have e0 : w3.cell? ⟨w.heap.size, 0, none⟩ = some (.int .i64 0) := cell_of_block hR3 0
      have e1 : w3.cell? ⟨w.heap.size, 1, none⟩ = some (.int .i64 0) := cell_of_block hR3 1
      have e2 : w3.cell? ⟨w.heap.size, 2, none⟩ = some (.int .i64 0) := cell_of_block hR3 2
      have e3 : w3.cell? ⟨w.heap.size, 3, none⟩ = some (.string ⟨#[]⟩) := cell_of_block hR3 3
      have z0 := unfrozen_of_block hR3 0
      have z1 := unfrozen_of_block hR3 1
      have z2 := unfrozen_of_block hR3 2
      have z3 := unfrozen_of_block hR3 3
      go_wp2
      refine bodyPost_ret (v := .tuple #[noL, .int .i64 4]) (by simp [results, Try.results24, go_sem, e0, e1, e2, e3]) rfl ?_
      have hbx := (((((hbw2.trans (hb3.mono hbw2.size)).setCell (p := ⟨w.heap.size, 0, none⟩) (Nat.le_refl _) (.int .i64 0)).setCell (p := ⟨w.heap.size, 1, none⟩) (Nat.le_refl _) (.int .i64 0)).setCell (p := ⟨w.heap.size, 2, none⟩) (Nat.le_refl _) (.int .i64 0)).setCell (p := ⟨w.heap.size, 3, none⟩) (Nat.le_refl _) (.string ⟨#[]⟩))
      exact ⟨rfl, ⟨_, _, gs, HH.out.below hbx⟩, Only.of_below hbx⟩

end Go.Proofs.Ytmdpkkipjdpopaa.Nk
