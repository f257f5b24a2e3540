/- Layer 15, plain: a ballot beside a log alone. -/
import Derived.Test.YtnmgiiiafefgdaaGreatBaLsP
namespace Go.Proofs.YtnmgiiiafefgdaaGreat.Rl
open Go.RowKit Go.Joins Gk
/-! an append of an entry, behind which the row without it lies there still -/
theorem ER.push_keep {w : World} {v : Value} {l : List En} (h : ER w v l) (e : En) (b : Nat) (hb : w.heap[b]? = some (.cells (eenc e).toArray EnT (0, 0))) (hl : l.length ≤ 1048576) (ty : TypeId) :
    ∃ ad cap w', (Builtin.append_ #[EnsT, EnsT] ty #[v, .slice (some ⟨b, 0, none⟩) 1 1]).run Tryz.prog w = .ok (.slice ad (l.length + 1) cap) w' ∧ ER w' (.slice ad (l.length + 1) cap) (l ++ [e]) ∧ w.grownBy w' (blk v) ∧
      (∀ g, blk (.slice ad (l.length + 1) cap) = some g → blk v = some g ∨ w.heap.size ≤ g) ∧ ER w' v l := by
  have h0 := h
  obtain ⟨i0, hi, hz0, hz1, hz2⟩ := info_parts en_info
  have hnews : ∀ j u, (eenc e)[j]? = some u → w.cell? ((⟨b, 0, none⟩ : Addr).add j) = some u := World.news_of_block hb
  have hle : (eenc e).length = 1 * 2 := rfl
  rcases h with ⟨rfl, rfl⟩ | ⟨g, o, cap, cur, rfl, hg, h1, h2, h3, h4⟩
  · obtain ⟨v', w', hr, h2, h3, _, h5⟩ := run_append_own_at (P := Tryz.prog) w 0 EnsT ty EnT i0 noE 2 24 Tryz.underlying39 hi hz0 hz1 hz2 rfl (by decide) (.slice none 0 0) 0 [] (World.ownsRow_nil w 0 EnT 2) ⟨b, 0, none⟩ 1 1 (eenc e) hle hnews (eenc_one e) (by unfold maxLen; omega) (by omega) (Nat.zero_le _)
    obtain ⟨av, cv, rfl⟩ := own_slice h2
    refine ⟨av, cv, w', hr, ER.of_own (by simpa [rc_one] using h2), h3, fun g hg => ?_, ER.nil w'⟩
    have hg : blk (.slice av (0 + 1) cv) = some g := hg
    rw [blk_own h2] at hg
    rcases h5 with h5 | h5
    · rw [h5] at hg; cases hg
    · rw [h5] at hg; cases hg; exact Or.inr (Nat.le_refl _)
  · by_cases hroom : l.length + 1 ≤ cap
    · have hr := run_append_room_cells (P := Tryz.prog) w EnsT ty EnT i0 Tryz.underlying39 hi g o l.length cap ⟨b, 0, none⟩ 1 1 (eenc e) (by rw [hz1]; rfl) hnews (eenc_one e) hroom
        (fun j hj => by rw [hle] at hj; rw [hz1, cell_of_block hg, Array.getElem?_eq_getElem (by omega)]; rfl) (fun j hj => by rw [unfrozen_of_block hg])
      refine ⟨_, _, _, hr, ?_, grown_setCells g _ _ w, fun k hk => Or.inl hk, h0.over _ _ (Or.inr (by rw [hz1]; exact Nat.le_refl _))⟩
      refine Or.inr ⟨g, o, cap, _, by simp, block_setCells _ _ _ _ hg, by simp; omega, h2, by rw [setL_size]; exact h3, fun j u hj => ?_⟩
      rw [rc_append, rc_one, List.getElem?_append, rc_length eenc_len] at hj
      rw [setL_at, hz1, hle]
      split at hj
      · rename_i hjl
        rw [if_neg (by omega)]; exact h4 j u hj
      · rename_i hjl
        have : j - l.length * 2 < 2 := (List.getElem?_eq_some_iff.1 hj).1
        rw [if_pos (by omega), show o + j - (o + l.length * 2) = j - l.length * 2 by omega]; exact hj
    · obtain ⟨v', w', hr, h5, h6⟩ := run_append_arg_grows (P := Tryz.prog) w EnsT ty EnT i0 noE 2 24 Tryz.underlying39 hi hz0 hz1 hz2 rfl (by decide) ⟨g, o, none⟩ l.length cap (rc eenc l) (rc_length eenc_len l)
        (fun j u hj => by rw [Go.WideShapes.add_plain, cell_of_block hg]; exact h4 j u hj) ⟨b, 0, none⟩ 1 1 (eenc e) hle hnews (by omega) (by unfold maxLen; omega) (by omega)
      obtain ⟨av, cv, rfl⟩ := own_slice h5
      refine ⟨av, cv, w', hr, ER.of_own (by rw [rc_append, rc_one]; exact h5), ⟨h6.os, h6.tape, h6.output, h6.size, fun k hk _ => h6.block k hk (by simp)⟩, fun k hk => ?_, h0.stay fun g' hg' => h6.block g' (h0.lt hg') (by simp)⟩
      rw [blk_own h5] at hk
      exact Or.inr (h5.lt k hk).1
theorem step_er_keep {w : World} {ops : Array Oper} {op : Oper} {a : Act} {K : Act → World → Prop} {Q : Exit → Act → World → Prop} {E : Prop} (hgd : op.guard = none) (s x : Operand)
    (ho : op.op = .call { callee := .builtin .append, args := #[s, x], argTypes := #[EnsT, EnsT] }) (v : Value) (l : List En) (hs : a.eval s = v) (her : ER w v l) (b : Nat) (e : En) (hx : a.eval x = .slice (some ⟨b, 0, none⟩) 1 1)
    (hb : w.heap[b]? = some (.cells (eenc e).toArray EnT (0, 0))) (hl : l.length ≤ 1048576)
    (h : ∀ ad cap w', ER w' (.slice ad (l.length + 1) cap) (l ++ [e]) → w.grownBy w' (blk v) → (∀ g, blk (.slice ad (l.length + 1) cap) = some g → blk v = some g ∨ w.heap.size ≤ g) → ER w' v l → K (a.put op.dst (.slice ad (l.length + 1) cap)) w') :
    if Region.wanted op (yielded ops a.tmps) = true then Oper.wp Tryz.prog op a w K Q else E := by
  have hw : Region.wanted op (yielded ops a.tmps) = true := by simp [Region.wanted, hgd]
  rw [if_pos hw]
  obtain ⟨ad, cap, w', hr, h1, h2, h3, h4⟩ := her.push_keep e b hb hl op.type
  unfold Oper.wp execOp
  simp only [ho, resolve, invoke, builtin, Sem.run_bind, Sem.run_pure, Result.andThen_ok, List.map_toArray, List.map_cons, List.map_nil, hs, hx, hr]
  exact h ad cap w' h1 h2 h3 h4
end Go.Proofs.YtnmgiiiafefgdaaGreat.Rl

namespace Go.Proofs.YtnmgiiiafefgdaaGreat.Ba
open Go.RowKit Go.Joins Go.Proofs.YtnmgiiiafefgdaaGreat.Gk
open Go.Proofs.YtnmgiiiafefgdaaGreat.Dk (St Bs)
open Go.Proofs.YtnmgiiiafefgdaaGreat.Rl (En Lo LH ER ptr blk eenc EnT EnsT mcode nmb Tn)

theorem wrt_up {S : St} (hS : S.Ok) (hu : Up S) (p : Bs) : (wrt S p).1 = 0 ∨ (wrt S p).1 = 22 := by
  rcases wrt_cases hS p with h | h | h
  · exact Or.inl h.1
  · exact Or.inr h.1
  · exact absurd hu h.2.1
theorem trn_up {S : St} {s : Bl} (hS : S.Ok) (hu : Up S) (h0 : 0 ≤ s.t) (h1 : s.t + 1 ≤ 1073741824) : ((trn S s (s.t + 1)).1 = 0 ∨ (trn S s (s.t + 1)).1 = 22) ∧ (trn S s (s.t + 1)).2.2.es = s.es ∧ (trn S s (s.t + 1)).2.2.t ≤ s.t + 1 := by
  unfold trn
  rw [if_neg (by omega), if_neg (by omega)]
  refine ⟨wrt_up hS hu _, ?_⟩
  unfold stn pick0
  dsimp only
  split
  · exact ⟨rfl, Int.le_refl _⟩
  · exact ⟨rfl, by omega⟩
theorem mgd_up {S : St} {s : Bl} (hS : S.Ok) (hu : Up S) (p : Nat) (fs : List En) : (mcode (s.lo.tm p) (nmb (p + 1) fs) ≠ 0 ∧ mgd S s p fs = (0, mcode (s.lo.tm p) (nmb (p + 1) fs), S, s)) ∨
    (mcode (s.lo.tm p) (nmb (p + 1) fs) = 0 ∧ (((mgd S s p fs).1 = ((p + fs.length : Nat) : Int) ∧ (mgd S s p fs).2.1 = 0 ∧ (mgd S s p fs).2.2.2 = ⟨s.t, s.v, (s.lo.mrg p fs).1.es⟩) ∨ ((mgd S s p fs).1 = 0 ∧ (mgd S s p fs).2.1 = 22))) := by
  unfold mgd
  by_cases hc : mcode (s.lo.tm p) (nmb (p + 1) fs) = 0
  · refine Or.inr ⟨hc, ?_⟩
    rw [hc, if_neg (by simp)]
    split
    · exact Or.inl ⟨rfl, rfl, rfl⟩
    · rename_i hn
      refine Or.inr ⟨rfl, ?_⟩
      unfold cnf at hn ⊢
      split at hn
      · exact absurd rfl hn
      · rename_i hne
        rcases wrt_up hS hu (frs (cnl (s.es.length - (s.lo.mrg p fs).2) (s.lo.mrg p fs).2 (s.lo.mrg p fs).1.es)) with h | h
        · exact absurd h hn
        · rw [if_neg hne, h]; rfl
  · exact Or.inl ⟨hc, by rw [if_pos hc]⟩
theorem mrg_lo (es : List En) (p : Nat) (fs : List En) : ((⟨0, 0, es⟩ : Lo).mrg p fs).1 = ⟨0, 0, ((⟨0, 0, es⟩ : Lo).mrg p fs).1.es⟩ := by
  unfold Lo.mrg Rl.mI
  split <;> rfl
theorem may1_of {es : List En} {e : En} (h : mcode ((⟨0, 0, es⟩ : Lo).tm es.length) (nmb (es.length + 1) [e]) = 0) : Rl.May1 ⟨0, 0, es⟩ e := by
  obtain ⟨h1, h2, h3⟩ := Rl.mcode_ok h
  have h4 := Rl.mfs_lg _ _ h3 (es.length + 1, e) (by simp [nmb])
  have hb : ¬ Rl.bad e := fun hb => h1 ⟨(es.length + 1, e), by simp [nmb], hb⟩
  have hst : ¬ e.t < (⟨0, 0, es⟩ : Lo).tm es.length := by
    simpa [Rl.mfs, nmb, Rl.Mf.step] using h2
  have hl : (⟨0, 0, es⟩ : Lo).last = es.length := by show 0 + es.length = _; omega
  refine ⟨?_, ?_, by rw [hl]; omega, h4.1, by rw [hl]; exact h4.2⟩
  · exact Int.not_lt.1 fun h => hb (by unfold Rl.bad; omega)
  · exact Int.not_lt.1 fun h => hb (by unfold Rl.bad; omega)
/-- a log alone -/
structure AL (w W : World) (ba : Nat) (es : List En) (va : Value) (X : Nat → Prop) : Prop where
  al : LH W ba ⟨0, 0, es⟩ va
  ap : ∀ k, Rl.own W ba k → ¬ X k
  an : ∀ k, Rl.own W ba k → w.heap.size ≤ k
section
variable {w W W' : World} {ba : Nat} {es es' : List En} {va v' : Value} {X X' : Nat → Prop}
theorem AL.tu (h : AL w W ba es va X) (ht : Tu X X' W W') : AL w W' ba es va X' := by
  have hs : ∀ k, Rl.own W ba k → W'.heap[k]? = W.heap[k]? := fun k hk => (ht.stay (h.al.ownlt hk) (h.ap k hk)).1
  have e := Rl.own_same (bl := ba) (hs ba (Or.inl rfl))
  exact ⟨h.al.stay hs, fun k hk => by rw [e] at hk; exact (ht.stay (h.al.ownlt hk) (h.ap k hk)).2, fun k hk => by rw [e] at hk; exact h.an k hk⟩
theorem AL.below (h : AL w W ba es va X) (hb : Below W.heap.size W W') : AL w W' ba es va X := h.tu (Tu.of_below hb)
/-- it has turned -/
theorem AL.turn (h : AL w W ba es va X) {bb bd : Nat} {n : Int} {S : St} {s : Bl} (hB : BB W bb bd n S s X) (hN : Nw w W X) (hl : LH W' ba ⟨0, 0, es'⟩ v') (ht : Tn ba W W') : AL w W' ba es' v' X ∧ BB W' bb bd n S s X ∧ Nw w W' X := by
  have hnew : ∀ k, Rl.own W' ba k → Rl.own W ba k ∨ W.heap.size ≤ k := fun k hk => by
    rcases hk with rfl | e
    · exact Or.inl (Or.inl rfl)
    · rcases ht.new k e with e | e
      · exact Or.inl (Or.inr e)
      · exact Or.inr e
  refine ⟨⟨hl, fun k hk hX => ?_, fun k hk => ?_⟩, hB.frame ht.only.size fun k hk => ht.only.block k (hB.lt hk) fun e => h.ap k e hk, ⟨hN.bel.trans (Gk.Only.below ht.only hN.bel.size h.an), hN.new⟩⟩
  · rcases hnew k hk with e | e
    · exact h.ap k e hX
    · have := hB.lt hX; omega
  · rcases hnew k hk with e | e
    · exact h.an k e
    · exact Nat.le_trans hN.bel.size e
end
/-- all of it -/
structure LG (w W : World) (bb bd ba : Nat) (S : St) (s : Bl) (rs : List Rc) (va : Value) (X : Nat → Prop) : Prop where
  lw : Lw W bb bd S s rs X
  up : Up S
  al : AL w W ba s.es va X
  nw : Nw w W X
theorem LG.below {w W W' : World} {bb bd ba : Nat} {S : St} {s : Bl} {rs : List Rc} {va : Value} {X : Nat → Prop} (h : LG w W bb bd ba S s rs va X) (hb : Below W.heap.size W W') : LG w W' bb bd ba S s rs va X := ⟨h.lw.below hb, h.up, h.al.below hb, h.nw.below hb⟩
/-- while entries are laid: two cells, and a row -/
abbrev MS (w0 : World) (bx b o : Nat) (v4 d vl : Value) (F : List En) (W : World) : Prop :=
  (W.cell? ⟨bx, 4, none⟩ = some v4 ∧ W.cell? ⟨b, o, none⟩ = some d) ∧ Hid (bx < w0.heap.size ∧ b < w0.heap.size ∧ Below w0.heap.size w0 W ∧ ER W vl F ∧ ∀ g, blk vl = some g → w0.heap.size ≤ g)
section
variable {w0 a c : World} {bx b o : Nat} {v4 d vl : Value} {F : List En}
theorem MS.bel (h : MS w0 bx b o v4 d vl F a) : Below w0.heap.size w0 a := h.2.out.2.2.1
theorem MS.er (h : MS w0 bx b o v4 d vl F a) : ER a vl F := h.2.out.2.2.2.1
theorem MS.call (hb : Below a.heap.size a c) (h : MS w0 bx b o v4 d vl F a) : MS w0 bx b o v4 d vl F c := by
  obtain ⟨⟨c0, c1⟩, h2⟩ := h
  obtain ⟨h1, h2, h3, h4, h5⟩ := h2.out
  have hz := h3.size
  exact ⟨⟨(hb.cell (p := ⟨bx, 4, none⟩) (by show bx < _; omega)).trans c0, (hb.cell (p := ⟨b, o, none⟩) (by show b < _; omega)).trans c1⟩, hide ⟨h1, h2, h3.trans (hb.mono h3.size), h4.below hb, h5⟩⟩
theorem MS.drew (h : MS w0 bx b o v4 d vl F a) : MS w0 bx b o v4 d vl F a.drew := h.call ((Below.refl _ _).drew)
theorem MS.alloc (h : MS w0 bx b o v4 d vl F a) (x : Obj) : MS w0 bx b o v4 d vl F (a.alloc x) := h.call ((Below.refl _ _).alloc (Nat.le_refl _) x)
theorem MS.app (hg : a.grownBy c (blk vl)) (he : ER c vl F) (h : MS w0 bx b o v4 d vl F a) : MS w0 bx b o v4 d vl F c := by
  obtain ⟨⟨c0, c1⟩, h2⟩ := h
  obtain ⟨h1, h2, h3, h4, h5⟩ := h2.out
  have hz := h3.size
  have hk : ∀ k, k < w0.heap.size → c.heap[k]? = a.heap[k]? := fun k hk => hg.block k (by omega) fun e => by have := h5 k e.symm; omega
  exact ⟨⟨(World.cell?_of_block (a := ⟨bx, 4, none⟩) (hk bx h1)).trans c0, (World.cell?_of_block (a := ⟨b, o, none⟩) (hk b h2)).trans c1⟩, hide ⟨h1, h2, h3.grown hg h3.size h5, he, h5⟩⟩
theorem MS.fresh {v' : Value} (h : MS w0 bx b o v4 d vl F a) (hat : ∀ g, blk v' = some g → blk vl = some g ∨ a.heap.size ≤ g) : ∀ g, blk v' = some g → w0.heap.size ≤ g := fun g hg => by
  obtain ⟨h1, h2, h3, h4, h5⟩ := h.2.out
  rcases hat g hg with e | e
  · exact h5 g e
  · exact Nat.le_trans h3.size e
end
end Go.Proofs.YtnmgiiiafefgdaaGreat.Ba
