/- Layer 15, plain: a ballot beside a log alone. Layer 15: BallotLog: the log of a ballot is what a log alone comes to. -/
import Derived.Test.YtnmgiiiafefgdaaGreatBaLsP
import Derived.Deep.CutRange
import Derived.Deep.CutBlock
namespace Go.Proofs.YtnmgiiiafefgdaaGreat.Rl
open Go.RowKit Go.Joins Gk
/-! an append of an entry, behind which the row without it lies there still -/
theorem ER.push_keep {w : World} {v : Value} {l : List En} (h : ER w v l) (e : En) (b : Nat) (hb : w.heap[b]? = some (.cells (eenc e).toArray EnT (0, 0))) (hl : l.length ≤ 1048576) (ty : TypeId) :
    ∃ ad cap w', (Builtin.append_ #[EnsT, EnsT] ty #[v, .slice (some ⟨b, 0, none⟩) 1 1]).run Tryz.prog w = .ok (.slice ad (l.length + 1) cap) w' ∧ ER w' (.slice ad (l.length + 1) cap) (l ++ [e]) ∧ w.grownBy w' (blk v) ∧
      (∀ g, blk (.slice ad (l.length + 1) cap) = some g → blk v = some g ∨ w.heap.size ≤ g) ∧ ER w' v l := by
  have h0 := h
  obtain ⟨i0, hi, hz0, hz1, hz2⟩ := info_parts en_info
  have hnews : ∀ j u, (eenc e)[j]? = some u → w.cell? ((⟨b, 0, none⟩ : Addr).add j) = some u := World.news_of_block hb
  have hle : (eenc e).length = 1 * 2 := rfl
  rcases h with ⟨rfl, rfl⟩ | ⟨g, o, cap, cur, rfl, hg, h1, h2, h3, h4⟩
  · obtain ⟨v', w', hr, h2, h3, _, h5⟩ := run_append_own_at (P := Tryz.prog) w 0 EnsT ty EnT i0 noE 2 24 Tryz.underlying39 hi hz0 hz1 hz2 rfl (by decide) (.slice none 0 0) 0 [] (World.ownsRow_nil w 0 EnT 2) ⟨b, 0, none⟩ 1 1 (eenc e) hle hnews (eenc_one e) (by unfold maxLen; omega) (by omega) (Nat.zero_le _)
    obtain ⟨av, cv, rfl⟩ := own_slice h2
    refine ⟨av, cv, w', hr, ER.of_own (by simpa [rc_one] using h2), h3, fun g hg => ?_, ER.nil w'⟩
    have hg : blk (.slice av (0 + 1) cv) = some g := hg
    rw [blk_own h2] at hg
    rcases h5 with h5 | h5
    · rw [h5] at hg; cases hg
    · rw [h5] at hg; cases hg; exact Or.inr (Nat.le_refl _)
  · by_cases hroom : l.length + 1 ≤ cap
    · have hr := run_append_room_cells (P := Tryz.prog) w EnsT ty EnT i0 Tryz.underlying39 hi g o l.length cap ⟨b, 0, none⟩ 1 1 (eenc e) (by rw [hz1]; rfl) hnews (eenc_one e) hroom
        (fun j hj => by rw [hle] at hj; rw [hz1, cell_of_block hg, Array.getElem?_eq_getElem (by omega)]; rfl) (fun j hj => by rw [unfrozen_of_block hg])
      refine ⟨_, _, _, hr, ?_, grown_setCells g _ _ w, fun k hk => Or.inl hk, h0.over _ _ (Or.inr (by rw [hz1]; exact Nat.le_refl _))⟩
      refine Or.inr ⟨g, o, cap, _, by simp, block_setCells _ _ _ _ hg, by simp; omega, h2, by rw [setL_size]; exact h3, fun j u hj => ?_⟩
      rw [rc_append, rc_one, List.getElem?_append, rc_length eenc_len] at hj
      rw [setL_at, hz1, hle]
      split at hj
      · rename_i hjl
        rw [if_neg (by omega)]; exact h4 j u hj
      · rename_i hjl
        have : j - l.length * 2 < 2 := (List.getElem?_eq_some_iff.1 hj).1
        rw [if_pos (by omega), show o + j - (o + l.length * 2) = j - l.length * 2 by omega]; exact hj
    · obtain ⟨v', w', hr, h5, h6⟩ := run_append_arg_grows (P := Tryz.prog) w EnsT ty EnT i0 noE 2 24 Tryz.underlying39 hi hz0 hz1 hz2 rfl (by decide) ⟨g, o, none⟩ l.length cap (rc eenc l) (rc_length eenc_len l)
        (fun j u hj => by rw [Go.WideShapes.add_plain, cell_of_block hg]; exact h4 j u hj) ⟨b, 0, none⟩ 1 1 (eenc e) hle hnews (by omega) (by unfold maxLen; omega) (by omega)
      obtain ⟨av, cv, rfl⟩ := own_slice h5
      refine ⟨av, cv, w', hr, ER.of_own (by rw [rc_append, rc_one]; exact h5), ⟨h6.os, h6.tape, h6.output, h6.size, fun k hk _ => h6.block k hk (by simp)⟩, fun k hk => ?_, h0.stay fun g' hg' => h6.block g' (h0.lt hg') (by simp)⟩
      rw [blk_own h5] at hk
      exact Or.inr (h5.lt k hk).1
theorem step_er_keep {w : World} {ops : Array Oper} {op : Oper} {a : Act} {K : Act → World → Prop} {Q : Exit → Act → World → Prop} {E : Prop} (hgd : op.guard = none) (s x : Operand)
    (ho : op.op = .call { callee := .builtin .append, args := #[s, x], argTypes := #[EnsT, EnsT] }) (v : Value) (l : List En) (hs : a.eval s = v) (her : ER w v l) (b : Nat) (e : En) (hx : a.eval x = .slice (some ⟨b, 0, none⟩) 1 1)
    (hb : w.heap[b]? = some (.cells (eenc e).toArray EnT (0, 0))) (hl : l.length ≤ 1048576)
    (h : ∀ ad cap w', ER w' (.slice ad (l.length + 1) cap) (l ++ [e]) → w.grownBy w' (blk v) → (∀ g, blk (.slice ad (l.length + 1) cap) = some g → blk v = some g ∨ w.heap.size ≤ g) → ER w' v l → K (a.put op.dst (.slice ad (l.length + 1) cap)) w') :
    if Region.wanted op (yielded ops a.tmps) = true then Oper.wp Tryz.prog op a w K Q else E := by
  have hw : Region.wanted op (yielded ops a.tmps) = true := by simp [Region.wanted, hgd]
  rw [if_pos hw]
  obtain ⟨ad, cap, w', hr, h1, h2, h3, h4⟩ := her.push_keep e b hb hl op.type
  unfold Oper.wp execOp
  simp only [ho, resolve, invoke, builtin, Sem.run_bind, Sem.run_pure, Result.andThen_ok, List.map_toArray, List.map_cons, List.map_nil, hs, hx, hr]
  exact h ad cap w' h1 h2 h3 h4
end Go.Proofs.YtnmgiiiafefgdaaGreat.Rl

namespace Go.Proofs.YtnmgiiiafefgdaaGreat.Ba
open Go.RowKit Go.Joins Go.Proofs.YtnmgiiiafefgdaaGreat.Gk
open Go.Proofs.YtnmgiiiafefgdaaGreat.Dk (St Bs)
open Go.Proofs.YtnmgiiiafefgdaaGreat.Rl (En Lo LH ER ptr blk eenc EnT EnsT mcode nmb Tn)

theorem wrt_up {S : St} (hS : S.Ok) (hu : Up S) (p : Bs) : (wrt S p).1 = 0 ∨ (wrt S p).1 = 22 := by
  rcases wrt_cases hS p with h | h | h
  · exact Or.inl h.1
  · exact Or.inr h.1
  · exact absurd hu h.2.1
theorem trn_up {S : St} {s : Bl} (hS : S.Ok) (hu : Up S) (h0 : 0 ≤ s.t) (h1 : s.t + 1 ≤ 1073741824) : ((trn S s (s.t + 1)).1 = 0 ∨ (trn S s (s.t + 1)).1 = 22) ∧ (trn S s (s.t + 1)).2.2.es = s.es ∧ (trn S s (s.t + 1)).2.2.t ≤ s.t + 1 := by
  unfold trn
  rw [if_neg (by omega), if_neg (by omega)]
  refine ⟨wrt_up hS hu _, ?_⟩
  unfold stn pick0
  dsimp only
  split
  · exact ⟨rfl, Int.le_refl _⟩
  · exact ⟨rfl, by omega⟩
theorem mgd_up {S : St} {s : Bl} (hS : S.Ok) (hu : Up S) (p : Nat) (fs : List En) : (mcode (s.lo.tm p) (nmb (p + 1) fs) ≠ 0 ∧ mgd S s p fs = (0, mcode (s.lo.tm p) (nmb (p + 1) fs), S, s)) ∨
    (mcode (s.lo.tm p) (nmb (p + 1) fs) = 0 ∧ (((mgd S s p fs).1 = ((p + fs.length : Nat) : Int) ∧ (mgd S s p fs).2.1 = 0 ∧ (mgd S s p fs).2.2.2 = ⟨s.t, s.v, (s.lo.mrg p fs).1.es⟩) ∨ ((mgd S s p fs).1 = 0 ∧ (mgd S s p fs).2.1 = 22))) := by
  unfold mgd
  by_cases hc : mcode (s.lo.tm p) (nmb (p + 1) fs) = 0
  · refine Or.inr ⟨hc, ?_⟩
    rw [hc, if_neg (by simp)]
    split
    · exact Or.inl ⟨rfl, rfl, rfl⟩
    · rename_i hn
      refine Or.inr ⟨rfl, ?_⟩
      unfold cnf at hn ⊢
      split at hn
      · exact absurd rfl hn
      · rename_i hne
        rcases wrt_up hS hu (frs (cnl (s.es.length - (s.lo.mrg p fs).2) (s.lo.mrg p fs).2 (s.lo.mrg p fs).1.es)) with h | h
        · exact absurd h hn
        · rw [if_neg hne, h]; rfl
  · exact Or.inl ⟨hc, by rw [if_pos hc]⟩
theorem mrg_lo (es : List En) (p : Nat) (fs : List En) : ((⟨0, 0, es⟩ : Lo).mrg p fs).1 = ⟨0, 0, ((⟨0, 0, es⟩ : Lo).mrg p fs).1.es⟩ := by
  unfold Lo.mrg Rl.mI
  split <;> rfl
theorem may1_of {es : List En} {e : En} (h : mcode ((⟨0, 0, es⟩ : Lo).tm es.length) (nmb (es.length + 1) [e]) = 0) : Rl.May1 ⟨0, 0, es⟩ e := by
  obtain ⟨h1, h2, h3⟩ := Rl.mcode_ok h
  have h4 := Rl.mfs_lg _ _ h3 (es.length + 1, e) (by simp [nmb])
  have hb : ¬ Rl.bad e := fun hb => h1 ⟨(es.length + 1, e), by simp [nmb], hb⟩
  have hst : ¬ e.t < (⟨0, 0, es⟩ : Lo).tm es.length := by
    simpa [Rl.mfs, nmb, Rl.Mf.step] using h2
  have hl : (⟨0, 0, es⟩ : Lo).last = es.length := by show 0 + es.length = _; omega
  refine ⟨?_, ?_, by rw [hl]; omega, h4.1, by rw [hl]; exact h4.2⟩
  · exact Int.not_lt.1 fun h => hb (by unfold Rl.bad; omega)
  · exact Int.not_lt.1 fun h => hb (by unfold Rl.bad; omega)
/-- a log alone -/
structure AL (w W : World) (ba : Nat) (es : List En) (va : Value) (X : Nat → Prop) : Prop where
  al : LH W ba ⟨0, 0, es⟩ va
  ap : ∀ k, Rl.own W ba k → ¬ X k
  an : ∀ k, Rl.own W ba k → w.heap.size ≤ k
section
variable {w W W' : World} {ba : Nat} {es es' : List En} {va v' : Value} {X X' : Nat → Prop}
theorem AL.tu (h : AL w W ba es va X) (ht : Tu X X' W W') : AL w W' ba es va X' := by
  have hs : ∀ k, Rl.own W ba k → W'.heap[k]? = W.heap[k]? := fun k hk => (ht.stay (h.al.ownlt hk) (h.ap k hk)).1
  have e := Rl.own_same (bl := ba) (hs ba (Or.inl rfl))
  exact ⟨h.al.stay hs, fun k hk => by rw [e] at hk; exact (ht.stay (h.al.ownlt hk) (h.ap k hk)).2, fun k hk => by rw [e] at hk; exact h.an k hk⟩
theorem AL.below (h : AL w W ba es va X) (hb : Below W.heap.size W W') : AL w W' ba es va X := h.tu (Tu.of_below hb)
/-- it has turned -/
theorem AL.turn (h : AL w W ba es va X) {bb bd : Nat} {n : Int} {S : St} {s : Bl} (hB : BB W bb bd n S s X) (hN : Nw w W X) (hl : LH W' ba ⟨0, 0, es'⟩ v') (ht : Tn ba W W') : AL w W' ba es' v' X ∧ BB W' bb bd n S s X ∧ Nw w W' X := by
  have hnew : ∀ k, Rl.own W' ba k → Rl.own W ba k ∨ W.heap.size ≤ k := fun k hk => by
    rcases hk with rfl | e
    · exact Or.inl (Or.inl rfl)
    · rcases ht.new k e with e | e
      · exact Or.inl (Or.inr e)
      · exact Or.inr e
  refine ⟨⟨hl, fun k hk hX => ?_, fun k hk => ?_⟩, hB.frame ht.only.size fun k hk => ht.only.block k (hB.lt hk) fun e => h.ap k e hk, ⟨hN.bel.trans (Gk.Only.below ht.only hN.bel.size h.an), hN.new⟩⟩
  · rcases hnew k hk with e | e
    · exact h.ap k e hX
    · have := hB.lt hX; omega
  · rcases hnew k hk with e | e
    · exact h.an k e
    · exact Nat.le_trans hN.bel.size e
end
/-- all of it -/
structure LG (w W : World) (bb bd ba : Nat) (S : St) (s : Bl) (rs : List Rc) (va : Value) (X : Nat → Prop) : Prop where
  lw : Lw W bb bd S s rs X
  up : Up S
  al : AL w W ba s.es va X
  nw : Nw w W X
theorem LG.below {w W W' : World} {bb bd ba : Nat} {S : St} {s : Bl} {rs : List Rc} {va : Value} {X : Nat → Prop} (h : LG w W bb bd ba S s rs va X) (hb : Below W.heap.size W W') : LG w W' bb bd ba S s rs va X := ⟨h.lw.below hb, h.up, h.al.below hb, h.nw.below hb⟩
/-- while entries are laid: two cells, and a row -/
abbrev MS (w0 : World) (bx b o : Nat) (v4 d vl : Value) (F : List En) (W : World) : Prop :=
  (W.cell? ⟨bx, 4, none⟩ = some v4 ∧ W.cell? ⟨b, o, none⟩ = some d) ∧ Hid (bx < w0.heap.size ∧ b < w0.heap.size ∧ Below w0.heap.size w0 W ∧ ER W vl F ∧ ∀ g, blk vl = some g → w0.heap.size ≤ g)
section
variable {w0 a c : World} {bx b o : Nat} {v4 d vl : Value} {F : List En}
theorem MS.bel (h : MS w0 bx b o v4 d vl F a) : Below w0.heap.size w0 a := h.2.out.2.2.1
theorem MS.er (h : MS w0 bx b o v4 d vl F a) : ER a vl F := h.2.out.2.2.2.1
theorem MS.call (hb : Below a.heap.size a c) (h : MS w0 bx b o v4 d vl F a) : MS w0 bx b o v4 d vl F c := by
  obtain ⟨⟨c0, c1⟩, h2⟩ := h
  obtain ⟨h1, h2, h3, h4, h5⟩ := h2.out
  have hz := h3.size
  exact ⟨⟨(hb.cell (p := ⟨bx, 4, none⟩) (by show bx < _; omega)).trans c0, (hb.cell (p := ⟨b, o, none⟩) (by show b < _; omega)).trans c1⟩, hide ⟨h1, h2, h3.trans (hb.mono h3.size), h4.below hb, h5⟩⟩
theorem MS.drew (h : MS w0 bx b o v4 d vl F a) : MS w0 bx b o v4 d vl F a.drew := h.call ((Below.refl _ _).drew)
theorem MS.alloc (h : MS w0 bx b o v4 d vl F a) (x : Obj) : MS w0 bx b o v4 d vl F (a.alloc x) := h.call ((Below.refl _ _).alloc (Nat.le_refl _) x)
theorem MS.app (hg : a.grownBy c (blk vl)) (he : ER c vl F) (h : MS w0 bx b o v4 d vl F a) : MS w0 bx b o v4 d vl F c := by
  obtain ⟨⟨c0, c1⟩, h2⟩ := h
  obtain ⟨h1, h2, h3, h4, h5⟩ := h2.out
  have hz := h3.size
  have hk : ∀ k, k < w0.heap.size → c.heap[k]? = a.heap[k]? := fun k hk => hg.block k (by omega) fun e => by have := h5 k e.symm; omega
  exact ⟨⟨(World.cell?_of_block (a := ⟨bx, 4, none⟩) (hk bx h1)).trans c0, (World.cell?_of_block (a := ⟨b, o, none⟩) (hk b h2)).trans c1⟩, hide ⟨h1, h2, h3.grown hg h3.size h5, he, h5⟩⟩
theorem MS.fresh {v' : Value} (h : MS w0 bx b o v4 d vl F a) (hat : ∀ g, blk v' = some g → blk vl = some g ∨ a.heap.size ≤ g) : ∀ g, blk v' = some g → w0.heap.size ≤ g := fun g hg => by
  obtain ⟨h1, h2, h3, h4, h5⟩ := h.2.out
  rcases hat g hg with e | e
  · exact h5 g e
  · exact Nat.le_trans h3.size e
end
end Go.Proofs.YtnmgiiiafefgdaaGreat.Ba

namespace Go.Proofs.YtnmgiiiafefgdaaGreat.Ba
open Go.RowKit Go.Joins Go.Proofs.YtnmgiiiafefgdaaGreat.Gk
open Go.Proofs.YtnmgiiiafefgdaaGreat.Dk (St Bs)
open Go.Proofs.YtnmgiiiafefgdaaGreat.Rl (En Lo LH ER ptr blk eenc EnT EnsT mcode nmb step_er)

set_option maxRecDepth 100000 in
set_option maxHeartbeats 20000000 in
theorem log_law (a : Option Addr) (cap : Nat) (xs : List AcV) (w : World) (hl : AcsAt w a cap xs) :
    Calls Tryz.prog 6 #[.slice a xs.length cap] w fun r w' => r = .returned (.bool true) ∧ Below w.heap.size w w' := by
  have hgl : xs.length ≤ 9223372036854775807 := Nat.le_trans hl.room hl.max
  have HN := hide (Dk.new_ok 262144 w (by decide))
  go_enter Tryz.func6, Tryz.ntmps6
  go_wp2_with fail
  refine HN.out.mono ?_
  clear HN
  rintro r w1 ⟨bd, rfl, hH1, hb1⟩
  have hD1 := DH.new hH1
  have N1 : Nw w w1 (fun k => w.heap.size ≤ k ∧ k < w1.heap.size) := ⟨hb1, fun _ h => h.1⟩
  have HW := hide (works_any w1)
  generalize (fun k => w.heap.size ≤ k ∧ k < w1.heap.size) = D1 at *
  clear hH1 hb1
  go_wp2_with fail
  refine HW.out.mono ?_
  clear HW
  rintro r w2 ⟨rfl, hb2⟩
  have hD2 := hD1.below hb2
  have N2 := N1.below hb2
  have HO := hide (Open_di w2 hD2 (DI.new 3 262144))
  rw [show run Bl.new [] = Bl.new from rfl] at HO
  clear hD1 N1 hb2 hD2
  go_wp2_with fail
  refine HO.out.mono ?_
  clear HO
  rintro r w3 ⟨bb, rfl, X3, hB3, ht3⟩
  have N3 := N2.tu ht3
  have HNl := hide (Rl.New_any w3)
  clear N2 ht3
  go_wp2_with fail
  refine HNl.out.mono ?_
  clear HNl
  rintro r w4 ⟨rfl, hL4, hw4⟩
  have hb4 : Below w3.heap.size w3 w4 := by rw [hw4]; exact (Below.refl _ _).alloc (Nat.le_refl _) _
  have HS : Hid (LG w w4 bb bd w3.heap.size (Dk.St.new 262144) Bl.new [] (.slice none 0 0) X3) := by
    have ho : ∀ k, Rl.own w4 w3.heap.size k → k = w3.heap.size := by
      rintro k (rfl | hk)
      · rfl
      · rw [hL4.lbk] at hk; cases hk
    exact ⟨⟨hB3.below hb4, DI.new 3 _, rfl⟩, ⟨rfl, rfl⟩, ⟨hL4, fun k hk hX => by have := ho k hk; have := hB3.lt hX; omega, fun k hk => by have := ho k hk; have := N3.bel.size; omega⟩, N3.below hb4⟩
  generalize w3.heap.size = ba at *
  clear hL4 hw4 hb4 hB3 N3
  go_wp2
  go_loopw [5, 7] (fun bv iv W => ∃ (k bb : Nat) (S : St) (s : Bl) (rs : List Rc) (va : Value) (X : Nat → Prop), k ≤ xs.length ∧ k ≤ 40 ∧ bv = ptr bb ∧ iv = .int .i64 k ∧ s.t ≤ (k : Int) ∧ LG w W bb bd ba S s rs va X) (fun _ iv _ => xs.length - (intOf iv).toNat)
  case atStart => exact ⟨0, bb, _, _, [], _, _, Nat.zero_le _, Nat.zero_le _, rfl, rfl, by decide, HS.out⟩
  case round =>
    as_aux_lemma =>
      clear HS
      obtain ⟨k, bb, S, s, rs, va, X, hk1, hk2, rfl, rfl, hst, hLG⟩ := hrel
      by_cases hin : k < xs.length ∧ k < 40
      · obtain ⟨hin1, hin2⟩ := hin
        obtain ⟨gb, goff, rfl, hcs⟩ := hl.cells k hin1
        have hok := hl.each _ (List.getElem_mem hin1)
        generalize xs[k] = x at *
        have j1 : (k : Int) < (xs.length : Int) := by omega
        have j2 : (k : Int) < 40 := by omega
        obtain ⟨x0, x1, x2, x3, x4, x5⟩ := hcs wr hLG.nw.bel
        have hb0 : Below wr.heap.size wr (wr.alloc (.cells #[.int .i64 x.k, .int .i64 x.n, .int .i64 x.t, .string x.d, .slice x.la x.l.length x.lc, .slice x.da x.ds.length x.dc] AcT)) := (Below.refl _ _).alloc (Nat.le_refl _) _
        have hx0 := heap_alloc_new wr (.cells #[.int .i64 x.k, .int .i64 x.n, .int .i64 x.t, .string x.d, .slice x.la x.l.length x.lc, .slice x.da x.ds.length x.dc] AcT)
        have H0 := hide (hLG.below hb0)
        have HX0 := hide hx0
        have HA := hide (among_any x.k 4 (wr.alloc (.cells #[.int .i64 x.k, .int .i64 x.n, .int .i64 x.t, .string x.d, .slice x.la x.l.length x.lc, .slice x.da x.ds.length x.dc] AcT)) (by decide) (by decide) hok.k.1 hok.k.2)
        have hk4 : 0 ≤ x.k % 4 ∧ x.k % 4 < 4 := by omega
        have hOk := hLG.lw.ok
        have hm := hLG.lw.many
        have hes := hLG.lw.es
        have hT0 := hOk.t0
        have HBXl := hide (fun e => hLG.lw.b.lt (k := wr.heap.size) e)
        clear hb0 hx0 hLG hcs
        go_wp2_with fail
        refine HA.out.mono ?_
        clear HA x0 x1 x2 x3 x4 x5
        rintro r w5 ⟨rfl, hw5⟩
        rw [← hw5]
        clear hw5
        have HBX := hide (show ¬ X wr.heap.size from fun e => by have := HBXl.out e; omega)
        generalize wr.heap.size = bx at *
        generalize wr.alloc (.cells #[.int .i64 x.k, .int .i64 x.n, .int .i64 x.t, .string x.d, .slice x.la x.l.length x.lc, .slice x.da x.ds.length x.dc] AcT) = W0 at *
        have hk : x.k % 4 = 0 ∨ x.k % 4 = 1 ∨ x.k % 4 = 2 ∨ x.k % 4 = 3 := by omega
        generalize x.k % 4 = kk at *
        have hup := H0.out.up
        go_upto_block 2 with fail
        go_cut [5] from 61 to 230 (fun bv wc => ∃ (bb : Nat) (S : St) (s : Bl) (rs : List Rc) (va : Value) (X : Nat → Prop), bv = ptr bb ∧ s.t ≤ (k : Int) + 1 ∧ LG w wc bb bd ba S s rs va X)
        case first =>
          as_aux_lemma =>
            rcases hk with rfl | rfl | rfl | rfl
            · --B0
              have hTe := Term_any W0 H0.out.lw.b
              have HTn := hide (Turn_any (s.t + 1) W0 H0.out.lw.b)
              have i1 : IntKind.i64.wrap (s.t + 1) = s.t + 1 := wrap_in (by omega) (by omega)
              obtain ⟨u1, u2, u3⟩ := trn_up H0.out.lw.b.ok hup hT0 (by omega)
              have hOut := trn_out (s.t + 1) H0.out.lw.b.ok H0.out.lw.d H0.out.lw.s (by decide)
              generalize trn S s (s.t + 1) = R at *
              obtain ⟨c, S', s'⟩ := R
              dsimp only at u1 u2 u3 hOut HTn
              go_wp2_with (first | (go_at_call 21; refine hTe.mono ?_; rintro r w6 ⟨rfl, hw6⟩; rw [hw6]; clear hw6))
              refine HTn.out.mono ?_
              clear HTn hTe
              rintro r wT ⟨rfl, XT, hBT, hTT⟩
              have hAT := H0.out.al.tu hTT
              have hNT := H0.out.nw.tu hTT
              rcases u1 with rfl | rfl
              · have HLGT : Hid (∃ rs' va', LG w wT bb bd ba S' s' rs' va' XT) := by
                  rcases hOut with ⟨rs', o1, o2, o3, o4, o5, o6⟩ | ⟨o1, _, _⟩ | ⟨_, o1, _⟩
                  · exact ⟨rs', va, ⟨hBT, o3, o4⟩, o6 hup, by rw [u2]; exact hAT, hNT⟩
                  · cases o1
                  · cases o1
                have hstT : s'.t ≤ (k : Int) + 1 := by omega
                clear hBT hTT hAT hNT hOut u2
                go_wp2
                go_meet
                obtain ⟨rsT, vT, hLGT⟩ := HLGT.out
                exact ⟨bb, _, s', rsT, vT, XT, rfl, hstT, hLGT⟩
              · clear hBT hAT hTT hOut
                go_wp2
                go_ret
                exact ⟨rfl, hNT.bel⟩
            · --B1
              have y3 : W0.cell? ⟨bx, 3, none⟩ = some (.string x.d) := by rw [cell_of_block HX0.out]; rfl
              have hbx : bx < W0.heap.size := (Array.getElem?_eq_some_iff.1 HX0.out).1
              have HAp := hide (Append_any x.d W0 H0.out.lw.b hOk (by omega))
              have hOut := mgd_out s.es.length [⟨s.t, x.d⟩] H0.out.lw.b.ok H0.out.lw.d H0.out.lw.s (by decide) (Nat.le_refl _) (by simp)
              have hU := mgd_up (s := s) H0.out.lw.b.ok hup s.es.length [⟨s.t, x.d⟩]
              generalize hR : mgd S s s.es.length [⟨s.t, x.d⟩] = R at *
              clear hR
              obtain ⟨nn, c, S', s'⟩ := R
              dsimp only at hOut hU HAp
              go_wp2_with fail
              refine HAp.out.mono ?_
              clear HAp
              rintro r w6 ⟨rfl, X6, hB6, hT6⟩
              have hA6 := H0.out.al.tu hT6
              have hN6 := H0.out.nw.tu hT6
              have y3' : w6.cell? ⟨bx, 3, none⟩ = some (.string x.d) := by
                have hnx : ¬ X bx := HBX.out
                rw [World.cell?_of_block (a := ⟨bx, 3, none⟩) (hT6.stay hbx hnx).1]; exact y3
              have hst6 : s'.t = s.t := by
                rcases hU with ⟨_, e⟩ | ⟨_, ⟨_, _, e⟩ | ⟨_, e⟩⟩
                · cases e; rfl
                · rw [e]
                · rcases hOut with ⟨_, _, o, _⟩ | ⟨_, o, _⟩ | ⟨_, o, _⟩
                  · exact absurd e o
                  · rw [o]
                  · rw [o] at e; cases e
              have hTe := Term_any w6.drew (hB6.below (Below.refl _ w6).drew)
              rw [hst6] at hTe
              have HA6 := hide hA6
              have HN6 := hide hN6
              have HB6 := hide hB6
              have hd6 := hide ((Below.refl w6.heap.size w6).drew)
              clear y3 hT6 hA6 hN6 hB6
              have HApp : Hid (∃ (m f : Int) (P : World → Prop), (Calls Tryz.prog 26 #[ptr ba, .agg #[.int .i64 s.t, .string x.d]] w6.drew fun r w' => r = .returned (.tuple #[.int .i64 m, .int .i64 f]) ∧ P w') ∧
                  ((m = nn ∧ f = c ∧ s'.t = s.t ∧ ∀ wT, P wT → ∃ rs' va', LG w wT bb bd ba S' s' rs' va' X6) ∨ (nn = 0 ∧ c = 22 ∧ 0 < m ∧ f = 0 ∧ ∀ wT, P wT → Below w.heap.size w wT))) := by
                rcases hU with ⟨m1, e⟩ | ⟨m1, hU⟩
                · obtain ⟨rfl, rfl, rfl, rfl⟩ : nn = 0 ∧ c = mcode (s.lo.tm s.es.length) (nmb (s.es.length + 1) [⟨s.t, x.d⟩]) ∧ S' = S ∧ s' = s := by cases e; exact ⟨rfl, rfl, rfl, rfl⟩
                  have hAn := Rl.Append_no ba ⟨0, 0, s'.es⟩ va ⟨s'.t, x.d⟩ w6.drew (HA6.out.below hd6.out).al (by show 0 + s'.es.length ≤ _; omega) _ (by rw [show (⟨0, 0, s'.es⟩ : Lo).last = s'.es.length by show 0 + s'.es.length = _; omega, show (0 : Nat) + s'.es.length + 1 = s'.es.length + 1 by omega]) m1
                  have HLG6 := hide (⟨⟨HB6.out, H0.out.lw.d, H0.out.lw.s⟩, hup, HA6.out, HN6.out⟩ : LG w w6 bb bd ba S' s' rs va X6)
                  exact ⟨_, _, _, hAn, Or.inl ⟨rfl, rfl, rfl, fun wT hbT => ⟨rs, va, HLG6.out.below ((Below.refl w6.heap.size w6).drew.trans hbT)⟩⟩⟩
                · have hmay : Rl.May1 ⟨0, 0, s.es⟩ ⟨s.t, x.d⟩ := may1_of m1
                  have hAn := Rl.Append_ok ba ⟨0, 0, s.es⟩ va ⟨s.t, x.d⟩ w6.drew (HA6.out.below hd6.out).al hmay
                  rw [show (⟨0, 0, s.es⟩ : Lo).last = s.es.length by show 0 + s.es.length = _; omega] at hAn
                  dsimp only at hAn
                  rw [show (s.lo.mrg s.es.length [⟨s.t, x.d⟩]).1.es = s.es ++ [⟨s.t, x.d⟩] by rw [show s.es.length = s.lo.es.length from rfl, Rl.mrg_one]] at hU
                  rcases hU with ⟨u1, u2, u3⟩ | ⟨u1, u2⟩
                  · rw [List.length_singleton] at u1
                    have hes' : s'.es = s.es ++ [⟨s.t, x.d⟩] := by rw [u3]
                    rw [← hes'] at hAn
                    have HO6 : ∃ rs', DI 3 S' rs' ∧ s' = run Bl.new rs' ∧ Up S' := by
                      rcases hOut with ⟨rs', o1, o2, o3, o4, o5, o6⟩ | ⟨o1, _, _⟩ | ⟨_, o1, _⟩
                      · exact ⟨rs', o3, o4, o6 hup⟩
                      · rw [u2] at o1; cases o1
                      · rw [u2] at o1; cases o1
                    refine ⟨_, _, _, hAn, Or.inl ⟨by rw [u1], u2.symm, hst6, fun wT hP => ?_⟩⟩
                    obtain ⟨⟨vA, hLA⟩, hTA⟩ := hP
                    obtain ⟨rs', o1, o2, o3⟩ := HO6
                    obtain ⟨p1, p2, p3⟩ := (HA6.out.below hd6.out).turn (HB6.out.below hd6.out) (HN6.out.below hd6.out) hLA hTA
                    exact ⟨rs', vA, ⟨p2, o1, o2⟩, o3, p1, p3⟩
                  · refine ⟨_, _, _, hAn, Or.inr ⟨u1, u2, by omega, rfl, fun wT hP => ?_⟩⟩
                    obtain ⟨⟨vA, hLA⟩, hTA⟩ := hP
                    exact ((HA6.out.below hd6.out).turn (HB6.out.below hd6.out) (HN6.out.below hd6.out) hLA hTA).2.2.bel
              obtain ⟨m, f, P, hAn, hcase⟩ := HApp.out
              have HCase := hide hcase
              clear hcase HApp hU hOut HA6 HN6 HB6 H0 hst6
              go_upto_region 22 with fail
              go_cut [12, 13] from 61 to 230 (fun mv fv wx => mv = .int .i64 m ∧ fv = .int .i64 f ∧ P wx)
              case first =>
                go_region_law (first | (go_simp; go_at_call 21; refine hTe.mono ?_; rintro r w7 ⟨rfl, hw7⟩; rw [hw7]; clear hw7) | (go_simp; go_at_call 26; refine hAn.mono ?_; rintro r wT ⟨rfl, hP⟩))
                all_goals
                  go_wp2_with fail
                  go_meet
                  exact ⟨rfl, rfl, hP⟩
              case rest =>
                clear hTe hAn y3'
                obtain ⟨rfl, rfl, hP⟩ := hcut
                rcases HCase.out with ⟨e1, e2, e3, e4⟩ | ⟨e1, e2, e3, e4, e5⟩
                · subst e1
                  subst e2
                  have HLGT := hide (e4 wc hP)
                  have hstT : s'.t ≤ (k : Int) + 1 := by omega
                  clear HCase e4 hP e3
                  go_wp2
                  go_meet
                  obtain ⟨rsT, vT, hLGT⟩ := HLGT.out
                  exact ⟨bb, _, s', rsT, vT, X6, rfl, hstT, hLGT⟩
                · subst e1
                  subst e2
                  have HZ := hide (e5 wc hP)
                  have hq0 : ¬ (0 : Int) = m := by omega
                  have hq1 : ((0 : Int) == m) = false := by simpa using hq0
                  clear HCase e5 hP e3 e4
                  go_wp2
                  go_ret
                  exact ⟨rfl, HZ.out⟩
            · --B2
              --NEW2
              have hbx : bx < W0.heap.size := (Array.getElem?_eq_some_iff.1 HX0.out).1
              have HLa := hide (Rl.Last_any ba ⟨0, 0, s.es⟩ va W0 H0.out.al.al (by show 0 + s.es.length ≤ _; omega))
              rw [show (⟨0, 0, s.es⟩ : Lo).last = s.es.length by show 0 + s.es.length = _; omega] at HLa
              generalize (⟨0, 0, s.es⟩ : Lo).tm s.es.length = lt1 at HLa
              go_wp2_with fail
              refine HLa.out.mono ?_
              clear HLa
              rintro r w2 ⟨rfl, q, rfl⟩
              have HB2 := hide (below_drewN (Below.refl W0.heap.size W0) q)
              generalize W0.drewN q = w2 at *
              have y1 := cell_of_block ((HB2.out.block _ hbx).trans HX0.out) 1
              have HAm := hide (among_any x.n ((s.es.length : Int) + 1) w2 (by omega) (by omega) hok.n.1 hok.n.2)
              obtain ⟨p, hp, hpl⟩ : ∃ p : Nat, x.n % ((s.es.length : Int) + 1) = p ∧ p ≤ s.es.length := by
                have h1 := Int.emod_nonneg x.n (show ((s.es.length : Int) + 1) ≠ 0 by omega)
                have h2 := Int.emod_lt_of_pos x.n (show 0 < ((s.es.length : Int) + 1) by omega)
                exact ⟨(x.n % ((s.es.length : Int) + 1)).toNat, by omega, by omega⟩
              rw [hp] at HAm
              have i1 : IntKind.i64.wrap ((s.es.length : Int) + 1) = (s.es.length : Int) + 1 := wrap_in (by omega) (by omega)
              clear hp
              go_wp2_with fail
              refine HAm.out.mono ?_
              clear HAm
              rintro r w3 ⟨rfl, rfl⟩
              clear y1
              have HTm := hide (Rl.Term_yes ba ⟨0, 0, s.es⟩ va p w2 (H0.out.al.below HB2.out).al (by show 0 + s.es.length ≤ _; omega) (Nat.zero_le _) (by show p ≤ 0 + s.es.length; omega))
              obtain ⟨tm, hTM⟩ : ∃ tm, (⟨0, 0, s.es⟩ : Lo).tm p = tm := ⟨_, rfl⟩
              have HTM := hide hTM
              rw [hTM] at HTm
              clear hTM i1
              go_wp2_with fail
              refine HTm.out.mono ?_
              clear HTm
              rintro r w4 ⟨rfl, q4, rfl⟩
              have HB4 := hide (HB2.out.trans ((below_drewN (Below.refl w2.heap.size w2) q4).mono HB2.out.size))
              generalize w2.drewN q4 = w4 at *
              clear HB2
              go_upto_block 3 with fail
              go_cut [19] from 61 to 230 (fun vl wc => ∃ F : List En, F.length ≤ 3 ∧ (∀ e ∈ F, e.t ≤ s.t) ∧ ER wc vl F ∧ (∀ g, blk vl = some g → W0.heap.size ≤ g) ∧ Below W0.heap.size W0 wc)
              case first =>
                as_aux_lemma =>
                  clear HTM
                  go_wp2
                  go_loopw [19, 20] (fun vl iv W => ∃ k1 : Nat, k1 ≤ x.l.length ∧ k1 ≤ 3 ∧ iv = .int .i64 k1 ∧ ER W vl ((x.l.take k1).map fun e => ⟨s.t, e.d⟩) ∧ (∀ g, blk vl = some g → W0.heap.size ≤ g) ∧ Below W0.heap.size W0 W) (fun _ iv _ => x.l.length - (intOf iv).toNat)
                  case atStart => exact ⟨0, Nat.zero_le _, Nat.zero_le _, rfl, ER.nil _, (fun g hg => by cases hg), HB4.out⟩
                  case round =>
                    obtain ⟨k1, hq1, hq2, rfl, hE, hN, hB⟩ := hrel
                    clear HB4
                    have hxb := (hB.block _ hbx).trans HX0.out
                    have y4 : wr.cell? ⟨bx, 4, none⟩ = some (.slice x.la x.l.length x.lc) := by rw [cell_of_block hxb]; rfl
                    have hLen : ((x.l.take k1).map fun e => (⟨s.t, e.d⟩ : En)).length = k1 := by rw [List.length_map, List.length_take]; omega
                    obtain ⟨al, cl, rfl, hzl, _, _⟩ := hE.slice
                    rw [hLen] at hE hN ⊢
                    have hW := H0.out.lw.below hB
                    have HT := hide (fun W (hb : Below wr.heap.size wr W) => Term_any W (hW.b.below hb))
                    have hHE := hide hE
                    have HRel := hide (show ∃ F : List En, F.length ≤ 3 ∧ (∀ e ∈ F, e.t ≤ s.t) ∧ ER wr (.slice al k1 cl) F ∧ (∀ g, blk (.slice al k1 cl) = some g → W0.heap.size ≤ g) ∧ Below W0.heap.size W0 wr from ⟨_, by rw [hLen]; exact hq2, fun e he => by obtain ⟨y, _, rfl⟩ := List.mem_map.1 he; exact Int.le_refl _, hE, hN, hB⟩)
                    refine (Classical.em (k1 < x.l.length ∧ k1 < 3 ∧ 0 < s.t)).elim (fun hgo => ?g1) (fun hgo => ?g2)
                    case g1 =>
                      obtain ⟨hgo1, hgo2, hgo3⟩ := hgo
                      obtain ⟨b, off, ea, hbl, hc⟩ := (hok.l.lies.below H0.out.nw.bel).at Rl.eenc_len k1 hgo1
                      have z1 := (hB.cell (p := ⟨b, off + k1 * 2 + 1, none⟩) hbl).trans (hc 1 _ rfl)
                      clear hc
                      have HTK := hide (show (x.l.take (k1 + 1)).map (fun e => (⟨s.t, e.d⟩ : En)) = (x.l.take k1).map (fun e => (⟨s.t, e.d⟩ : En)) ++ [⟨s.t, x.l[k1].d⟩] by rw [List.take_succ_eq_append_getElem hgo1, List.map_append]; rfl)
                      generalize x.l[k1] = e0 at *
                      rw [ea] at y4
                      have hMS : MS W0 bx b (off + k1 * 2 + 1) (.slice (some ⟨b, off, none⟩) x.l.length x.lc) (.string e0.d) (.slice al k1 cl) ((x.l.take k1).map fun e => (⟨s.t, e.d⟩ : En)) wr := ⟨⟨y4, z1⟩, hide ⟨hbx, hbl, hB, hHE.out, hN⟩⟩
                      have HTM := hide (fun W (h : MS W0 bx b (off + k1 * 2 + 1) (.slice (some ⟨b, off, none⟩) x.l.length x.lc) (.string e0.d) (.slice al k1 cl) ((x.l.take k1).map fun e => (⟨s.t, e.d⟩ : En)) W) => Term_any W (H0.out.lw.below h.bel).b)
                      have HER := hide (fun W (h : MS W0 bx b (off + k1 * 2 + 1) (.slice (some ⟨b, off, none⟩) x.l.length x.lc) (.string e0.d) (.slice al k1 cl) ((x.l.take k1).map fun e => (⟨s.t, e.d⟩ : En)) W) => h.er)
                      have HFR := hide (fun W (v' : Value) (hat : ∀ g, blk v' = some g → blk (.slice al k1 cl) = some g ∨ W.heap.size ≤ g) (h : MS W0 bx b (off + k1 * 2 + 1) (.slice (some ⟨b, off, none⟩) x.l.length x.lc) (.string e0.d) (.slice al k1 cl) ((x.l.take k1).map fun e => (⟨s.t, e.d⟩ : En)) W) => h.fresh hat)
                      have HAPS := hide (fun (W W' : World) (hg : W.grownBy W' (blk (.slice al k1 cl))) (he : ER W' (.slice al k1 cl) ((x.l.take k1).map fun e => (⟨s.t, e.d⟩ : En))) (h : MS W0 bx b (off + k1 * 2 + 1) (.slice (some ⟨b, off, none⟩) x.l.length x.lc) (.string e0.d) (.slice al k1 cl) ((x.l.take k1).map fun e => (⟨s.t, e.d⟩ : En)) W) => (MS.app hg he h : MS W0 bx b (off + k1 * 2 + 1) (.slice (some ⟨b, off, none⟩) x.l.length x.lc) (.string e0.d) (.slice al k1 cl) ((x.l.take k1).map fun e => (⟨s.t, e.d⟩ : En)) W'))
                      have HT' := hide (HT.out wr (Below.refl _ _))
                      rw [ea]
                      clear hE HX0 HBX HBXl hok hOk hm hes hT0 hup hst hl hgl H0 hxb hzl hW HT hbx hN hB hHE
                      go_wp2_with (first | (go_at_call 21; refine HT'.out.mono ?_; rintro r w5 ⟨rfl, hw5⟩; rw [hw5]; clear hw5))
                      go_region_held3 (MS W0 bx b (off + k1 * 2 + 1) (.slice (some ⟨b, off, none⟩) x.l.length x.lc) (.string e0.d) (.slice al k1 cl) ((x.l.take k1).map fun e => (⟨s.t, e.d⟩ : En))) (first | with_reducible exact MS.drew (by assumption) | with_reducible exact MS.call (by assumption) (by assumption) | with_reducible exact MS.alloc (by assumption) _ | with_reducible exact MS.drew (MS.alloc (by assumption) _) | with_reducible exact MS.drew (MS.drew (MS.alloc (by assumption) _)) | with_reducible exact MS.app (by assumption) (by assumption) (by assumption) | with_reducible assumption)
                        (first | (go_at_call 21; refine (HTM.out _ (by assumption)).mono ?_; rintro r w6 ⟨rfl, rfl⟩) | (refine Rl.step_er_keep rfl (.tmp 163) (.tmp 173) rfl _ _ rfl (HER.out _ (by assumption)) wr.heap.size ⟨s.t, e0.d⟩ rfl (by first | exact heap_alloc_new wr _ | exact heap_alloc_new wr.drew _) (by rw [hLen]; omega) ?_; intro ad cap3 w7 her hg7 hat7 hke7; have hn7 := HFR.out _ _ hat7 (by assumption); have hS7 := HAPS.out _ _ hg7 hke7 (by assumption)))
                      all_goals
                        have hf : MS W0 bx b (off + k1 * 2 + 1) (.slice (some ⟨b, off, none⟩) x.l.length x.lc) (.string e0.d) (.slice al k1 cl) ((x.l.take k1).map fun e => (⟨s.t, e.d⟩ : En)) w7 := by assumption
                        have HB7 := hide hf.bel
                        rw [hLen] at her hn7
                        have HE7 := hide her
                        have HN7 := hide hn7
                        clear her hg7 hat7 hke7 hn7 hf hMS z1 y4
                        go_wp2
                        go_roundw
                        case rel => exact ⟨k1 + 1, by omega, by omega, by go_num, by rw [HTK.out]; exact HE7.out, HN7.out, HB7.out⟩
                        case measure => simp [intOf]; omega
                    case g2 =>
                      clear hE hHE hN
                      refine (Classical.em (k1 < x.l.length)).elim (fun c1 => ?c1y) (fun c1 => ?c1n)
                      case c1y =>
                        refine (Classical.em (k1 < 3)).elim (fun c2 => ?c2y) (fun c2 => ?c2n)
                        case c2y =>
                          have hz : s.t = 0 := by omega
                          have hHT' := HT.out wr (Below.refl _ _)
                          rw [hz] at hHT'
                          clear hz HT
                          go_wp2_with (first | (go_at_call 21; refine hHT'.mono ?_; rintro r w5 ⟨rfl, hw5⟩; rw [hw5]; clear hw5))
                          go_meet
                          exact HRel.out
                        case c2n =>
                          go_wp2
                          go_meet
                          exact HRel.out
                      case c1n =>
                        have c1' : ¬ (k1 : Int) < (x.l.length : Int) := by omega
                        go_wp2
                        go_meet
                        exact HRel.out
              case rest =>
                obtain ⟨F, hF3, hFt, hE, hN, hB⟩ := hcut
                obtain ⟨al, cl, rfl, hzl, _, _⟩ := hE.slice
                have hW := H0.out.lw.below hB
                have hMl : Gk.Lies wc eenc al F := hE.lies
                have hA1 := H0.out.al.below hB
                have hN1 := H0.out.nw.below hB
                have hNX : ∀ b off, al = some ⟨b, off, none⟩ → ¬ X b := fun b off e hX => by
                  have h1 := H0.out.lw.b.lt hX
                  have h2 := hN b (by rw [e]; rfl)
                  omega
                have hNO : ∀ b off, al = some ⟨b, off, none⟩ → ¬ Rl.own wc ba b := fun b off e ho => by
                  rw [Rl.own_same (bl := ba) (hB.block _ H0.out.al.al.lt)] at ho
                  have h1 := H0.out.al.al.ownlt ho
                  have h2 := hN b (by rw [e]; rfl)
                  omega
                have HMg := hide (Merge_any p al cl F wc hW.b hOk (by omega) hpl hMl (by omega) hFt (fun _ b off e => hNX b off e))
                rw [show s.lo.tm p = tm from HTM.out] at HMg
                have hOut := mgd_out p F hW.b.ok hW.d hW.s (by decide) hpl hFt
                have hU := mgd_up (s := s) hW.b.ok hup p F
                rw [show s.lo.tm p = tm from HTM.out] at hU
                generalize hR : mgd S s p F = R at *
                clear hR
                obtain ⟨nn, c, S', s'⟩ := R
                dsimp only at hOut hU HMg
                have HD := hide hW.d
                have HSr := hide hW.s
                obtain ⟨fl, hfl⟩ : ∃ fl, F.length = fl := ⟨_, rfl⟩
                have hLen := hide hfl
                rw [hfl] at HMg hU ⊢
                clear hE hW hB hN H0 hFt HB4 HX0 hfl
                go_wp2_with fail
                refine HMg.out.mono ?_
                clear HMg
                rintro r w6 ⟨rfl, X6, hB6, hT6⟩
                have hA6 := hA1.tu hT6
                have hN6 := hN1.tu hT6
                have hLie6 : Gk.Lies w6 eenc al F := by
                  rcases hMl with h | ⟨b, off, e, h1, h2⟩
                  · exact Or.inl h
                  · have hnX := hNX b off e
                    exact Or.inr ⟨b, off, e, (Array.getElem?_eq_some_iff.1 ((hT6.stay h1 hnX).1.trans (Array.getElem?_eq_getElem h1))).1, fun j u hj => by rw [World.cell?_of_block (a := ⟨b, off + j, none⟩) (hT6.stay h1 hnX).1]; exact h2 j u hj⟩
                have hap6 : F ≠ [] → ∀ b off, al = some ⟨b, off, none⟩ → ¬ Rl.own w6 ba b := fun _ b off e ho => by
                  rw [Rl.own_same (bl := ba) (hT6.stay hA1.al.lt (hA1.ap ba (Or.inl rfl))).1] at ho
                  exact hNO b off e ho
                have HLi := hide hLie6
                have HAp := hide hap6
                have HA6 := hide hA6
                have HN6 := hide hN6
                have HB6 := hide hB6
                clear hMl hA1 hN1 hT6 hLie6 hap6 hA6 hN6 hB6 hNX hNO
                rcases hU with ⟨m1, e⟩ | ⟨m1, hU⟩
                · obtain ⟨rfl, rfl, rfl, rfl⟩ : nn = 0 ∧ c = mcode tm (nmb (p + 1) F) ∧ S' = S ∧ s' = s := by cases e; exact ⟨rfl, rfl, rfl, rfl⟩
                  have hMn := callsIn_wide.1 (Rl.merge_no ba ⟨0, 0, s'.es⟩ va p tm al cl F w6 HA6.out.al (by show 0 + s'.es.length ≤ _; omega) hpl (by show (⟨0, 0, s'.es⟩ : Lo).tm (0 + p) = tm; rw [Nat.zero_add]; exact HTM.out) HLi.out (by omega) _ (by show mcode tm (nmb (0 + p + 1) F) = mcode tm (nmb (p + 1) F); rw [Nat.zero_add]) m1)
                  dsimp only at hMn
                  rw [Nat.zero_add, hLen.out] at hMn
                  generalize mcode tm (nmb (p + 1) F) = mc at *
                  have HLG6 := hide (⟨⟨HB6.out, HD.out, HSr.out⟩, hup, HA6.out, HN6.out⟩ : LG w w6 bb bd ba S' s' rs va X6)
                  clear e m1 HA6 HN6 HB6 HLi HAp hOut
                  go_wp2_with fail
                  refine hMn.mono ?_
                  clear hMn
                  rintro r wT ⟨rfl, hbT⟩
                  have hstT : s'.t ≤ (k : Int) + 1 := by omega
                  have HLGT : Hid (∃ rs' va', LG w wT bb bd ba S' s' rs' va' X6) := ⟨rs, va, HLG6.out.below hbT⟩
                  clear hbT
                  go_wp2
                  go_meet
                  obtain ⟨rsT, vT, hLGT⟩ := HLGT.out
                  exact ⟨bb, _, s', rsT, vT, X6, rfl, hstT, hLGT⟩
                · have hMA := callsIn_wide.1 (Rl.merge_in ba ⟨0, 0, s.es⟩ va p tm al cl F w6 HA6.out.al (by show 0 + s.es.length ≤ _; omega) hpl (by show (⟨0, 0, s.es⟩ : Lo).tm (0 + p) = tm; rw [Nat.zero_add]; exact HTM.out) HLi.out (by omega) HAp.out (by show mcode tm (nmb (0 + p + 1) F) = 0; rw [Nat.zero_add]; exact m1))
                  dsimp only at hMA
                  rw [Nat.zero_add, hLen.out] at hMA
                  generalize ((⟨0, 0, s.es⟩ : Lo).mrg p F).2 = cut at hMA
                  rw [mrg_lo s.es p F] at hMA
                  clear HLi HAp m1
                  rcases hU with ⟨u1, u2, u3⟩ | ⟨u1, u2⟩
                  · subst u1
                    subst u2
                    have hes' : ((⟨0, 0, s.es⟩ : Lo).mrg p F).1.es = s'.es := by rw [u3]
                    have hst6 : s'.t = s.t := by rw [u3]
                    rw [hes'] at hMA
                    have HO6 : Hid (∃ rs', DI 3 S' rs' ∧ s' = run Bl.new rs' ∧ Up S') := by
                      rcases hOut with ⟨rs', o1, o2, o3, o4, o5, o6⟩ | ⟨o1, _, _⟩ | ⟨_, o1, _⟩
                      · exact ⟨rs', o3, o4, o6 hup⟩
                      · cases o1
                      · cases o1
                    clear hOut u3 hes' hup
                    generalize ((p + fl : Nat) : Int) = q at *
                    go_wp2_with fail
                    refine hMA.mono ?_
                    clear hMA
                    rintro r wT ⟨rfl, ⟨vA, hLA⟩, hTA⟩
                    have hstT : s'.t ≤ (k : Int) + 1 := by omega
                    have HLGT : Hid (∃ rs' va', LG w wT bb bd ba S' s' rs' va' X6) := by
                      obtain ⟨rs', o1, o2, o3⟩ := HO6.out
                      obtain ⟨p1, p2, p3⟩ := HA6.out.turn HB6.out HN6.out hLA hTA
                      exact ⟨rs', vA, ⟨p2, o1, o2⟩, o3, p1, p3⟩
                    clear hLA hTA HO6 HA6 HB6 HN6
                    go_wp2
                    go_meet
                    obtain ⟨rsT, vT, hLGT⟩ := HLGT.out
                    exact ⟨bb, _, s', rsT, vT, X6, rfl, hstT, hLGT⟩
                  · subst u1
                    subst u2
                    clear hOut hup
                    generalize ((p + fl : Nat) : Int) = q at *
                    have hq : ¬ (0 : Int) = q ∨ 0 = q := (Classical.em _).symm
                    go_wp2_with fail
                    refine hMA.mono ?_
                    clear hMA
                    rintro r wT ⟨rfl, ⟨vA, hLA⟩, hTA⟩
                    have HZ := hide ((HA6.out.turn HB6.out HN6.out hLA hTA).2.2.bel)
                    clear hLA hTA HA6 HB6 HN6
                    rcases hq with hq | rfl
                    · have hq1 : ((0 : Int) == q) = false := by simpa using hq
                      go_wp2
                      go_ret
                      exact ⟨rfl, HZ.out⟩
                    · go_wp2
                      go_ret
                      exact ⟨rfl, HZ.out⟩
            · --B3
              obtain ⟨D, hD, hsub⟩ := H0.out.lw.b.disk
              have hO := Open_di W0 hD H0.out.lw.d
              rw [← H0.out.lw.s] at hO
              clear hD
              go_wp2_with fail
              refine hO.mono ?_
              clear hO
              rintro r wT ⟨bT, rfl, XT, hBT, hTT⟩
              have hAT : AL w wT ba s.es va XT := AL.tu ⟨H0.out.al.al, fun k hk e => H0.out.al.ap k hk (hsub k e), H0.out.al.an⟩ hTT
              have hNT : Nw w wT XT := Nw.tu ⟨H0.out.nw.bel, fun k hk => H0.out.nw.new k (hsub k hk)⟩ hTT
              have HLGT : Hid (∃ rs' va', LG w wT bT bd ba S s rs' va' XT) := ⟨rs, va, ⟨hBT, H0.out.lw.d, H0.out.lw.s⟩, hup, hAT, hNT⟩
              obtain ⟨s', hs'⟩ : ∃ s', s = s' := ⟨_, rfl⟩
              have hstT : s'.t ≤ (k : Int) + 1 := by rw [← hs']; omega
              rw [hs'] at HLGT
              clear hBT hTT hAT hNT hsub hs'
              go_wp2
              go_meet
              obtain ⟨rsT, vT, hLGT⟩ := HLGT.out
              exact ⟨bT, _, s', rsT, vT, XT, rfl, hstT, hLGT⟩
        case rest =>
          clear H0 HX0 HBX HBXl hok hOk hm hes hT0 hup hst
          obtain ⟨bT, S', s', rsT, vT, XT, rfl, hstT, hLGT⟩ := hcut
          go_wp2_with fail
          have hesT := hLGT.lw.es
          have hmT := hLGT.lw.many
          have HLo := hide (Log_any wc hLGT.lw.b hesT)
          have HLG := hide hLGT
          clear hLGT
          refine HLo.out.mono ?_
          clear HLo
          rintro r w20 ⟨b20, rfl, hM20⟩
          obtain ⟨v20, hL20⟩ := hM20.log
          have H20 := hide (HLG.out.below hM20.bel)
          have HSx := hide (Rl.Slice_ok b20 ⟨0, 0, s'.es⟩ v20 0 1048576 (by decide) w20 hL20 (by show 0 + s'.es.length ≤ _; omega) (Nat.zero_le _) hesT.ds)
          have hk20 : ((s'.es.drop 0).take (min (1048576 : Int).toNat (s'.es.length - 0))) = s'.es := by
            rw [List.drop_zero, List.take_of_length_le]; show _ ≤ min 1048576 _; omega
          dsimp only at HSx
          rw [hk20] at HSx
          have HM20 := hide hM20
          have HL20 := hide hL20
          clear hM20 hL20
          go_wp2_with fail
          refine HSx.out.mono ?_
          clear HSx
          rintro r w21 ⟨v21, rfl, hE21, _, hb21⟩
          obtain ⟨a21, c21, rfl, _⟩ := hE21.slice
          have H21 := hide (H20.out.below hb21)
          have HSy := hide (Rl.Slice_ok ba ⟨0, 0, s'.es⟩ vT 0 1048576 (by decide) w21 H21.out.al.al (by show 0 + s'.es.length ≤ _; omega) (Nat.zero_le _) hesT.ds)
          dsimp only at HSy
          rw [hk20] at HSy
          have HE21 := hide hE21
          have HB21 := hide hb21
          clear hE21 hb21 hk20
          go_wp2_with fail
          refine HSy.out.mono ?_
          clear HSy
          rintro r w22 ⟨v22, rfl, hE22, _, hb22⟩
          obtain ⟨a22, c22, rfl, _⟩ := hE22.slice
          have H22 := hide (H21.out.below hb22)
          have HSm := hide (Rl.same_ents a21 a22 c21 c22 s'.es w22 ((HE21.out.below hb22).lies) hE22.lies (by omega))
          have HB22 := hide hb22
          clear hE22 hb22
          go_wp2_with fail
          refine HSm.out.mono ?_
          clear HSm
          rintro r w23 ⟨rfl, hb23⟩
          have H23 := hide (H22.out.below hb23)
          have hbe : Below w20.heap.size w20 w23 := HB21.out.trans ((HB22.out.mono HB21.out.size).trans (hb23.mono (Nat.le_trans HB21.out.size HB22.out.size)))
          have HAp2 := hide (Rl.Append_ok b20 ⟨0, 0, s'.es⟩ v20 ⟨1073741824, ⟨#[]⟩⟩ w23 (HL20.out.below hbe) ⟨by decide, by decide, by rw [lt_tm]; unfold lt; cases hg : s'.es.getLast? with | none => simp | some e => have := hesT.each e (List.mem_of_getLast? hg); simp; omega, by decide, by show 0 + s'.es.length < _; omega⟩)
          clear hb23
          go_wp2_with fail
          refine HAp2.out.mono ?_
          clear HAp2
          rintro r w24 ⟨rfl, _, hT24⟩
          have hb24 : Below wc.heap.size w23 w24 := Gk.Only.below hT24.only (Nat.le_trans HM20.out.bel.size hbe.size) (fun k hk => by
            rw [Rl.own_same (hbe.block _ HL20.out.lt)] at hk; exact HM20.out.new k hk)
          have hb24' : Below wc.heap.size wc w24 := (HM20.out.bel.trans (hbe.mono HM20.out.bel.size)).trans hb24
          have HF := hide (HLG.out.below hb24')
          generalize (⟨0, 0, s'.es⟩ : Lo).last = q24 at *
          clear HLG H20 H21 H22 H23 HE21 HB21 HB22 HM20 HL20 hT24 hb24 hb24' hbe
          go_wp2
          go_roundw
          case rel => exact ⟨k + 1, bT, _, s', rsT, vT, XT, by omega, by omega, rfl, by go_num, by rw [Int.natCast_add]; exact hstT, HF.out⟩
          case measure => simp [intOf]; omega
      · have j1 : (k : Int) < (xs.length : Int) ∨ ¬ (k : Int) < (xs.length : Int) := Classical.em _
        have HN := hide hLG.nw.bel
        clear hLG
        rcases j1 with j1 | j1
        · have j2 : ¬ (k : Int) < 40 := by omega
          go_wp2
          go_ret
          exact ⟨rfl, HN.out⟩
        · go_wp2
          go_ret
          exact ⟨rfl, HN.out⟩
end Go.Proofs.YtnmgiiiafefgdaaGreat.Ba
