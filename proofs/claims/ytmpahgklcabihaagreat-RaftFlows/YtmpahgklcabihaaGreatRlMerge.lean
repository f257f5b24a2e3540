/- Walks over rlog: Merge. -/
import Derived.Test.YtmpahgklcabihaaGreatRlMgP
namespace Go.Proofs.YtmpahgklcabihaaGreat.Rl
open Go.RowKit Go.Joins Gk

attribute [local go_sem] Oper.semAt_some

theorem tn_kp2 {W W' : World} {bl Bk : Nat} {S : Lo} {v : Value} {X : Nat → Prop} (h : LH W bl S v) (ht : Tn bl W W') (hX : ∀ k, X k → k < W.heap.size ∧ ¬ own W bl k) : Kp2 X Bk W W' := by
  have hc : ∀ k o, W.heap[k]? = some o → own W bl k → ∃ cs, o = .cells cs LogT (0, 0) ∨ o = .cells cs EnT (0, 0) := by
    intro k o ho hk
    rcases hk with rfl | hk
    · rw [h.box] at ho; cases ho; exact ⟨_, Or.inl rfl⟩
    · rw [h.lbk] at hk
      rcases h.row with ⟨rfl, _⟩ | ⟨g, o', cap, cur, rfl, hg', _⟩
      · cases hk
      · cases hk; rw [hg'] at ho; cases ho; exact ⟨_, Or.inr rfl⟩
  refine ⟨⟨ht.only.size, fun k hk => ht.only.block k (hX k hk).1 (hX k hk).2⟩, fun k cs t hk h1 h2 _ => ?_, ht.only.size, fun k o _ hk ho => ?_⟩
  · refine (ht.only.block k (Array.getElem?_eq_some_iff.1 hk).1 fun e => ?_).trans hk
    obtain ⟨cs', e1 | e1⟩ := hc k _ hk e
    · cases e1; exact h1 rfl
    · cases e1; exact h2 rfl
  · refine (ht.only.block k (Array.getElem?_eq_some_iff.1 hk).1 fun e => ?_).trans hk
    obtain ⟨cs', e1 | e1⟩ := hc k _ hk e <;> (subst e1; cases ho)
theorem kp2_set {X : Nat → Prop} {Bk b : Nat} {W : World} {v u : Value} (h : Boxed W b 3 v) (hX : ¬ X b) : Kp2 X Bk W (W.setCell ⟨b, 0, none⟩ u) :=
  ⟨⟨by simp, fun k hk => Below.heap_setCell W ⟨b, 0, none⟩ u k (fun e => hX (by rw [← show k = b from e]; exact hk))⟩,
   fun k cs t hk _ _ h3 => (Below.heap_setCell W ⟨b, 0, none⟩ u k (fun e => by rw [show k = b from e, show W.heap[b]? = _ from h] at hk; cases hk; exact h3 rfl)).trans hk, keeps_set Bk W b 0 u h⟩
theorem kp2_alloc {X : Nat → Prop} {Bk : Nat} {W : World} (hX : ∀ k, X k → k < W.heap.size) (o : Obj) : Kp2 X Bk W (W.alloc o) :=
  ⟨Kpt.alloc hX o, fun k _ _ hk _ _ _ => (Below.heap_alloc W o k (Array.getElem?_eq_some_iff.1 hk).1).trans hk, (KeepsOthers.alloc W o).from Bk⟩
theorem tn_own (bl : Nat) (w : World) (S : Lo) (v : Value) (h : LH w bl S v) (B : Nat) (hB : w.heap.size ≤ B) {β : Type} : OwnB B (fun (_ : β) W => Tn bl w W) := fun s W W' row ht hg hr => by
  have hne : ∀ k, k < w.heap.size → some k ≠ row := fun k hk e => by have := (hr k e.symm).1; omega
  refine ⟨⟨hg.os.trans ht.only.os, hg.tape.trans ht.only.tape, hg.output.trans ht.only.output, Nat.le_trans ht.only.size hg.size, fun k hk hn => (hg.block k (Nat.lt_of_lt_of_le hk ht.only.size) (hne k hk)).trans (ht.only.block k hk hn)⟩, fun k hk => ht.new k ?_⟩
  rwa [lb_same (hg.block bl (Nat.lt_of_lt_of_le h.lt ht.only.size) (hne bl h.lt))] at hk

theorem LH.notown {W : World} {bl b t : Nat} {S : Lo} {v : Value} {cs : Array Value} (h : LH W bl S v) (hb : W.heap[b]? = some (.cells cs t (0, 0))) (h1 : t ≠ LogT) (h2 : t ≠ EnT) : ¬ own W bl b := by
  rintro (rfl | e)
  · rw [h.box] at hb; cases hb; exact h1 rfl
  · rw [h.lbk] at e; exact h.row.ne hb h2 e rfl
theorem Tn.nown {bl k : Nat} {a b : World} (ht : Tn bl a b) (hk : k < a.heap.size) (hn : ¬ own a bl k) : ¬ own b bl k := by
  rintro (rfl | e)
  · exact hn (Or.inl rfl)
  · rcases ht.new k e with e | e
    · exact hn (Or.inr e)
    · omega
/-- behind a cut, and behind the count of it -/
structure MF (w W : World) (bl : Nat) (S : Lo) (v : Value) (X : Nat → Prop) (Bk B4 Bx : Nat) (e : En) (c : Int) (ck : Nat) (w2 A : World) : Prop where
  k2 : w2.cell? ⟨w.heap.size, 0, none⟩ = some (ptr bl)
  k3 : w2.cell? ⟨w.heap.size + 1, 0, none⟩ = some (.int .i64 (ck : Int))
  f3 : w2.frozen? ⟨w.heap.size + 1, 0, none⟩ = false
  a1 : LH A bl S v
  a2 : Boxed A w.heap.size PLT (ptr bl)
  a3 : Boxed A (w.heap.size + 1) 3 (.int .i64 c)
  e0 : A.cell? ⟨Bx, 0, none⟩ = some (.int .i64 e.t)
  e1 : A.cell? ⟨Bx, 1, none⟩ = some (.string e.d)
  tn : Tn bl w A
  sz : W.heap.size ≤ A.heap.size
  kp : Kp2 X Bk W A
  kf : KeepsFrom B4 W A
  xx : ∀ k, X k → k < A.heap.size ∧ ¬ own A bl k
theorem MF.mk' {w W w2 : World} {bl : Nat} {S0 S : Lo} {v0 v : Value} {X : Nat → Prop} {Bk B4 Bx : Nat} {e : En} {c : Int} {ck : Nat} (h1 : LH W bl S0 v0) (g1 : LH w2 bl S v) (g2 : Tn bl W w2) (h2 : Boxed W w.heap.size PLT (ptr bl)) (h3 : Boxed W (w.heap.size + 1) 3 (.int .i64 (ck : Int)))
    (hx : W.heap[Bx]? = some (.cells #[.int .i64 e.t, .string e.d] EnT (0, 0))) (nx : ¬ own W bl Bx) (h5 : ∀ k, X k → k < W.heap.size ∧ ¬ own W bl k) (hXc : ¬ X (w.heap.size + 1)) (h4 : Tn bl w W) : MF w W bl S v X Bk B4 Bx e c ck w2 (w2.setCell ⟨w.heap.size + 1, 0, none⟩ (.int .i64 c)) := by
  have q2 : Boxed w2 w.heap.size PLT (ptr bl) := (g2.only.block _ h2.lt (h1.notown h2 (by decide) (by decide))).trans h2
  have q3 : Boxed w2 (w.heap.size + 1) 3 (.int .i64 (ck : Int)) := (g2.only.block _ h3.lt (h1.notown h3 (by decide) (by decide))).trans h3
  have qx : w2.heap[Bx]? = some (.cells #[.int .i64 e.t, .string e.d] EnT (0, 0)) := (g2.only.block _ (Array.getElem?_eq_some_iff.1 hx).1 nx).trans hx
  have q5 : ∀ k, X k → k < w2.heap.size ∧ ¬ own w2 bl k := fun k hk => ⟨Nat.lt_of_lt_of_le (h5 k hk).1 g2.only.size, g2.nown (h5 k hk).1 (h5 k hk).2⟩
  have n3 : ¬ own w2 bl (w.heap.size + 1) := g1.notown q3 (by decide) (by decide)
  have nbx : Bx ≠ w.heap.size + 1 := fun e1 => by rw [e1, show w2.heap[w.heap.size + 1]? = _ from q3] at qx; injection Option.some.inj qx with _ h2; exact absurd h2 (by decide)
  have hst : ∀ k, k ≠ w.heap.size + 1 → (w2.setCell ⟨w.heap.size + 1, 0, none⟩ (.int .i64 c)).heap[k]? = w2.heap[k]? := fun k hk => Below.heap_setCell w2 ⟨w.heap.size + 1, 0, none⟩ (.int .i64 c) k hk
  have hbl : bl ≠ w.heap.size + 1 := fun e1 => n3 (Or.inl e1.symm)
  have a1 : LH (w2.setCell ⟨w.heap.size + 1, 0, none⟩ (.int .i64 c)) bl S v := g1.stay fun k hk => hst k (fun e1 => n3 (e1 ▸ hk))
  have hx' := (hst Bx nbx).trans qx
  have t2 := h4.trans g2
  refine ⟨q2.cell, q3.cell, q3.frozen, a1, q2.other (by omega) _, q3.set _, by rw [cell_of_block hx']; rfl, by rw [cell_of_block hx']; rfl, ?_, by have := g2.only.size; simpa using this, (tn_kp2 h1 g2 h5).trans (kp2_set q3 hXc), (tn_kp2 (X := fun _ => False) h1 g2 (fun _ h => h.elim)).2.2.trans (keeps_set _ _ _ _ _ q3), fun k hk => ⟨by have := (q5 k hk).1; simpa using this, by rw [own_same (hst bl hbl)]; exact (q5 k hk).2⟩⟩
  exact ⟨⟨t2.only.os, t2.only.tape, t2.only.output, by have := t2.only.size; simpa using this, fun k hk hn => (hst k (by omega)).trans (t2.only.block k hk hn)⟩, fun k hk => t2.new k (by rw [← lb_same (hst bl hbl)]; exact hk)⟩

theorem lh_ownF (bl : Nat) {β : Type} (f : β → Lo) (v : Value) (B : Nat) : OwnB B (fun (s : β) W => LH W bl (f s) v) := fun s W W' row h hg hr => lh_own bl (f s) v B s W W' row h hg hr
theorem mI_step (S : Lo) (p m : Nat) (fs : List En) (k : Nat) (hpm : p + m ≤ S.es.length) (hk : k < (fs.drop m).length) : (mI S p m fs k).1.b = S.b ∧ (mI S p m fs k).1.bt = S.bt ∧ p + m + k ≤ (mI S p m fs k).1.es.length ∧
    mI S p m fs (k + 1) = (⟨S.b, S.bt, (mI S p m fs k).1.es.take (p + m + k) ++ [(fs.drop m)[k]]⟩, (mI S p m fs k).2 + ((mI S p m fs k).1.es.length - (p + m + k))) := by
  unfold mI
  rw [if_neg (Nat.succ_ne_zero k)]
  by_cases h0 : k = 0
  · subst h0
    rw [if_pos rfl]
    refine ⟨rfl, rfl, hpm, ?_⟩
    rw [List.take_succ_eq_append_getElem hk, Nat.add_zero]; simp
  · rw [if_neg h0]
    have hl : (S.es.take (p + m) ++ (fs.drop m).take k).length = p + m + k := by rw [List.length_append, List.length_take, List.length_take]; omega
    refine ⟨rfl, rfl, Nat.le_of_eq hl.symm, ?_⟩
    dsimp only
    rw [hl, Nat.sub_self, List.take_of_length_le (Nat.le_of_eq hl), List.take_succ_eq_append_getElem hk, List.append_assoc]
    rfl

set_option maxRecDepth 100000 in
set_option maxHeartbeats 8000000 in
theorem merge_in (bl : Nat) (S : Lo) (v : Value) (p : Nat) (t : Int) (a : Option Addr) (cap : Nat) (fs : List En) (w : World) (hS : LH w bl S v) (hbd : S.b + S.es.length ≤ 1048577) (hp : p ≤ S.es.length) (ht : S.tm (S.b + p) = t) (hl : Lies w eenc a fs) (hfl : fs.length ≤ 4611686018427387)
    (hap : fs ≠ [] → ∀ b off, a = some ⟨b, off, none⟩ → ¬ own w bl b) (hc : mcode t (nmb (S.b + p + 1) fs) = 0) :
    CallsIn Fence.wide 9 Tryz.prog 94 #[ptr bl, .int .i64 ((S.b + p : Nat) : Int), .int .i64 t, .slice a fs.length cap] w fun e w' => e = .returned (.tuple #[.int .i64 ((S.b + p + fs.length : Nat) : Int), .int .i64 ((S.mrg p fs).2 : Int), .int .i64 0]) ∧ (∃ v', LH w' bl (S.mrg p fs).1 v') ∧ Tn bl w w' := by
  obtain ⟨hok1, hok2, hok3⟩ := mcode_ok hc
  have HLG := hide (mfs_lg t _ hok3)
  have HK := hide (fun W (h : LH W bl S v) => knows_any bl S v ((S.b + p : Nat) : Int) W h hbd)
  rw [show decide ((S.b : Int) ≤ ((S.b + p : Nat) : Int) ∧ ((S.b + p : Nat) : Int) ≤ (S.last : Int)) = true by rw [decide_eq_true_iff]; unfold Lo.last; omega] at HK
  have HT := hide (fun W (h : LH W bl S v) => termAt_any bl S v (S.b + p) W h hbd (by omega) (by unfold Lo.last; omega))
  rw [ht] at HT
  have HN := hide (fun W => numbered_any (S.b + p + 1) a fs.length cap W)
  have hpe : ((S.b + p + 1 : Nat) : Int) = ((S.b + p : Nat) : Int) + 1 := by omega
  rw [hpe] at HN
  generalize hpv0 : S.b + p = pv at *
  have hpv : S.b + p ≤ pv ∧ pv ≤ S.b + p := by omega
  have HTM := hide ht
  clear hpv0 ht
  have hpv1 : (pv : Int) ≤ 1048577 := by omega
  have hpv0 : (0 : Int) ≤ (pv : Int) := by omega
  refine callsIn_of_wp_marks Tryz.func94 rfl trivial ?_ rfl
  simp only [Tryz.ntmps94, List.size_toArray, List.length_cons, List.length_nil, Nat.reduceAdd, Nat.reduceSub, Array.replicate_succ, Array.replicate_zero, List.push_toArray, List.append_toArray, List.nil_append, List.cons_append]
  have hba : Below w.heap.size w ((w.alloc (.cells #[ptr bl] PLT)).alloc (.cells #[.int .i64 0] 3)) := ((Below.refl _ w).alloc (Nat.le_refl _) _).alloc (by simp) _
  gi_wp2_with (refine ⟨trivial, ?_⟩; gi_at_call 141; refine (callsIn_wide.2 (HK.out _ (hS.below hba))).mono ?_; rintro e w1 ⟨rfl, q1, rfl⟩)
  refine ⟨trivial, (callsIn_wide.2 (HT.out _ ((hS.below hba).drewN q1))).mono ?_⟩
  rintro e w2 ⟨rfl, q2, rfl⟩
  gi_wp2
  obtain ⟨W1, hW1⟩ : ∃ W1, ((w.alloc (.cells #[ptr bl] PLT)).alloc (.cells #[.int .i64 0] 3)).drewN (q1 + q2) = W1 := ⟨_, rfl⟩
  have z1 : W1.heap.size ≤ w.heap.size + 2 ∧ w.heap.size + 2 ≤ W1.heap.size := by rw [← hW1]; simp
  have b1 : Below w.heap.size w W1 := by rw [← hW1]; exact below_drewN hba _
  have bL1 : Boxed W1 w.heap.size PLT (ptr bl) := by rw [← hW1]; exact (Boxed.new w _ _).alloc _
  have bC1 : Boxed W1 (w.heap.size + 1) 3 (.int .i64 0) := by
    rw [← hW1]; have := Boxed.new (w.alloc (.cells #[ptr bl] PLT)) 3 (.int .i64 0); rw [World.size_alloc] at this; exact this
  rw [hW1]
  clear hW1 hba
  refine ⟨trivial, (callsIn_wide.2 (HN.out _)).mono ?_⟩
  rintro e w3 ⟨rfl, rfl⟩
  obtain ⟨W2, hW2⟩ : ∃ W2, (W1.alloc (.cells #[.int .i64 ((pv : Int) + 1)] 3)).alloc (.cells #[.slice a fs.length cap] EnsT) = W2 := ⟨_, rfl⟩
  have z2 : W2.heap.size ≤ W1.heap.size + 2 ∧ W1.heap.size + 2 ≤ W2.heap.size := by rw [← hW2]; simp
  have b2 : Below W1.heap.size W1 W2 := by rw [← hW2]; exact ((Below.refl _ W1).alloc (Nat.le_refl _) _).alloc (by simp) _
  have bF2 : Boxed W2 W1.heap.size 3 (.int .i64 ((pv + 1 : Nat) : Int)) := by rw [← hW2, hpe]; exact (Boxed.new W1 _ _).alloc _
  have bE2 : Boxed W2 (W1.heap.size + 1) EnsT (.slice a fs.length cap) := by
    rw [← hW2]; have := Boxed.new (W1.alloc (.cells #[.int .i64 ((pv : Int) + 1)] 3)) EnsT (.slice a fs.length cap); rw [World.size_alloc] at this; exact this
  rw [hW2]
  clear hW2
  have hl2 : Lies W2 eenc a fs := (hl.below b1).below b2
  have hfl2 : pv + 1 + fs.length ≤ 4611686018427387904 := by omega
  have hab : ∀ W, Lies W eenc a fs → fs ≠ [] → ∀ b off, a = some ⟨b, off, none⟩ → b < W.heap.size := fun W h hne b off e => by
    rcases h with h | ⟨b', o', e', hlt, _⟩
    · exact absurd h hne
    · rw [e] at e'; cases e'; exact hlt
  have HM := hide (may_in t 176 #[ptr (W1.heap.size + 1), ptr W1.heap.size] (nmb (pv + 1) fs) (fun k => k < W2.heap.size) W2 (enters_of Tryz.func176 (by kernel_rfl) rfl) (num_seq W2 _ (W1.heap.size + 1) W1.heap.size cap (pv + 1) a fs _ hl2 hfl2 (by omega) bE2.cell bF2.cell (fun _ h => h) (by omega) (fun hne b off e => hab _ hl2 hne b off e)) (fun _ h => h))
  rw [hc] at HM
  gi_wp2
  refine ⟨trivial, (callsIn_wide.2 (callsIn_wide.1 HM.out)).mono ?_⟩
  rintro e W3 ⟨rfl, b3⟩
  have bL3 : Boxed W3 w.heap.size PLT (ptr bl) := (b3.block _ (by omega)).trans ((b2.block _ (by omega)).trans bL1)
  have hcl3 := bL3.cell
  clear HM HN HK HT
  gi_wp2
  refine ⟨trivial, (callsIn_wide.2 (lacking_any bl 176 #[ptr (W1.heap.size + 1), ptr W1.heap.size] W3)).mono ?_⟩
  rintro e w5 ⟨rfl, rfl⟩
  obtain ⟨W4, hW4⟩ : ∃ W4, (W3.alloc (.cells #[ptr bl] PLT)).alloc (.cells #[.func (.func 176) #[] #[ptr (W1.heap.size + 1), ptr W1.heap.size]] SqT) = W4 := ⟨_, rfl⟩
  have z4 : W4.heap.size ≤ W3.heap.size + 2 ∧ W3.heap.size + 2 ≤ W4.heap.size := by rw [← hW4]; simp
  have b4 : Below W3.heap.size W3 W4 := by rw [← hW4]; exact ((Below.refl _ W3).alloc (Nat.le_refl _) _).alloc (by simp) _
  have bLb : Boxed W4 W3.heap.size PLT (ptr bl) := by rw [← hW4]; exact (Boxed.new W3 _ _).alloc _
  have bSq : Boxed W4 (W3.heap.size + 1) SqT (.func (.func 176) #[] #[ptr (W1.heap.size + 1), ptr W1.heap.size]) := by
    rw [← hW4]; have := Boxed.new (W3.alloc (.cells #[ptr bl] PLT)) SqT (.func (.func 176) #[] #[ptr (W1.heap.size + 1), ptr W1.heap.size]); rw [World.size_alloc] at this; exact this
  rw [hW4]
  clear hW4
  have z3 := b3.size
  have b24 : Below W2.heap.size W2 W4 := b3.trans (b4.mono z3)
  have b04 : Below w.heap.size w W4 := b1.trans ((b2.mono (by omega)).trans (b24.mono (by omega)))
  have hS4 := hS.below b04
  have bF4 : Boxed W4 W1.heap.size 3 (.int .i64 ((pv + 1 : Nat) : Int)) := (b24.block _ (by omega)).trans bF2
  have bE4 : Boxed W4 (W1.heap.size + 1) EnsT (.slice a fs.length cap) := (b24.block _ (by omega)).trans bE2
  have bL4 : Boxed W4 w.heap.size PLT (ptr bl) := (b4.block _ (by omega)).trans bL3
  have bC4 : Boxed W4 (w.heap.size + 1) 3 (.int .i64 0) := (b24.block _ (by omega)).trans ((b2.block _ (by omega)).trans bC1)
  have hl4 : Lies W4 eenc a fs := hl2.below b24
  obtain ⟨m, hm⟩ : ∃ m, mt (S.es.drop p) fs = m := ⟨_, rfl⟩
  have hmm1 : p + m ≤ S.es.length := by have := mt_le1 (S.es.drop p) fs; rw [hm, List.length_drop] at this; omega
  have hmm2 : m ≤ fs.length := by have := mt_le2 (S.es.drop p) fs; rwa [hm] at this
  have HL1 := hide (show lck S (nmb (pv + 1) fs) = nmb (pv + 1 + m) (fs.drop m) by rw [← hm]; exact lck_nmb S fs (pv + 1) p (by omega) hp)
  have HMR := hide (show S.mrg p fs = mI S p m fs (fs.length - m) by rw [Lo.mrg, hm])
  have own4 : own W4 bl = own w bl := own_same (b04.block bl hS.lt)
  obtain ⟨X, hXd⟩ : ∃ X : Nat → Prop, X = fun k => k = W1.heap.size ∨ k = W3.heap.size ∨ (fs ≠ [] ∧ ∃ off, a = some ⟨k, off, none⟩) := ⟨_, rfl⟩
  have hX4 : ∀ k, X k → k < W4.heap.size ∧ ¬ own W4 bl k := by
    rw [hXd, own4]
    rintro k (rfl | rfl | ⟨hne, off, e⟩)
    · refine ⟨by omega, fun h => ?_⟩; have := hS.ownlt h; omega
    · refine ⟨by omega, fun h => ?_⟩; have := hS.ownlt h; omega
    · exact ⟨hab _ hl4 hne k off e, hap hne k off e⟩
  have hXc : ¬ X (w.heap.size + 1) := by
    rw [hXd]
    rintro (h | h | ⟨hne, off, e⟩)
    · omega
    · omega
    · have := hab _ hl hne _ off e; omega
  have hseq := lack_seq W4 (W4.heap.size + 2) (W3.heap.size + 1) W3.heap.size bl 176 #[ptr (W1.heap.size + 1), ptr W1.heap.size] S v (nmb (pv + 1) fs) X (enters_of Tryz.func176 (by kernel_rfl) rfl)
    (fun B => num_seq W4 B (W1.heap.size + 1) W1.heap.size cap (pv + 1) a fs X hl4 hfl2 (by omega) bE4.cell bF4.cell (fun k hk => (hX4 k hk).1) (by rw [hXd]; exact Or.inl rfl) (fun hne b off e => by rw [hXd]; exact Or.inr (Or.inr ⟨hne, off, e⟩)))
    (fun k hk => (hX4 k hk).1) hS4 hbd (by omega) bSq.cell bLb.cell (by rw [hXd]; exact Or.inr (Or.inl rfl))
  rw [HL1.out] at hseq
  clear bF2 bE2 bF4 bE4 bSq bLb hcl3 bL3 hok1 hok2 hok3 hc hl2 hXd hm bL1 bC1
  gi_wp2
  refine range_pre rfl (enters_of Tryz.func186 (by kernel_rfl) rfl) hseq (fun h k => h.trans k) (Kp2.put (fun k hk => by have := (hX4 k hk).1; omega) (by omega)) (Below.refl _ _) (fun _ => rfl)
    (fun pre W => (∃ v', LH W bl (mI S p m fs pre.length).1 v') ∧ Boxed W w.heap.size PLT (ptr bl) ∧ Boxed W (w.heap.size + 1) 3 (.int .i64 ((mI S p m fs pre.length).2 : Int)) ∧ Tn bl w W ∧ W4.heap.size ≤ W.heap.size ∧ (∀ k, X k → k < W.heap.size ∧ ¬ own W bl k))
    (fun _ _ _ => False)
    (OwnB.and (OwnB.ex fun v' => lh_ownF bl (fun pre : List (Nat × En) => (mI S p m fs pre.length).1) v' _) (OwnB.and (OwnB.boxed _ _ _ (fun _ => ptr bl) (Or.inl (by omega))) (OwnB.and (OwnB.boxed _ _ _ (fun (pre : List (Nat × En)) => .int .i64 ((mI S p m fs pre.length).2 : Int)) (Or.inl (by omega))) (OwnB.and (tn_own bl w S v hS _ (by omega)) ?ownX))))
    (fun c s W W' row h _ _ => h)
    ⟨⟨v, hS4⟩, bL4, bC4, hS.tn b04, Nat.le_refl _, hX4⟩
    (fun x a' W => ∃ Bx c0 c1 vv, w.heap.size + 2 ≤ Bx ∧ W.heap[Bx]? = some (.cells #[.int .i64 x.2.t, .string x.2.d] EnT (0, 0)) ∧ W.heap[bl]? = some (.cells #[c0, c1, vv] LogT (0, 0)) ∧ blk vv ≠ some Bx ∧ a' = { tmps := #[ptr bl, .int .i64 (pv : Int), .int .i64 t, .slice a fs.length cap, ptr w.heap.size, undef, undef, undef, .int .i64 0, ptr (w.heap.size + 1), .int .i64 0, .func (.func 176) #[] #[ptr (W1.heap.size + 1), ptr W1.heap.size], .int .i64 0, .int .i64 x.1, ptr Bx, ptr bl, .int .i64 (pv : Int), .bool true, .bool false, ptr bl, .int .i64 (pv : Int), .int .i64 t, .int .i64 t, .bool false, .int .i64 (pv : Int), .int .i64 ((pv : Int) + 1), .slice a fs.length cap, .func (.func 176) #[] #[ptr (W1.heap.size + 1), ptr W1.heap.size], .int .i64 t, .func (.func 176) #[] #[ptr (W1.heap.size + 1), ptr W1.heap.size], .int .i64 0, .int .i64 0, .bool false, undef, ptr bl, .func (.func 176) #[] #[ptr (W1.heap.size + 1), ptr W1.heap.size], .func (.func 186) #[] #[ptr (W3.heap.size + 1), ptr W3.heap.size], .int .i64 x.1, ev x.2, undef, undef, undef, undef, undef, undef, undef, undef, undef, undef, undef, undef, undef], defers := [] })
    (fun x a' => ownFrom_ex fun Bx => ownFrom_ex fun c0 => ownFrom_ex fun c1 => ownFrom_ex fun vv => OwnFrom.and (ownFrom_pure _ (fun _ => w.heap.size + 2 ≤ Bx)) (OwnFrom.and (ownFrom_block _ Bx (fun _ => #[.int .i64 x.2.t, .string x.2.d]) EnT) (OwnFrom.and (ownFrom_block _ bl (fun _ => #[c0, c1, vv]) LogT) (ownFrom_pure _ (fun _ => blk vv ≠ some Bx ∧ a' = _)))))
    ?assign ?body ?done ?stop
  case ownX =>
    intro s W W' row ⟨hz, h⟩ hg hr
    have hlt : bl < W4.heap.size := hS4.lt
    rw [own_same (hg.block bl (by omega) (fun e => by have := (hr bl e.symm).1; omega))]
    exact ⟨Nat.le_trans hz hg.size, fun k hk => ⟨Nat.lt_of_lt_of_le (h k hk).1 hg.size, (h k hk).2⟩⟩
  case assign =>
    rintro l' pre x W K ⟨⟨v', h1⟩, h2, h3, h4, h6, h5⟩ hK
    have hz3 := h3.lt
    dsimp only [nenc, ev]
    gi_wp2
    refine hK _ _ ((KeepsOthers.alloc W _).from _) (kp2_alloc (fun k hk => (h5 k hk).1) _) ⟨⟨v', h1.below ((Below.refl _ W).alloc (Nat.le_refl _) _)⟩, h2.alloc _, h3.alloc _, h4.trans (h1.tn ((Below.refl _ W).alloc (Nat.le_refl _) _)), by simp; omega, fun k hk => ?_⟩ ⟨W.heap.size, _, _, v', by omega, World.alloc_heap_new W _, (h1.below ((Below.refl _ W).alloc (Nat.le_refl _) _)).box, fun e => by have := h1.row.lt e; omega, rfl⟩
    rw [own_same (Below.heap_alloc W _ bl h1.lt)]
    exact ⟨by have := (h5 k hk).1; simp; omega, (h5 k hk).2⟩
  case body =>
    rintro l' pre x a' W hl' hpre ⟨⟨v', h1⟩, h2, h3, h4, h6, h5⟩ ⟨Bx, c0', c1', vv, hBx, hx, hbx, hvx, rfl⟩
    obtain ⟨hk, hpr, hxe⟩ := nmb_next hpre
    obtain ⟨s1, s2, s3, s4⟩ := mI_step S p m fs pre.length hmm1 hk
    obtain ⟨n, y, d⟩ := x
    have hmem : (n, (⟨y, d⟩ : En)) ∈ nmb (pv + 1) fs := by
      have e1 : nmb (pv + 1) fs = nmb (pv + 1) (fs.take m) ++ nmb (pv + 1 + m) (fs.drop m) := by
        conv => lhs; rw [← List.take_append_drop m fs, nmb_append]
        rw [List.length_take, Nat.min_eq_left hmm2]
      rw [e1]
      exact List.mem_append_right _ (hpre.subset (List.mem_append_right _ (List.mem_singleton.2 rfl)))
    obtain ⟨hd1, hd2⟩ := HLG.out _ hmem
    dsimp only at hd1 hd2 hx hxe
    obtain ⟨hn, he⟩ := Prod.mk.inj hxe
    rw [← he] at s4
    have hv : vv = v' := by
      rw [h1.box] at hbx
      simp at hbx
      exact hbx.2.2.symm
    subst hv
    obtain ⟨Sk, hSk⟩ : ∃ Sk, (mI S p m fs pre.length).1 = Sk := ⟨_, rfl⟩
    obtain ⟨ck, hck⟩ : ∃ ck, (mI S p m fs pre.length).2 = ck := ⟨_, rfl⟩
    have hck2 : ck ≤ 1048577 := by rw [← hck]; unfold mI; split <;> (dsimp only; omega)
    rw [hSk] at h1 s1 s2 s3 s4
    rw [hck] at h3 s4
    have hskl : Sk.b + Sk.es.length ≤ 1048577 := by
      rw [← hSk]; unfold mI; split
      · exact hbd
      · dsimp only; rw [List.length_append, List.length_take, List.length_take]; omega
    clear hSk hck hxe he hbx hpr
    have HCF := hide (cutFrom_any bl Sk vv (p + m + pre.length) (W.drewN 1) (h1.drewN 1) hskl s3 n (by omega))
    obtain ⟨gn, hgn⟩ : ∃ gn, Sk.es.length - (p + m + pre.length) = gn := ⟨_, rfl⟩
    rw [hgn] at HCF s4
    have hgn2 : gn ≤ 1048577 := by omega
    clear hgn
    obtain ⟨E2, hE2⟩ : ∃ E2, Sk.es.take (p + m + pre.length) = E2 := ⟨_, rfl⟩
    rw [hE2] at HCF s4
    have hE2l : E2.length ≤ 1048576 := by rw [← hE2, List.length_take]; omega
    clear hE2
    have nw : ∀ {b t : Nat} {u : Value}, Boxed W b t u → t ≠ LogT → t ≠ EnT → ¬ own W bl b := fun hb h1' h2' h => h1.notown hb h1' h2' h
    have nx : ¬ own W bl Bx := by
      rintro (e | e)
      · subst e; rw [h1.box] at hx; cases hx
      · rw [h1.lbk] at e; exact hvx e
    have hxl : Bx < W.heap.size := (Array.getElem?_eq_some_iff.1 hx).1
    have HFN := hide (show ∀ w2 v2, LH w2 bl ⟨Sk.b, Sk.bt, E2⟩ v2 → Tn bl (W.drewN 1) w2 → MF w W bl ⟨Sk.b, Sk.bt, E2⟩ v2 X (W4.heap.size + 2) W4.heap.size Bx ⟨y, d⟩ ((ck : Int) + (gn : Int)) ck w2 (w2.setCell ⟨w.heap.size + 1, 0, none⟩ (.int .i64 ((ck : Int) + (gn : Int)))) by
      intro w2 v2 g1 g2
      have g2' : Tn bl W w2 := ⟨⟨g2.only.os, g2.only.tape, g2.only.output, g2.only.size, g2.only.block⟩, g2.new⟩
      exact MF.mk' h1 g1 g2' h2 h3 hx nx h5 hXc h4)
    have HPT := hide (show ∀ A v2, LH A bl ⟨Sk.b, Sk.bt, E2⟩ v2 → Calls Tryz.prog 145 #[ptr bl, .agg #[.int .i64 y, .string d]] A fun r w' => r = .returned (.tuple #[]) ∧ (∃ v', LH w' bl ⟨Sk.b, Sk.bt, E2 ++ [⟨y, d⟩]⟩ v') ∧ Tn bl A w' from fun A v2 h => put_any bl _ v2 ⟨y, d⟩ (by show d.size ≤ _; omega) A h hE2l)
    have HEN := hide (show ∀ A W5 v2 v5 w2, MF w W bl ⟨Sk.b, Sk.bt, E2⟩ v2 X (W4.heap.size + 2) W4.heap.size Bx ⟨y, d⟩ ((ck : Int) + (gn : Int)) ck w2 A → LH W5 bl ⟨Sk.b, Sk.bt, E2 ++ [⟨y, d⟩]⟩ v5 → Tn bl A W5 →
        KeepsFrom W4.heap.size W W5 ∧ Kp2 X (W4.heap.size + 2) W W5 ∧ (∃ v', LH W5 bl (mI S p m fs (pre ++ [(n, (⟨y, d⟩ : En))]).length).1 v') ∧ Boxed W5 w.heap.size PLT (ptr bl) ∧ Boxed W5 (w.heap.size + 1) 3 (.int .i64 ((mI S p m fs (pre ++ [(n, (⟨y, d⟩ : En))]).length).2 : Int)) ∧ Tn bl w W5 ∧ W4.heap.size ≤ W5.heap.size ∧ (∀ k, X k → k < W5.heap.size ∧ ¬ own W5 bl k) by
      intro A W5 v2 v5 w2 hM g5 t5
      have hkk := tn_kp2 (Bk := W4.heap.size + 2) hM.a1 t5 hM.xx
      have hkf := (tn_kp2 (X := fun _ => False) (Bk := W4.heap.size) hM.a1 t5 (fun _ h => h.elim)).2.2
      rw [List.length_append, List.length_singleton, s4, ← s1, ← s2]
      refine ⟨hM.kf.trans hkf, hM.kp.trans hkk, ⟨v5, g5⟩, hkk.2.1 _ _ _ hM.a2 (by decide) (by decide) (by decide), ?_, hM.tn.trans t5, Nat.le_trans h6 (Nat.le_trans hM.sz t5.only.size), fun k hk => ⟨Nat.lt_of_lt_of_le (hM.xx k hk).1 t5.only.size, t5.nown (hM.xx k hk).1 (hM.xx k hk).2⟩⟩
      have e9 : ((ck + gn : Nat) : Int) = (ck : Int) + (gn : Int) := by omega
      rw [e9]
      exact (t5.only.block _ hM.a3.lt (fun h => hM.a1.notown hM.a3 (by decide) (by decide) h)).trans hM.a3)
    have c4 := h2.cell
    have c5 := h3.cell
    have i1 : (ck : Int) + (gn : Int) ≤ 4194304 := by omega
    have i2 : (0 : Int) ≤ (ck : Int) + (gn : Int) := by omega
    have hwr : IntKind.i64.wrap ((ck : Int) + (gn : Int)) = (ck : Int) + (gn : Int) := by rw [IntKind.wrap_i64]; omega
    dsimp only [ev]
    clear h1 h2 h3 h4 h5 h6 hx nx nw hpre hmem s1 s2 s3 s4 hseq hvx hn hk hd1 hd2 hskl hck2 hgn2 hE2l hxl hl4 hl own4 bL4 bC4 hS4 b04 b24 b4 b3 b2 b1 hab hap hX4 hS
    gi_wp2
    refine held_round (S := fun W' => W'.cell? ⟨w.heap.size, 0, none⟩ = some (ptr bl)) (by kernel_rfl) ?lo (by kernel_rfl) c4 (fun hHeld => ?_)
    case lo => rintro ⟨_, _, h⟩; exact h
    refine take_held (i := 1) (dst := some 40) (v := ?_) rfl (by kernel_rfl) (by kernel_rfl) (by kernel_rfl) (by kernel_rfl) (fun _ _ _ h => h) (Or.inl ⟨by kernel_rfl, ?_⟩) (by assumption) ?_
    rotate_left
    · intro w hSw; go_simp; try with_reducible rfl
    simp only [Act.put, List.setIfInBounds_toArray, List.set_cons_zero, List.set_cons_succ]
    refine take_held (i := 2) (dst := some 41) (v := ?_) rfl (by kernel_rfl) (by kernel_rfl) (by kernel_rfl) (by kernel_rfl) (fun _ _ _ h => h) (Or.inl ⟨by kernel_rfl, ?_⟩) (by assumption) ?_
    rotate_left
    · intro w hSw; go_simp; try with_reducible rfl
    simp only [Act.put, List.setIfInBounds_toArray, List.set_cons_zero, List.set_cons_succ]
    refine wpAnyH_ready (rs := [0, 3]) (by kernel_rfl) (by simp) ?_
    refine AllReadyH.cons rfl (fun K hK => ?_) (AllReadyH.cons rfl (fun K hK => ?_) AllReadyH.nil)
    · go_simp
      refine hK.out _ _ c4 (fun hHeld0 => ?_)
      clear hK K hHeld
      try simp only [Act.put, List.setIfInBounds_toArray, List.set_cons_zero, List.set_cons_succ]
      refine wpAnyH_ready (rs := [3]) (by kernel_rfl) (by simp) ?_
      refine AllReadyH.cons rfl (fun K hK => ?_) AllReadyH.nil
      go_simp
      go_at_call 144
      refine (HCF.out).mono ?_
      rintro e w2 ⟨rfl, ⟨v2, h2⟩, ht2⟩
      have HF2 := hide (HFN.out w2 v2 h2 ht2)
      have k2 := HF2.out.k2
      have k3 := HF2.out.k3
      have f3 := HF2.out.f3
      refine hK.out _ _ k2 (fun hHeld1 => ?_)
      clear hK K
      try simp only [Act.put, List.setIfInBounds_toArray, List.set_cons_zero, List.set_cons_succ]
      refine take_held (i := 4) (dst := some 43) (v := ?_) rfl (by kernel_rfl) (by kernel_rfl) (by kernel_rfl) (by kernel_rfl) (fun _ _ _ h => h) (Or.inl ⟨by kernel_rfl, ?_⟩) (by assumption) ?_
      rotate_left
      · intro w hSw; go_simp; try with_reducible rfl
      simp only [Act.put, List.setIfInBounds_toArray, List.set_cons_zero, List.set_cons_succ]
      refine wpAnyH_ready (rs := [5]) (by kernel_rfl) (by simp) ?_
      refine AllReadyH.cons rfl (fun K hK => ?_) AllReadyH.nil
      go_simp
      refine hK.out _ _ HF2.out.a2.cell (fun hHeld3 => ?_)
      clear hK K
      refine wpAnyH_done (by kernel_rfl) ?_ _
      obtain ⟨A, hA⟩ : ∃ A, w2.setCell ⟨w.heap.size + 1, 0, none⟩ (.int .i64 ((ck : Int) + (gn : Int))) = A := ⟨_, rfl⟩
      rw [hA] at HF2
      rw [hA]
      have ka := HF2.out.a2.cell
      have ke0 := HF2.out.e0
      have ke1 := HF2.out.e1
      clear hA k2 k3 f3 hHeld1 hHeld3
      gi_wp2
      refine ⟨trivial, (CallsIn.inRound l' (callsIn_wide.2 (HPT.out A v2 HF2.out.a1))).mono ?_⟩
      rintro e W5 ⟨rfl, ⟨v5, h5'⟩, ht5⟩
      gi_wp2
      exact HEN.out A W5 v2 v5 w2 HF2.out h5' ht5
    · go_simp
      go_at_call 144
      refine (HCF.out).mono ?_
      rintro e w2 ⟨rfl, ⟨v2, h2⟩, ht2⟩
      have HF2 := hide (HFN.out w2 v2 h2 ht2)
      have k2 := HF2.out.k2
      have k3 := HF2.out.k3
      have f3 := HF2.out.f3
      refine hK.out _ _ k2 (fun hHeld1 => ?_)
      clear hK K
      try simp only [Act.put, List.setIfInBounds_toArray, List.set_cons_zero, List.set_cons_succ]
      refine wpAnyH_ready (rs := [0]) (by kernel_rfl) (by simp) ?_
      refine AllReadyH.cons rfl (fun K hK => ?_) AllReadyH.nil
      go_simp
      refine hK.out _ _ k2 (fun hHeld0 => ?_)
      clear hK K
      try simp only [Act.put, List.setIfInBounds_toArray, List.set_cons_zero, List.set_cons_succ]
      refine take_held (i := 4) (dst := some 43) (v := ?_) rfl (by kernel_rfl) (by kernel_rfl) (by kernel_rfl) (by kernel_rfl) (fun _ _ _ h => h) (Or.inl ⟨by kernel_rfl, ?_⟩) (by assumption) ?_
      rotate_left
      · intro w hSw; go_simp; try with_reducible rfl
      simp only [Act.put, List.setIfInBounds_toArray, List.set_cons_zero, List.set_cons_succ]
      refine wpAnyH_ready (rs := [5]) (by kernel_rfl) (by simp) ?_
      refine AllReadyH.cons rfl (fun K hK => ?_) AllReadyH.nil
      go_simp
      refine hK.out _ _ HF2.out.a2.cell (fun hHeld3 => ?_)
      clear hK K
      refine wpAnyH_done (by kernel_rfl) ?_ _
      obtain ⟨A, hA⟩ : ∃ A, w2.setCell ⟨w.heap.size + 1, 0, none⟩ (.int .i64 ((ck : Int) + (gn : Int))) = A := ⟨_, rfl⟩
      rw [hA] at HF2
      rw [hA]
      have ka := HF2.out.a2.cell
      have ke0 := HF2.out.e0
      have ke1 := HF2.out.e1
      clear hA k2 k3 f3 hHeld1 hHeld3
      gi_wp2
      refine ⟨trivial, (CallsIn.inRound l' (callsIn_wide.2 (HPT.out A v2 HF2.out.a1))).mono ?_⟩
      rintro e W5 ⟨rfl, ⟨v5, h5'⟩, ht5⟩
      gi_wp2
      exact HEN.out A W5 v2 v5 w2 HF2.out h5' ht5
  case done =>
    rintro D W hD ⟨⟨v', h1⟩, h2, h3, h4, h6, h5⟩ hK
    have hLl : (nmb (pv + 1 + m) (fs.drop m)).length = fs.length - m := by rw [nmb_length, List.length_drop]
    rw [hLl, ← HMR.out] at h1 h3
    obtain ⟨R, hR⟩ : ∃ R, S.mrg p fs = R := ⟨_, rfl⟩
    rw [hR] at h1 h3
    have HR := hide hR
    clear hR
    obtain ⟨S', cc⟩ := R
    dsimp only at h1 h3
    have c3 := h3.cell
    have f3 := h3.frozen
    have i1 : (pv : Int) + (fs.length : Int) ≤ 4611686018427387904 := by omega
    clear hseq hLl
    have hwr : IntKind.i64.wrap ((pv : Int) + (fs.length : Int)) = (pv : Int) + (fs.length : Int) := by rw [IntKind.wrap_i64]; omega
    have HK := hide hK
    have H1 := hide h1
    have H3 := hide h3
    have H4 := hide h4
    clear hK h1 h2 h3 h4 h5 h6 hl4 hl own4 bL4 bC4 hS4 b04 b24 b4 b3 b2 b1 hab hap hX4
    gi_wp2
    refine wpIn_wide.2 ?_
    refine wp_region_noPanic ?_
    go_region_law (fail)
    all_goals refine NoPanic.normal ?_
    all_goals gi_wp2
    all_goals simp only [Act.put, List.setIfInBounds_toArray]
    all_goals
      have hK' : ((W.setCell ⟨w.heap.size + 1, 0, none⟩ (.int .i64 (cc : Int))).drew).heap[D]? = some (.deferred (some [])) := (KeepsOthers.setCell W ⟨w.heap.size + 1, 0, none⟩ (.int .i64 (cc : Int))).same D _ HK.out rfl
      refine ⟨by simp, .inl ⟨_, _, rfl, run_takeDeferred hK', ?_⟩⟩
      have k5 := cell_kept (show ((W.setCell ⟨w.heap.size + 1, 0, none⟩ (.int .i64 (cc : Int))).drew).cell? ⟨w.heap.size + 1, 0, none⟩ = some (.int .i64 (cc : Int)) from (H3.out.set (.int .i64 (cc : Int))).cell) (grownBy_putObj' (W.setCell ⟨w.heap.size + 1, 0, none⟩ (.int .i64 (cc : Int))).drew D (.deferred none)) (fun r e => by cases e; exact ⟨_, hK', rfl⟩)
      have hfin : ∀ k, k ≠ w.heap.size + 1 → k ≠ D → (((W.setCell ⟨w.heap.size + 1, 0, none⟩ (.int .i64 (cc : Int))).drew).putObj D (.deferred none)).heap[k]? = W.heap[k]? := fun k h1 h2 => (World.putObj_heap_other h2).trans (Below.heap_setCell W ⟨w.heap.size + 1, 0, none⟩ (.int .i64 (cc : Int)) k h1)
      have hDw : w.heap.size + 2 ≤ D := by omega
      have hnD : ∀ k, own W bl k → k ≠ w.heap.size + 1 ∧ k ≠ D := by
        intro k hk
        refine ⟨fun e => H1.out.notown H3.out (by decide) (by decide) (e ▸ hk), fun e => ?_⟩
        subst e
        rcases hk with rfl | hk
        · have := H1.out.box; rw [HK.out] at this; cases this
        · rw [H1.out.lbk] at hk
          rcases H1.out.row with ⟨e1, _⟩ | ⟨g, o, cp, cur, e1, hg', _⟩
          · rw [e1] at hk; cases hk
          · rw [e1] at hk; cases hk; have := HK.out; rw [hg'] at this; cases this
      have hbl := hnD bl (Or.inl rfl)
      refine ⟨.tuple #[.int .i64 ((pv : Int) + (fs.length : Int)), .int .i64 (cc : Int), .int .i64 0], ?_, ?_, ⟨v', ?_⟩, ?_⟩
      · simp [results, Tryz.f94, go_sem, k5]
      · rw [HR.out]
        have e9 : ((pv + fs.length : Nat) : Int) = (pv : Int) + (fs.length : Int) := by omega
        rw [e9]
      · rw [HR.out]; exact H1.out.stay fun k hk => hfin k (hnD k hk).1 (hnD k hk).2
      · exact ⟨⟨H4.out.only.os, H4.out.only.tape, H4.out.only.output, by have := H4.out.only.size; simpa using this, fun k hk hn => (hfin k (by omega) (by omega)).trans (H4.out.only.block k hk hn)⟩, fun k hk => H4.out.new k (by rw [← lb_same (hfin bl hbl.1 hbl.2)]; exact hk)⟩
  case stop =>
    rintro D c pre W hD hpre h
    exact h.elim

end Go.Proofs.YtmpahgklcabihaaGreat.Rl
