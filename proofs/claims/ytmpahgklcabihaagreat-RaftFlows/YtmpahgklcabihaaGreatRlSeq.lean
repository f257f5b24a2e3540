/- Walks over rlog: numbered, its iterator. -/
import Derived.Test.YtmpahgklcabihaaGreatRlMut
import Derived.Test.YtmpahgklcabihaaGreatGRange
namespace Go.Proofs.YtmpahgklcabihaaGreat.Rl
open Go.RowKit Go.Joins Gk

attribute [local go_sem] Oper.semAt_some

abbrev ev (e : En) : Value := .agg #[.int .i64 e.t, .string e.d]
abbrev nenc (x : Nat × En) : Array Value := #[.int .i64 x.1, ev x.2]
/-- entries with their numbers -/
def nmb (f : Nat) : List En → List (Nat × En)
  | [] => []
  | e :: r => (f, e) :: nmb (f + 1) r
theorem nmb_append (f : Nat) (a b : List En) : nmb f (a ++ b) = nmb f a ++ nmb (f + a.length) b := by
  induction a generalizing f with
  | nil => rfl
  | cons x r ih => simp only [List.cons_append, nmb, ih, List.length_cons]; rw [show f + 1 + r.length = f + (r.length + 1) by omega]
theorem nmb_succ (f : Nat) (es : List En) (k : Nat) (h : k < es.length) : nmb f (es.take (k + 1)) = nmb f (es.take k) ++ [(f + k, es[k])] := by
  rw [List.take_succ_eq_append_getElem h, nmb_append, List.length_take, Nat.min_eq_left (by omega)]; rfl
theorem nmb_pre (f : Nat) (es : List En) (k : Nat) : nmb f (es.take k) <+: nmb f es := by
  conv => rhs; rw [← List.take_append_drop k es, nmb_append]
  exact List.prefix_append _ _
theorem nmb_length (f : Nat) (es : List En) : (nmb f es).length = es.length := by
  induction es generalizing f with
  | nil => rfl
  | cons x r ih => simp [nmb, ih]
theorem nmb_at (f : Nat) (es : List En) (k : Nat) (h : k < es.length) : (nmb f es)[k]'(by rw [nmb_length]; exact h) = (f + k, es[k]) := by
  induction es generalizing f k with
  | nil => simp at h
  | cons x r ih =>
    cases k with
    | zero => rfl
    | succ k => simp only [nmb, List.getElem_cons_succ]; rw [ih (f + 1) k (by simpa using h)]; congr 1; omega
/-- what comes next, told by what has come -/
theorem nmb_next {f : Nat} {es : List En} {pre : List (Nat × En)} {x : Nat × En} (h : pre ++ [x] <+: nmb f es) : ∃ hk : pre.length < es.length, pre = nmb f (es.take pre.length) ∧ x = (f + pre.length, es[pre.length]) := by
  have hl := h.length_le
  rw [nmb_length, List.length_append, List.length_singleton] at hl
  have hk : pre.length < es.length := by omega
  have h2 : nmb f (es.take (pre.length + 1)) <+: nmb f es := nmb_pre f es _
  have e1 : pre ++ [x] = nmb f (es.take (pre.length + 1)) := by
    rw [List.prefix_iff_eq_take] at h h2
    rw [h, h2, nmb_length, List.length_append, List.length_singleton, List.length_take, Nat.min_eq_left (by omega)]
  rw [nmb_succ f es _ hk] at e1
  obtain ⟨e2, e3⟩ := List.append_inj' e1 rfl
  exact ⟨hk, e2, by simpa using e3⟩

/-- these blocks stay -/
def Kpt (X : Nat → Prop) (W W' : World) : Prop := W.heap.size ≤ W'.heap.size ∧ ∀ k, X k → W'.heap[k]? = W.heap[k]?
theorem Kpt.refl (X : Nat → Prop) (W : World) : Kpt X W W := ⟨Nat.le_refl _, fun _ _ => rfl⟩
theorem Kpt.trans {X : Nat → Prop} {a b c : World} (h : Kpt X a b) (k : Kpt X b c) : Kpt X a c := ⟨Nat.le_trans h.1 k.1, fun i hi => (k.2 i hi).trans (h.2 i hi)⟩
theorem Kpt.put {X : Nat → Prop} {l : Nat} (hX : ∀ k, X k → k < l) (W : World) (o o' : Obj) (_ : W.heap[l]? = some o) (_ : o.isCells = false) (_ : o.isWalk = false) : Kpt X W (W.putObj l o') :=
  ⟨(grownBy_putObj' W l o').size, fun k hk => World.putObj_heap_other (by have := hX k hk; omega)⟩
theorem Kpt.alloc {X : Nat → Prop} {W : World} (hX : ∀ k, X k → k < W.heap.size) (o : Obj) : Kpt X W (W.alloc o) := ⟨by simp, fun k hk => Below.heap_alloc W o k (hX k hk)⟩
theorem Kpt.grown {X : Nat → Prop} {W W' : World} {row : Option Nat} (hg : W.grownBy W' row) (hX : ∀ k, X k → k < W.heap.size ∧ some k ≠ row) : Kpt X W W' := ⟨hg.size, fun k hk => hg.block k (hX k hk).1 (hX k hk).2⟩
theorem Kpt.below {X : Nat → Prop} {W W' : World} {n : Nat} (hb : Below n W W') (hX : ∀ k, X k → k < n) : Kpt X W W' := ⟨hb.size, fun k hk => hb.block k (hX k hk)⟩
theorem Kpt.cell {X : Nat → Prop} {W W' : World} (h : Kpt X W W') {b o : Nat} (hb : X b) : W'.cell? ⟨b, o, none⟩ = W.cell? ⟨b, o, none⟩ := World.cell?_of_block (a := ⟨b, o, none⟩) (h.2 b hb)

set_option maxHeartbeats 1000000 in
theorem numbered_any (f : Nat) (a : Option Addr) (len cap : Nat) (w : World) :
    Calls Tryz.prog 130 #[.int .i64 f, .slice a len cap] w fun e w' => e = .returned (.func (.func 176) #[] #[ptr (w.heap.size + 1), ptr w.heap.size]) ∧ w' = (w.alloc (.cells #[.int .i64 f] 3)).alloc (.cells #[.slice a len cap] EnsT) := by
  go_enter Tryz.func130, Tryz.ntmps130
  go_wp2
  go_ret
  exact ⟨rfl, rfl⟩

set_option maxRecDepth 100000 in
set_option maxHeartbeats 4000000 in
theorem num1_in (l B1 B2 cap f : Nat) (a : Option Addr) (es : List En) (X : Nat → Prop) (W : World) (hl : Lies W eenc a es) (hf : f + es.length ≤ 4611686018427387904)
    (hB1 : W.cell? ⟨B1, 0, none⟩ = some (.slice a es.length cap)) (hB2 : W.cell? ⟨B2, 0, none⟩ = some (.int .i64 f)) (hX : ∀ k, X k → k < W.heap.size) (hX2 : X B2) (hXa : es ≠ [] → ∀ b off, a = some ⟨b, off, none⟩ → X b)
    (J Jx : List (Nat × En) → World → Prop) (hA : OwnB W.heap.size J) (hY : ∀ pre x W1, J pre W1 → pre ++ [x] <+: nmb f es → YieldAt Fence.wide 9 Tryz.prog l (nenc x) W1 (TolP (Kpt X) J Jx pre x W1)) (h0 : J [] W) :
    CallsIn Fence.wide 9 Tryz.prog 176 #[.func (.yield l) #[] #[], ptr B1, ptr B2] W fun e W' => (∃ v, e = .returned v) ∧ (J (nmb f es) W' ∨ ∃ pre, pre <+: nmb f es ∧ Jx pre W') := by
  refine callsIn_of_wp Tryz.func176 rfl trivial ?_ rfl
  simp only [Tryz.ntmps176, List.size_toArray, List.length_cons, List.length_nil, Nat.reduceAdd, Nat.reduceSub, Array.replicate_succ, Array.replicate_zero, List.push_toArray, List.append_toArray, List.nil_append, List.cons_append]
  gi_wp2
  gi_loopw [8] (fun i wr => ∃ k : Nat, k ≤ es.length ∧ i = .int .i64 k ∧ J (nmb f (es.take k)) wr ∧ Kpt X W wr) (fun i _ => es.length - (intOf i).toNat)
  case atStart => exact ⟨0, Nat.zero_le _, rfl, h0, Kpt.refl _ _⟩
  case round =>
    obtain ⟨k, hk, rfl, hJs, hnx⟩ := hrel
    by_cases hlt : k < es.length
    · obtain ⟨b, off, rfl, hbl, hc⟩ := hl.at eenc_len k hlt
      have hXb := hXa (fun e => by rw [e] at hlt; simp at hlt) b off rfl
      have c0 := (hnx.cell hXb).trans (hc 0 _ rfl)
      have c1 := (hnx.cell hXb).trans (hc 1 _ rfl)
      have cf := (hnx.cell hX2).trans hB2
      have hz2 : B2 < wr.heap.size := Nat.lt_of_lt_of_le (hX _ hX2) hnx.1
      have HP := hide (show nmb f (es.take k) ++ [(f + k, es[k])] <+: nmb f es by rw [← nmb_succ f es k hlt]; exact nmb_pre _ _ _)
      have HS := hide (nmb_succ f es k hlt)
      generalize es[k] = x at *
      obtain ⟨Wb, hWb⟩ : ∃ Wb, wr.alloc (.cells #[.int .i64 x.t, .string x.d] EnT) = Wb := ⟨_, rfl⟩
      have hJb : J (nmb f (es.take k)) Wb := by rw [← hWb]; exact hA _ _ _ none hJs (World.grownBy_alloc wr _ none) (fun r e => by cases e)
      have hKb : Kpt X W Wb := by rw [← hWb]; exact hnx.trans (Kpt.alloc (fun k hk => Nat.lt_of_lt_of_le (hX k hk) hnx.1) _)
      obtain ⟨fn, tmps, assign, body, hy, hR⟩ := yield_deep (m' := 8) (hY _ _ Wb hJb HP.out)
      have e1 : ((f + k : Nat) : Int) = (f : Int) + (k : Int) := by omega
      have i1 : (k : Int) < (es.length : Int) := by omega
      have i2 : (0 : Int) ≤ (k : Int) := by omega
      have i3 : (f : Int) + (k : Int) ≤ 4611686018427387904 := by omega
      rw [← hWb] at hy hR
      dsimp only [nenc, ev] at hy
      rw [e1] at hy
      rw [Nat.add_zero] at c0
      clear hc hl hWb hJs
      gi_wp2
      refine hR.mono ?_
      rintro e W3 (⟨rfl, hJ3, hk3⟩ | ⟨rfl, hJx3, _⟩)
      · gi_wp2
        go_roundw
        case rel => exact ⟨k + 1, by omega, by simp, by rw [HS.out]; exact hJ3, hnx.trans ((Kpt.alloc (fun k hk => Nat.lt_of_lt_of_le (hX k hk) hnx.1) _).trans hk3)⟩
        case measure => simp [intOf]; omega
      · gi_wp2
        refine bodyPost_ret (results_none rfl _ _ _) rfl ?_
        exact ⟨⟨_, rfl⟩, .inr ⟨_, HP.out, hJx3⟩⟩
    · have hke : k = es.length := by omega
      have HK := hide hke
      clear hke
      gi_wp2
      go_end0
      exact ⟨⟨_, rfl⟩, .inl (by rw [HK.out, List.take_length] at hJs; exact hJs)⟩

theorem num_seq (w : World) (Bk B1 B2 cap f : Nat) (a : Option Addr) (es : List En) (X : Nat → Prop) (hl : Lies w eenc a es) (hf : f + es.length ≤ 4611686018427387904) (hB1l : B1 < w.heap.size)
    (hB1 : w.cell? ⟨B1, 0, none⟩ = some (.slice a es.length cap)) (hB2 : w.cell? ⟨B2, 0, none⟩ = some (.int .i64 f)) (hX : ∀ k, X k → k < w.heap.size) (hX2 : X B2) (hXa : es ≠ [] → ∀ b off, a = some ⟨b, off, none⟩ → X b) :
    SeqP Tryz.prog 176 #[ptr B1, ptr B2] nenc (Kpt X) (nmb f es) Bk w :=
  fun l J Jx W hW _ hA _ hY h0 => num1_in l B1 B2 cap f a es X W (hl.below hW) hf ((hW.cell (p := ⟨B1, 0, none⟩) hB1l).trans hB1) ((hW.cell (p := ⟨B2, 0, none⟩) (hX _ hX2)).trans hB2) (fun k hk => Nat.lt_of_lt_of_le (hX k hk) hW.size) hX2 hXa J Jx hA hY h0

end Go.Proofs.YtmpahgklcabihaaGreat.Rl
