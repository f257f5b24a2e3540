/- Walks over the library: slices.Values, Collect, Sorted at numbers; rlog: hadByMost. Walks over rlog: downward, its iterator; firstOf. Walks over rlog: firstOf. Walks over rlog: Agreed. -/
import Derived.Test.YtmpahgklcabihaaGreatRlSeq
import Derived.Test.YtmpahgklcabihaaGreatGArgs
import Derived.Shelf.Sort.Plain
import Derived.Sort.OwnSortedInts
import Derived.Maps.AppendAt
import Derived.Shelf.Lay
import Derived.Ground.NamesProg
import Derived.BigRegionIn
import Derived.Test.YtmpahgklcabihaaGreatRlSlice
namespace Go.Proofs.YtmpahgklcabihaaGreat
open Go.Shelf
shelf_lay Lays.n189 Nm 189 at Tryz as Tryz.laysSort
end Go.Proofs.YtmpahgklcabihaaGreat
namespace Go.Proofs.YtmpahgklcabihaaGreat.Rl
open Go.RowKit Go.Joins Go.Sort Gk

attribute [local go_sem] Oper.semAt_some

abbrev IntT : TypeId := 3
abbrev IntsT : TypeId := 41
theorem int_info : (Tryz.prog.info? IntT).map (fun i => (i.zero, i.size, i.bytes)) = some (some (.int .i64 0), 1, 8) := by kernel_rfl
abbrev zenc (x : Int) : Array Value := #[.int .i64 x]

set_option maxHeartbeats 1000000 in
theorem values_any (a : Option Addr) (len cap : Nat) (w : World) :
    Calls Tryz.prog 198 #[.slice a len cap] w fun e w' => e = .returned (.func (.func 233) #[] #[ptr w.heap.size]) ∧ w' = w.alloc (.cells #[.slice a len cap] IntsT) := by
  go_enter Tryz.func198, Tryz.ntmps198
  go_wp2
  go_ret
  exact ⟨rfl, rfl⟩

set_option maxRecDepth 100000 in
set_option maxHeartbeats 4000000 in
theorem val1_in (l B1 cap : Nat) (a : Option Addr) (zs : List Int) (X : Nat → Prop) (W : World) (hl : Lies W ienc a zs) (hf : zs.length ≤ 4611686018427387904)
    (hB1 : W.cell? ⟨B1, 0, none⟩ = some (.slice a zs.length cap)) (hXa : zs ≠ [] → ∀ b off, a = some ⟨b, off, none⟩ → X b)
    (J Jx : List Int → World → Prop) (hY : ∀ pre x W1, J pre W1 → pre ++ [x] <+: zs → YieldAt Fence.wide 9 Tryz.prog l (zenc x) W1 (TolP (Kpt X) J Jx pre x W1)) (h0 : J [] W) :
    CallsIn Fence.wide 9 Tryz.prog 233 #[.func (.yield l) #[] #[], ptr B1] W fun e W' => (∃ v, e = .returned v) ∧ (J zs W' ∨ ∃ pre, pre <+: zs ∧ Jx pre W') := by
  refine callsIn_of_wp Tryz.func233 rfl trivial ?_ rfl
  simp only [Tryz.ntmps233, List.size_toArray, List.length_cons, List.length_nil, Nat.reduceAdd, Nat.reduceSub, Array.replicate_succ, Array.replicate_zero, List.push_toArray, List.append_toArray, List.nil_append, List.cons_append]
  gi_wp2
  gi_loopw [7] (fun i wr => ∃ k : Nat, k ≤ zs.length ∧ i = .int .i64 k ∧ J (zs.take k) wr ∧ Kpt X W wr) (fun i _ => zs.length - (intOf i).toNat)
  case atStart => exact ⟨0, Nat.zero_le _, rfl, h0, Kpt.refl _ _⟩
  case round =>
    obtain ⟨k, hk, rfl, hJs, hnx⟩ := hrel
    by_cases hlt : k < zs.length
    · obtain ⟨b, off, rfl, hbl, hc⟩ := hl.at ienc_len k hlt
      have hXb := hXa (fun e => by rw [e] at hlt; simp at hlt) b off rfl
      have c0 := (hnx.cell hXb).trans (hc 0 _ rfl)
      have HP := hide (show zs.take k ++ [zs[k]] <+: zs by rw [← List.take_succ_eq_append_getElem hlt]; exact List.take_prefix _ _)
      have HS := hide (List.take_succ_eq_append_getElem hlt)
      generalize zs[k] = x at *
      obtain ⟨fn, tmps, assign, body, hy, hR⟩ := yield_deep (m' := 8) (hY _ _ wr hJs HP.out)
      have i1 : (k : Int) < (zs.length : Int) := by omega
      have i2 : (0 : Int) ≤ (k : Int) := by omega
      rw [Nat.mul_one, Nat.add_zero] at c0
      dsimp only [zenc] at hy
      clear hc hl
      gi_wp2
      refine hR.mono ?_
      rintro e W3 (⟨rfl, hJ3, hk3⟩ | ⟨rfl, hJx3, _⟩)
      · gi_wp2
        go_roundw
        case rel => exact ⟨k + 1, by omega, by simp, by rw [HS.out]; exact hJ3, hnx.trans hk3⟩
        case measure => simp [intOf]; omega
      · gi_wp2
        refine bodyPost_ret (results_none rfl _ _ _) rfl ?_
        exact ⟨⟨_, rfl⟩, .inr ⟨_, HP.out, hJx3⟩⟩
    · have hke : k = zs.length := by omega
      have HK := hide hke
      clear hke
      gi_wp2
      go_end0
      exact ⟨⟨_, rfl⟩, .inl (by rw [HK.out, List.take_length] at hJs; exact hJs)⟩

theorem val_seq (w : World) (Bk B1 cap : Nat) (a : Option Addr) (zs : List Int) (X : Nat → Prop) (hl : Lies w ienc a zs) (hf : zs.length ≤ 4611686018427387904) (hB1l : B1 < w.heap.size)
    (hB1 : w.cell? ⟨B1, 0, none⟩ = some (.slice a zs.length cap)) (hXa : zs ≠ [] → ∀ b off, a = some ⟨b, off, none⟩ → X b) :
    SeqP Tryz.prog 233 #[ptr B1] zenc (Kpt X) zs Bk w :=
  fun l J Jx W hW _ _ _ hY h0 => val1_in l B1 cap a zs X W (hl.below hW) hf ((hW.cell (p := ⟨B1, 0, none⟩) hB1l).trans hB1) hXa J Jx hY h0

theorem row_own {β : Type} (f : β → List Int) (v : Value) (B n : Nat) : OwnB B (fun (s : β) W => W.ownsRow n IntT 1 v (f s).length (rc ienc (f s))) := fun s W W' row h hg hr =>
  own_stay h fun k hk => hg.block k (h.lt k hk).2 (fun e => by
    obtain ⟨_, o, ho, hc⟩ := hr k e.symm
    rcases h.2 with ⟨rfl, _⟩ | ⟨g, cap, cur, rfl, _, hg', _⟩
    · cases hk
    · cases hk; rw [hg'] at ho; cases ho; rcases hc with hc | ⟨_, hc⟩ <;> cases hc)

set_option maxRecDepth 100000 in
set_option maxHeartbeats 8000000 in
theorem appendSeq_in (gf : Nat) (lb : Array Value) (L : List Int) (X : Nat → Prop) (w : World) (eg : ∀ args w, (callFunc gf args).run Tryz.prog w = .ok (.enter gf args) w) (hseq : SeqP Tryz.prog gf lb zenc (Kpt X) L (w.heap.size + 3) w) (hX : ∀ k, X k → k < w.heap.size) (hLl : L.length * 8 ≤ 140737488355328) :
    CallsIn Fence.wide 9 Tryz.prog 246 #[.slice none 0 0, .func (.func gf) #[] lb] w fun e w' => ∃ v, e = .returned v ∧ w'.ownsRow w.heap.size IntT 1 v L.length (rc ienc L) ∧ Below w.heap.size w w' := by
  refine callsIn_of_wp_marks Tryz.func246 rfl trivial ?_ rfl
  simp only [Tryz.ntmps246, List.size_toArray, List.length_cons, List.length_nil, Nat.reduceAdd, Nat.reduceSub, Array.replicate_succ, Array.replicate_zero, List.push_toArray, List.append_toArray, List.nil_append, List.cons_append]
  gi_wp2
  obtain ⟨W0, hW0⟩ : ∃ W0, w.alloc (.cells #[.slice none 0 0] IntsT) = W0 := ⟨_, rfl⟩
  have hsz : W0.heap.size = w.heap.size + 1 := by rw [← hW0]; simp
  have bL : Boxed W0 w.heap.size IntsT (.slice none 0 0) := by rw [← hW0]; exact Boxed.new w _ _
  have hB0 : Below w.heap.size w W0 := by rw [← hW0]; exact (Below.refl _ w).alloc (Nat.le_refl _) _
  rw [hW0]
  clear hW0
  obtain ⟨i0, hi, hz0, hz1, hz2⟩ := info_parts int_info
  refine range_pre rfl eg (show SeqP Tryz.prog gf lb zenc (Kpt X) L (W0.heap.size + 2) w by rw [hsz]; exact hseq) (fun h k => h.trans k) (Kpt.put (fun k hk => by have := hX k hk; omega)) hB0 (fun _ => rfl)
    (fun pre W => (∃ v, Boxed W w.heap.size IntsT v ∧ W.ownsRow w.heap.size IntT 1 v pre.length (rc ienc pre)) ∧ Below w.heap.size w W)
    (fun _ _ _ => False)
    (OwnB.and (OwnB.ex fun v => OwnB.and (OwnB.boxed _ _ _ (fun _ => v) (Or.inl (by omega))) (row_own (fun pre : List Int => pre) v _ _)) (OwnB.below (Nat.le_refl _) (by omega)))
    (fun c s W W' row h _ _ => h)
    ⟨⟨_, bL, World.ownsRow_nil _ _ _ _⟩, hB0⟩
    (fun x a' _ => a' = { tmps := #[.slice none 0 0, .func (.func gf) #[] lb, ptr w.heap.size, undef, .slice none 0 0, .int .i64 x, .func (.func gf) #[] lb, .int .i64 x, undef, undef, undef, undef, undef], defers := [] })
    (fun x a' => ownFrom_pure _ (fun _ => a' = _))
    ?assign ?body ?done ?stop
  case assign =>
    rintro l' pre x W K hI hK
    dsimp only [zenc]
    gi_wp2
    exact hK _ _ (KeepsFrom.refl _ _) (Kpt.refl _ _) hI rfl
  case body =>
    rintro l' pre x a' W hl' hpre ⟨⟨v, hv, hrow⟩, hB⟩ rfl
    have hlen := hpre.length_le
    rw [List.length_append, List.length_singleton] at hlen
    have c1 := hv.cell
    have hzz := hB.size
    gi_wp2_with (gi_at_builtin; refine wpListIn_append_own _ rfl _ _ IntsT rfl w.heap.size IntT i0 (.int .i64 0) 1 8 Tryz.underlying41 hi hz0 hz1 hz2 rfl (by decide) _ _ _ rfl (hrow.alloc _) ⟨W.heap.size, 0, none⟩ 1 1 [.int .i64 x] rfl rfl (cell_one_new _ _ _) (by simp [Value.oneCell']) (by unfold maxLen; omega) (by omega) (by simp; omega) ?_; intro v' w1 hown' hgrow _; obtain ⟨g', cap', rfl⟩ := ownsRow_succ hown'; obtain ⟨hv1, hv2, hr2, hk2, hb2⟩ := hv.appended (by decide) hrow hB.size (Nat.le_refl _) hown' hgrow; have hc1 := hv1.cell; have hf1 := hv1.frozen)
    refine ⟨hk2.from _, Kpt.below hb2 hX, ⟨_, hv2, ?_⟩, hB.trans hb2⟩
    rw [List.length_append, rc_append, rc_one]; exact hr2
  case done =>
    rintro D W hD ⟨⟨v, hv, hrow⟩, hB⟩ hK
    obtain ⟨av, cv, rfl⟩ := own_slice hrow
    have c1 := hv.cell
    gi_wp2
    refine ⟨by simp, .inl ⟨_, _, rfl, run_takeDeferred hK, ?_⟩⟩
    exact ⟨_, results_tmp rfl _ _ _, .slice av L.length cv, rfl, ownsRow_putObj hrow _ hK rfl, hB.trans (belowK_b (w := w) (Nat.le_refl _) W D _ _ (by omega) hK rfl rfl)⟩
  case stop =>
    rintro D c pre W hD hpre h
    exact h.elim

/-- the number in the middle -/
def med (zs : List Int) : Int := ((zs.mergeSort fun x y => decide (x ≤ y))[(zs.length - 1) / 2]?).getD 0

theorem rc_ienc (l : List Int) : rc ienc l = l.map (Value.int .i64) := by
  induction l with
  | nil => rfl
  | cons x r ih => rw [rc_cons, ih]; rfl

set_option maxRecDepth 100000 in
set_option maxHeartbeats 2000000 in
theorem sorted_any (a : Option Addr) (cap : Nat) (zs : List Int) (hne : zs ≠ []) (w : World) (hl : Lies w ienc a zs) (hLl : zs.length * 8 ≤ 140737488355328) (B1 : Nat) (hB1 : B1 < w.heap.size) (hB1c : w.cell? ⟨B1, 0, none⟩ = some (.slice a zs.length cap)) :
    Calls Tryz.prog 197 #[.func (.func 233) #[] #[ptr B1]] w fun e w' => ∃ v, e = .returned v ∧ w'.ownsRow w.heap.size IntT 1 v zs.length (rc ienc (zs.mergeSort fun x y => decide (x ≤ y))) ∧ Below w.heap.size w w' := by
  have HA := hide (callsIn_wide.1 (appendSeq_in 233 #[ptr B1] zs (fun k => k < w.heap.size) w (enters_of Tryz.func233 (by kernel_rfl) rfl) (val_seq w _ B1 cap a zs _ hl (by omega) hB1 hB1c (fun hne b off e => by
    rcases hl with h0 | ⟨b', o', e', hlt, _⟩
    · exact absurd h0 hne
    · rw [e] at e'; cases e'; exact hlt)) (fun _ h => h) hLl))
  have HC : Hid (Calls Tryz.prog 231 #[.func (.func 233) #[] #[ptr B1]] w fun e w' => ∃ v, e = .returned v ∧ w'.ownsRow w.heap.size IntT 1 v zs.length (rc ienc zs) ∧ Below w.heap.size w w') := by
    refine hide ?_
    go_enter Tryz.func231, Tryz.ntmps231
    go_wp2_with (go_at_call 246; refine HA.out.mono ?_; rintro e w1 ⟨v1, rfl, hr1, hb1⟩)
    go_ret
    exact ⟨v1, rfl, hr1, hb1⟩
  clear HA hl
  have hpos : 0 < zs.length := List.length_pos_iff.2 hne
  go_enter Tryz.func197, Tryz.ntmps197
  go_wp2_with (go_at_call 231; refine HC.out.mono ?_; rintro e w1 ⟨v1, rfl, hr1, hb1⟩)
  obtain ⟨g, cap2, cur, rfl, hg, h1, h2, h3, h4⟩ := own_form hr1 hpos
  have hgb : w.heap.size ≤ g := by rcases hr1.2 with ⟨e, _⟩ | ⟨g', c', cur', e, hb, _⟩ <;> cases e; exact hb
  have hh : Holds (Value.int .i64) w1 g 0 zs.toArray := holds_of_blockI hg (by rw [Nat.mul_one] at h4; rw [h4, rc_ienc])
  have hS := Any.slices_Sort_int Tryz.laysSort g 0 cap2 zs w1 hh (Array.getElem?_eq_some_iff.1 hg).1 (by omega)
  go_wp2_with (go_at_call 232; refine hS.mono ?_; rintro e w2 ⟨rfl, n, os, rfl⟩)
  have hr2 := ownsRow_sortedI (n := n) (os := os) (base := w.heap.size) (ss := zs) (ts := zs.mergeSort fun x y => decide (x ≤ y)) (by simp) hgb hg h1 h2 (by rw [h3, Nat.mul_one])
  have hg2 := grownBy_sortedI (w := w1) (g := g) (n := n) (os := os) (zs.mergeSort fun x y => decide (x ≤ y)).toArray
  go_ret
  exact ⟨_, rfl, by rw [rc_ienc]; exact hr2, hb1.grown hg2 hb1.size fun k e => by cases e; exact hgb⟩

set_option maxRecDepth 100000 in
set_option maxHeartbeats 2000000 in
theorem hadByMost_any (a : Option Addr) (cap : Nat) (zs : List Int) (hne : zs ≠ []) (w : World) (hl : Lies w ienc a zs) (hLl : zs.length * 8 ≤ 140737488355328) :
    Calls Tryz.prog 164 #[.slice a zs.length cap] w fun e w' => e = .returned (.int .i64 (med zs)) ∧ Below w.heap.size w w' := by
  have hb0 : Below w.heap.size w (w.alloc (.cells #[.slice a zs.length cap] IntsT)) := (Below.refl _ w).alloc (Nat.le_refl _) _
  have HS := hide (sorted_any a cap zs hne (w.alloc (.cells #[.slice a zs.length cap] IntsT)) (hl.below hb0) hLl w.heap.size (by simp) (Boxed.new w IntsT (.slice a zs.length cap)).cell)
  have HV := hide (values_any a zs.length cap w)
  have hpos : 0 < zs.length := List.length_pos_iff.2 hne
  have hk : (zs.length - 1) / 2 < (zs.mergeSort fun x y => decide (x ≤ y)).length := by rw [List.length_mergeSort]; omega
  have HM := hide (show med zs = ((zs.mergeSort fun x y => decide (x ≤ y))[(zs.length - 1) / 2]?).getD 0 from rfl)
  have hlm : (zs.mergeSort fun x y => decide (x ≤ y)).length = zs.length := List.length_mergeSort _
  generalize zs.mergeSort (fun x y => decide (x ≤ y)) = ms at *
  generalize hkk : (zs.length - 1) / 2 = k at HM hk
  have i1 : ((zs.length : Int) - 1).tdiv 2 = (k : Int) := by
    rw [Int.tdiv_eq_ediv_of_nonneg (by omega)]; omega
  have i2 : (k : Int) < (zs.length : Int) := by omega
  have i3 : (0 : Int) ≤ (k : Int) := by omega
  have i4 : (zs.length : Int) ≤ 140737488355328 := by omega
  have i5 : (0 : Int) ≤ (zs.length : Int) - 1 := by omega
  clear hkk hl
  go_enter Tryz.func164, Tryz.ntmps164
  have HCL := hide (show ∀ (w2 : World) (g cap2 : Nat) (cur : Array Value), w2.heap[g]? = some (.cells cur IntT (0, 0)) → cur.toList.take (zs.length * 1) = rc ienc ms → w2.cell? ⟨g, k, none⟩ = some (.int .i64 ms[k]) by
    intro w2 g cap2 cur hg h4
    rw [cell_of_block hg]
    rw [rc_ienc, Nat.mul_one] at h4
    have h5 : (cur.toList.take zs.length)[k]? = some (.int .i64 ms[k]) := by rw [h4]; simp [hk]
    rw [List.getElem?_take, if_pos (by omega)] at h5
    simpa using h5)
  clear hlm
  go_wp2_with (first | (go_at_call 198; refine HV.out.mono ?_; rintro e w1 ⟨rfl, rfl⟩) | (go_at_call 197; refine HS.out.mono ?_; rintro e w2 ⟨v2, rfl, hr2, hb2⟩; obtain ⟨g, cap2, cur, rfl, hg, h1, h2, h3, h4⟩ := own_form hr2 hpos; have hcell := HCL.out w2 g cap2 cur hg h4; clear h4 h3 hg))
  go_ret
  exact ⟨by rw [HM.out, List.getElem?_eq_getElem hk]; rfl, hb0.trans (hb2.mono (by simp))⟩

end Go.Proofs.YtmpahgklcabihaaGreat.Rl

namespace Go.Proofs.YtmpahgklcabihaaGreat.Rl
open Go.RowKit Go.Joins Gk

attribute [local go_sem] Oper.semAt_some

/-- so many entries, from a number down -/
def dwn (S : Lo) : Nat → Nat → List (Nat × En)
  | _, 0 => []
  | n, k + 1 => (n, (S.es[n - S.b - 1]?).getD ⟨0, ⟨#[]⟩⟩) :: dwn S (n - 1) k
/-- an operation that yields its value in whatever world, taken first -/
theorem take_wide {P : Program} {ops : Array Oper} {Q : Exit → Act → World → Prop} {md : Region.Mode} {n i : Nat} {oi : Oper} {dst : Option Tmp} {v : Value} {fuel : Nat} {listed : Array Bool} {a : Act} {w : World} (hi : ops[i]? = some oi) (hd0 : (ops[i]?).bind Oper.dst = dst)
    (hs : Region.noSelect ops = true) (hf : Region.free md ops listed i = true) (hr : (Region.ready md ops listed).contains i = true)
    (hQ : ∀ c a w, Q (.panic c) (a.put dst v) w → Q (.panic c) a w) (hy : Yields P ops oi v a) (hab : ∀ w, oi.about P w a.eval = none)
    (h : wpAnyIn Fence.wide n P md ops Q fuel (listed.setIfInBounds i true) (a.put dst v) w) : wpAnyIn Fence.wide n P md ops Q (fuel + 1) listed a w := by
  have hd : oi.dst = dst := by rw [hi] at hd0; exact hd0
  subst hd
  exact wpAnyIn_take rfl hi hs hf hr hQ ⟨hy, hab⟩ h
theorem dwn_snoc (S : Lo) : ∀ (k n : Nat), dwn S n (k + 1) = dwn S n k ++ [(n - k, (S.es[n - k - S.b - 1]?).getD ⟨0, ⟨#[]⟩⟩)]
  | 0, n => rfl
  | k + 1, n => by
    rw [dwn, dwn_snoc S k (n - 1), dwn, List.cons_append, show n - 1 - k = n - (k + 1) by omega]
theorem dwn_pre (S : Lo) (n : Nat) : ∀ (k c : Nat), k ≤ c → dwn S n k <+: dwn S n c
  | k, c, h => by
    induction c with
    | zero => rw [show k = 0 by omega]; exact List.prefix_refl _
    | succ c ih =>
      rcases Nat.lt_or_ge k (c + 1) with h1 | h1
      · exact (ih (by omega)).trans (by rw [dwn_snoc]; exact List.prefix_append _ _)
      · rw [show k = c + 1 by omega]; exact List.prefix_refl _

set_option maxHeartbeats 1000000 in
theorem downward_any (bl : Nat) (top floor : Int) (w : World) :
    Calls Tryz.prog 166 #[ptr bl, .int .i64 top, .int .i64 floor] w fun e w' => e = .returned (.func (.func 199) #[] #[ptr (w.heap.size + 1), ptr (w.heap.size + 1 + 1), ptr w.heap.size]) ∧ w' = ((w.alloc (.cells #[ptr bl] 79)).alloc (.cells #[.int .i64 top] 3)).alloc (.cells #[.int .i64 floor] 3) := by
  go_enter Tryz.func166, Tryz.ntmps166
  go_wp2
  go_ret
  exact ⟨rfl, rfl⟩

set_option maxRecDepth 100000 in
set_option maxHeartbeats 8000000 in
theorem dwn1_in (l B1 B2 B3 bl : Nat) (S : Lo) (v : Value) (n c : Nat) (floor : Int) (W w0 : World) (hw0 : Below w0.heap.size w0 W) (hS : LH w0 bl S v) (hbd : S.b + S.es.length ≤ 1048577) (h3l : B3 < w0.heap.size) (h2l : B2 < w0.heap.size)
    (hB1 : W.cell? ⟨B1, 0, none⟩ = some (.int .i64 ((n : Int)))) (hB2 : w0.cell? ⟨B2, 0, none⟩ = some (.int .i64 floor)) (hB3 : w0.cell? ⟨B3, 0, none⟩ = some (ptr bl)) (hc : (n : Int) - (c : Int) = floor) (hn : n ≤ S.last) (hcb : S.b ≤ n - c) (hcn : c ≤ n)
    (J Jx : List (Nat × En) → World → Prop) (hY : ∀ pre x W1, J pre W1 → pre ++ [x] <+: dwn S n c → YieldAt Fence.wide 9 Tryz.prog l (nenc x) W1 (TolP (Kpt fun k => k < w0.heap.size) J Jx pre x W1)) (hA : OwnB W.heap.size J) (h0 : J [] W) :
    CallsIn Fence.wide 9 Tryz.prog 199 #[.func (.yield l) #[] #[], ptr B1, ptr B2, ptr B3] W fun e W' => (∃ v, e = .returned v) ∧ (J (dwn S n c) W' ∨ ∃ pre, pre <+: dwn S n c ∧ Jx pre W') := by
  refine callsIn_of_wp Tryz.func199 rfl trivial ?_ rfl
  simp only [Tryz.ntmps199, List.size_toArray, List.length_cons, List.length_nil, Nat.reduceAdd, Nat.reduceSub, Array.replicate_succ, Array.replicate_zero, List.push_toArray, List.append_toArray, List.nil_append, List.cons_append]
  gi_wp2
  gi_loopw [5] (fun i wr => ∃ k : Nat, k ≤ c ∧ i = .int .i64 ((n : Int) - (k : Int)) ∧ J (dwn S n k) wr ∧ Kpt (fun k => k < w0.heap.size) w0 wr ∧ W.heap.size ≤ wr.heap.size) (fun i _ => (intOf i - floor).toNat)
  case atStart => exact ⟨0, Nat.zero_le _, by simp, h0, Kpt.below hw0 (fun _ h => h), Nat.le_refl _⟩
  case round =>
    obtain ⟨k, hk, rfl, hJs, hnx, hzr⟩ := hrel
    have HL : LH wr bl S v := hS.stay fun j hj => hnx.2 j (hS.ownlt hj)
    have c0 := HL.c0
    have c2 := HL.c2
    have cf := (hnx.cell (o := 0) h2l).trans hB2
    have cl := (hnx.cell (o := 0) h3l).trans hB3
    by_cases hlt : k < c
    · obtain ⟨m, hm⟩ : ∃ m, n - k = m := ⟨_, rfl⟩
      have hml : m - S.b - 1 < S.es.length := by unfold Lo.last at hn; omega
      obtain ⟨j, hj⟩ : ∃ j, m - S.b - 1 = j := ⟨_, rfl⟩
      rw [hj] at hml
      have hsn := dwn_snoc S k n
      rw [hm, hj, List.getElem?_eq_getElem hml] at hsn
      have HP := hide (show dwn S n k ++ [(m, S.es[j])] <+: dwn S n c by
        have := dwn_pre S n (k + 1) c hlt
        rw [hsn] at this; exact this)
      have HSN := hide (show dwn S n (k + 1) = dwn S n k ++ [(m, S.es[j])] from hsn)
      clear hsn
      rcases HL.row with ⟨_, h0⟩ | ⟨g, o, cap, cur, rfl, hg, h1, h2, h3, h4⟩
      · rw [h0] at hml; simp at hml
      have hc0 : wr.cell? ⟨g, o + j * 2, none⟩ = some (.int .i64 S.es[j].t) := by rw [cell_of_block hg]; exact h4 _ _ (rc_at eenc_len S.es j hml 0 (by decide))
      have hc1 : wr.cell? ⟨g, o + j * 2 + 1, none⟩ = some (.string S.es[j].d) := by rw [cell_of_block hg, Nat.add_assoc]; exact h4 _ _ (rc_at eenc_len S.es j hml 1 (by decide))
      generalize S.es[j] = x at *
      have hJd : J (dwn S n k) wr.drew := hA _ _ _ none hJs (grown_drewN wr 1 _) (fun r e => by cases e)
      obtain ⟨fn, tmps, assign, body, hy, hR⟩ := yield_deep (m' := 8) (hY _ _ wr.drew hJd HP.out)
      have e1 : (n : Int) - (k : Int) = (m : Int) := by omega
      have e2 : (m : Int) - (S.b : Int) = (j : Int) + 1 := by omega
      have e3 : (j : Int) + 1 - 1 = (j : Int) := by omega
      have i1 : (j : Int) < (S.es.length : Int) := by omega
      have i2 : (0 : Int) ≤ (j : Int) := by omega
      have i3 : (j : Int) ≤ 1048577 := by omega
      have i4 : floor < (m : Int) := by omega
      have i5 : (m : Int) ≤ 1048577 := by unfold Lo.last at hn; omega
      have i6 : (0 : Int) ≤ (m : Int) := by omega
      have i7 : (j : Int) + 1 ≤ 1048577 := by omega
      have w1 : IntKind.i64.wrap ((j : Int) + 1) = (j : Int) + 1 := by rw [IntKind.wrap_i64]; omega
      have w2 : IntKind.i64.wrap (j : Int) = (j : Int) := by rw [IntKind.wrap_i64]; omega
      have w3 : IntKind.i64.wrap ((j : Int) + 1 - 1) = (j : Int) := by rw [IntKind.wrap_i64]; omega
      dsimp only [nenc, ev] at hy
      have E1 := hide e1
      rw [e1]
      have HCC := hide (And.intro hc (And.intro hcb hcn))
      have HNX := hide hnx
      have HZR := hide hzr
      clear h4 h3 h2 h1 hg HL hJs hm hj e1 hc hcb hcn hn hnx hzr hY hS hB1 hB2 hB3 hw0 hJd hml
      gi_wp2
      refine wpIn_region_any (by kernel_rfl) ?_
      refine take_wide (i := 0) (dst := some 12) (v := ?_) rfl (by kernel_rfl) (by kernel_rfl) (by kernel_rfl) (by kernel_rfl) (fun _ _ _ h => h) (Or.inl ⟨by kernel_rfl, ?_⟩) (fun _ => rfl) ?_
      rotate_left
      · intro w; go_simp; try with_reducible rfl
      simp only [Act.put, List.setIfInBounds_toArray, List.set_cons_zero, List.set_cons_succ]
      refine take_wide (i := 1) (dst := some 13) (v := ?_) rfl (by kernel_rfl) (by kernel_rfl) (by kernel_rfl) (by kernel_rfl) (fun _ _ _ h => h) (Or.inl ⟨by kernel_rfl, ?_⟩) (fun _ => rfl) ?_
      rotate_left
      · intro w; go_simp; try with_reducible rfl
      simp only [Act.put, List.setIfInBounds_toArray, List.set_cons_zero, List.set_cons_succ]
      refine take_wide (i := 6) (dst := some 18) (v := ?_) rfl (by kernel_rfl) (by kernel_rfl) (by kernel_rfl) (by kernel_rfl) (fun _ _ _ h => h) (Or.inl ⟨by kernel_rfl, ?_⟩) (fun _ => rfl) ?_
      rotate_left
      · intro w; go_simp; try with_reducible rfl
      simp only [Act.put, List.setIfInBounds_toArray, List.set_cons_zero, List.set_cons_succ]
      refine wpAnyIn_ready (rs := [2, 7]) (by kernel_rfl) (by simp) ?_
      refine AllReadyIn.cons rfl (fun K hK => ?_) (AllReadyIn.cons rfl (fun K hK => ?_) AllReadyIn.nil)
      · go_simp
        refine hK _ _ ?_
        clear hK K
        try simp only [Act.put, List.setIfInBounds_toArray, List.set_cons_zero, List.set_cons_succ]
        refine take_wide (i := 3) (dst := some 15) (v := ?_) rfl (by kernel_rfl) (by kernel_rfl) (by kernel_rfl) (by kernel_rfl) (fun _ _ _ h => h) (Or.inl ⟨by kernel_rfl, ?_⟩) (fun _ => rfl) ?_
        rotate_left
        · intro w; go_simp; try with_reducible rfl
        simp only [Act.put, List.setIfInBounds_toArray, List.set_cons_zero, List.set_cons_succ]
        refine take_wide (i := 4) (dst := some 16) (v := ?_) rfl (by kernel_rfl) (by kernel_rfl) (by kernel_rfl) (by kernel_rfl) (fun _ _ _ h => h) (Or.inl ⟨by kernel_rfl, ?_⟩) (fun _ => rfl) ?_
        rotate_left
        · intro w; go_simp; try with_reducible rfl
        simp only [Act.put, List.setIfInBounds_toArray, List.set_cons_zero, List.set_cons_succ]
        refine wpAnyIn_ready (rs := [5, 7]) (by kernel_rfl) (by simp) ?_
        refine AllReadyIn.cons rfl (fun K hK => ?_) (AllReadyIn.cons rfl (fun K hK => ?_) AllReadyIn.nil)
        · go_simp
          refine hK _ _ ?_
          clear hK K
          try simp only [Act.put, List.setIfInBounds_toArray, List.set_cons_zero, List.set_cons_succ]
          refine wpAnyIn_ready (rs := [7]) (by kernel_rfl) (by simp) ?_
          refine AllReadyIn.cons rfl (fun K hK => ?_) AllReadyIn.nil
          go_simp
          refine hK _ _ ?_
          clear hK K
          try simp only [Act.put, List.setIfInBounds_toArray, List.set_cons_zero, List.set_cons_succ]
          refine take_wide (i := 8) (dst := some 20) (v := ?_) rfl (by kernel_rfl) (by kernel_rfl) (by kernel_rfl) (by kernel_rfl) (fun _ _ _ h => h) (Or.inl ⟨by kernel_rfl, ?_⟩) (fun _ => rfl) ?_
          rotate_left
          · intro w; go_simp; try with_reducible rfl
          simp only [Act.put, List.setIfInBounds_toArray, List.set_cons_zero, List.set_cons_succ]
          refine take_wide (i := 9) (dst := some 21) (v := ?_) rfl (by kernel_rfl) (by kernel_rfl) (by kernel_rfl) (by kernel_rfl) (fun _ _ _ h => h) (Or.inl ⟨by kernel_rfl, ?_⟩) (fun _ => rfl) ?_
          rotate_left
          · intro w; go_simp; try with_reducible rfl
          simp only [Act.put, List.setIfInBounds_toArray, List.set_cons_zero, List.set_cons_succ]
          refine wpAnyIn_ready (rs := [10]) (by kernel_rfl) (by simp) ?_
          refine AllReadyIn.cons rfl (fun K hK => ?_) AllReadyIn.nil
          go_simp
          refine hK _ _ ?_
          clear hK K
          try simp only [Act.put, List.setIfInBounds_toArray, List.set_cons_zero, List.set_cons_succ]
          refine take_wide (i := 11) (dst := some 23) (v := ?_) rfl (by kernel_rfl) (by kernel_rfl) (by kernel_rfl) (by kernel_rfl) (fun _ _ _ h => h) (Or.inl ⟨by kernel_rfl, ?_⟩) (fun _ => rfl) ?_
          rotate_left
          · intro w; go_simp; try with_reducible rfl
          simp only [Act.put, List.setIfInBounds_toArray, List.set_cons_zero, List.set_cons_succ]
          refine take_wide (i := 12) (dst := some 24) (v := ?_) rfl (by kernel_rfl) (by kernel_rfl) (by kernel_rfl) (by kernel_rfl) (fun _ _ _ h => h) (Or.inl ⟨by kernel_rfl, ?_⟩) (fun _ => rfl) ?_
          rotate_left
          · intro w; go_simp; try with_reducible rfl
          simp only [Act.put, List.setIfInBounds_toArray, List.set_cons_zero, List.set_cons_succ]
          refine take_wide (i := 13) (dst := some 25) (v := ?_) rfl (by kernel_rfl) (by kernel_rfl) (by kernel_rfl) (by kernel_rfl) (fun _ _ _ h => h) (Or.inl ⟨by kernel_rfl, ?_⟩) (fun _ => rfl) ?_
          rotate_left
          · intro w; go_simp; try with_reducible rfl
          simp only [Act.put, List.setIfInBounds_toArray, List.set_cons_zero, List.set_cons_succ]
          refine wpAnyIn_ready (rs := [14]) (by kernel_rfl) (by simp) ?_
          refine AllReadyIn.cons rfl (fun K hK => ?_) AllReadyIn.nil
          go_simp
          refine hK _ _ ?_
          clear hK K
          try simp only [Act.put, List.setIfInBounds_toArray, List.set_cons_zero, List.set_cons_succ]
          refine wpAnyIn_ready (rs := [15]) (by kernel_rfl) (by simp) ?_
          refine AllReadyIn.cons rfl (fun K hK => ?_) AllReadyIn.nil
          go_simp
          refine hR.mono ?_
          rintro e W3 (⟨rfl, hJ3, hk3⟩ | ⟨rfl, hJx3, hk3⟩)
          · refine hK _ _ ?_
            clear hK K
            try simp only [Act.put, List.setIfInBounds_toArray, List.set_cons_zero, List.set_cons_succ]
            refine take_wide (i := 16) (dst := some 28) (v := ?_) rfl (by kernel_rfl) (by kernel_rfl) (by kernel_rfl) (by kernel_rfl) (fun _ _ _ h => h) (Or.inl ⟨by kernel_rfl, ?_⟩) (fun _ => rfl) ?_
            rotate_left
            · intro w; go_simp; try with_reducible rfl
            simp only [Act.put, List.setIfInBounds_toArray, List.set_cons_zero, List.set_cons_succ]
            refine wpAnyIn_done (by kernel_rfl) ?_ _
            gi_wp2
            go_roundw
            case rel => exact ⟨k + 1, by omega, by have := E1.out; congr 1; omega, by rw [HSN.out]; exact hJ3, HNX.out.trans ((Kpt.below (below_drewN (Below.refl _ wr) 1) (fun j hj => Nat.lt_of_lt_of_le hj HNX.out.1)).trans hk3), Nat.le_trans HZR.out hk3.1⟩
            case measure => have := E1.out; simp [intOf]; omega
          · refine hK _ _ ?_
            clear hK K
            try simp only [Act.put, List.setIfInBounds_toArray, List.set_cons_zero, List.set_cons_succ]
            refine take_wide (i := 16) (dst := some 28) (v := ?_) rfl (by kernel_rfl) (by kernel_rfl) (by kernel_rfl) (by kernel_rfl) (fun _ _ _ h => h) (Or.inl ⟨by kernel_rfl, ?_⟩) (fun _ => rfl) ?_
            rotate_left
            · intro w; go_simp; try with_reducible rfl
            simp only [Act.put, List.setIfInBounds_toArray, List.set_cons_zero, List.set_cons_succ]
            refine wpAnyIn_done (by kernel_rfl) ?_ _
            gi_wp2
            refine bodyPost_ret (results_none rfl _ _ _) rfl ?_
            exact ⟨⟨_, rfl⟩, .inr ⟨_, HP.out, hJx3⟩⟩
        · go_simp
          refine hK _ _ ?_
          clear hK K
          try simp only [Act.put, List.setIfInBounds_toArray, List.set_cons_zero, List.set_cons_succ]
          refine take_wide (i := 8) (dst := some 20) (v := ?_) rfl (by kernel_rfl) (by kernel_rfl) (by kernel_rfl) (by kernel_rfl) (fun _ _ _ h => h) (Or.inl ⟨by kernel_rfl, ?_⟩) (fun _ => rfl) ?_
          rotate_left
          · intro w; go_simp; try with_reducible rfl
          simp only [Act.put, List.setIfInBounds_toArray, List.set_cons_zero, List.set_cons_succ]
          refine take_wide (i := 9) (dst := some 21) (v := ?_) rfl (by kernel_rfl) (by kernel_rfl) (by kernel_rfl) (by kernel_rfl) (fun _ _ _ h => h) (Or.inl ⟨by kernel_rfl, ?_⟩) (fun _ => rfl) ?_
          rotate_left
          · intro w; go_simp; try with_reducible rfl
          simp only [Act.put, List.setIfInBounds_toArray, List.set_cons_zero, List.set_cons_succ]
          refine wpAnyIn_ready (rs := [5, 10]) (by kernel_rfl) (by simp) ?_
          refine AllReadyIn.cons rfl (fun K hK => ?_) (AllReadyIn.cons rfl (fun K hK => ?_) AllReadyIn.nil)
          · go_simp
            refine hK _ _ ?_
            clear hK K
            try simp only [Act.put, List.setIfInBounds_toArray, List.set_cons_zero, List.set_cons_succ]
            refine wpAnyIn_ready (rs := [10]) (by kernel_rfl) (by simp) ?_
            refine AllReadyIn.cons rfl (fun K hK => ?_) AllReadyIn.nil
            go_simp
            refine hK _ _ ?_
            clear hK K
            try simp only [Act.put, List.setIfInBounds_toArray, List.set_cons_zero, List.set_cons_succ]
            refine take_wide (i := 11) (dst := some 23) (v := ?_) rfl (by kernel_rfl) (by kernel_rfl) (by kernel_rfl) (by kernel_rfl) (fun _ _ _ h => h) (Or.inl ⟨by kernel_rfl, ?_⟩) (fun _ => rfl) ?_
            rotate_left
            · intro w; go_simp; try with_reducible rfl
            simp only [Act.put, List.setIfInBounds_toArray, List.set_cons_zero, List.set_cons_succ]
            refine take_wide (i := 12) (dst := some 24) (v := ?_) rfl (by kernel_rfl) (by kernel_rfl) (by kernel_rfl) (by kernel_rfl) (fun _ _ _ h => h) (Or.inl ⟨by kernel_rfl, ?_⟩) (fun _ => rfl) ?_
            rotate_left
            · intro w; go_simp; try with_reducible rfl
            simp only [Act.put, List.setIfInBounds_toArray, List.set_cons_zero, List.set_cons_succ]
            refine take_wide (i := 13) (dst := some 25) (v := ?_) rfl (by kernel_rfl) (by kernel_rfl) (by kernel_rfl) (by kernel_rfl) (fun _ _ _ h => h) (Or.inl ⟨by kernel_rfl, ?_⟩) (fun _ => rfl) ?_
            rotate_left
            · intro w; go_simp; try with_reducible rfl
            simp only [Act.put, List.setIfInBounds_toArray, List.set_cons_zero, List.set_cons_succ]
            refine wpAnyIn_ready (rs := [14]) (by kernel_rfl) (by simp) ?_
            refine AllReadyIn.cons rfl (fun K hK => ?_) AllReadyIn.nil
            go_simp
            refine hK _ _ ?_
            clear hK K
            try simp only [Act.put, List.setIfInBounds_toArray, List.set_cons_zero, List.set_cons_succ]
            refine wpAnyIn_ready (rs := [15]) (by kernel_rfl) (by simp) ?_
            refine AllReadyIn.cons rfl (fun K hK => ?_) AllReadyIn.nil
            go_simp
            refine hR.mono ?_
            rintro e W3 (⟨rfl, hJ3, hk3⟩ | ⟨rfl, hJx3, hk3⟩)
            · refine hK _ _ ?_
              clear hK K
              try simp only [Act.put, List.setIfInBounds_toArray, List.set_cons_zero, List.set_cons_succ]
              refine take_wide (i := 16) (dst := some 28) (v := ?_) rfl (by kernel_rfl) (by kernel_rfl) (by kernel_rfl) (by kernel_rfl) (fun _ _ _ h => h) (Or.inl ⟨by kernel_rfl, ?_⟩) (fun _ => rfl) ?_
              rotate_left
              · intro w; go_simp; try with_reducible rfl
              simp only [Act.put, List.setIfInBounds_toArray, List.set_cons_zero, List.set_cons_succ]
              refine wpAnyIn_done (by kernel_rfl) ?_ _
              gi_wp2
              go_roundw
              case rel => exact ⟨k + 1, by omega, by have := E1.out; congr 1; omega, by rw [HSN.out]; exact hJ3, HNX.out.trans ((Kpt.below (below_drewN (Below.refl _ wr) 1) (fun j hj => Nat.lt_of_lt_of_le hj HNX.out.1)).trans hk3), Nat.le_trans HZR.out hk3.1⟩
              case measure => have := E1.out; simp [intOf]; omega
            · refine hK _ _ ?_
              clear hK K
              try simp only [Act.put, List.setIfInBounds_toArray, List.set_cons_zero, List.set_cons_succ]
              refine take_wide (i := 16) (dst := some 28) (v := ?_) rfl (by kernel_rfl) (by kernel_rfl) (by kernel_rfl) (by kernel_rfl) (fun _ _ _ h => h) (Or.inl ⟨by kernel_rfl, ?_⟩) (fun _ => rfl) ?_
              rotate_left
              · intro w; go_simp; try with_reducible rfl
              simp only [Act.put, List.setIfInBounds_toArray, List.set_cons_zero, List.set_cons_succ]
              refine wpAnyIn_done (by kernel_rfl) ?_ _
              gi_wp2
              refine bodyPost_ret (results_none rfl _ _ _) rfl ?_
              exact ⟨⟨_, rfl⟩, .inr ⟨_, HP.out, hJx3⟩⟩
          · go_simp
            refine hK _ _ ?_
            clear hK K
            try simp only [Act.put, List.setIfInBounds_toArray, List.set_cons_zero, List.set_cons_succ]
            refine take_wide (i := 11) (dst := some 23) (v := ?_) rfl (by kernel_rfl) (by kernel_rfl) (by kernel_rfl) (by kernel_rfl) (fun _ _ _ h => h) (Or.inl ⟨by kernel_rfl, ?_⟩) (fun _ => rfl) ?_
            rotate_left
            · intro w; go_simp; try with_reducible rfl
            simp only [Act.put, List.setIfInBounds_toArray, List.set_cons_zero, List.set_cons_succ]
            refine take_wide (i := 12) (dst := some 24) (v := ?_) rfl (by kernel_rfl) (by kernel_rfl) (by kernel_rfl) (by kernel_rfl) (fun _ _ _ h => h) (Or.inl ⟨by kernel_rfl, ?_⟩) (fun _ => rfl) ?_
            rotate_left
            · intro w; go_simp; try with_reducible rfl
            simp only [Act.put, List.setIfInBounds_toArray, List.set_cons_zero, List.set_cons_succ]
            refine wpAnyIn_ready (rs := [5]) (by kernel_rfl) (by simp) ?_
            refine AllReadyIn.cons rfl (fun K hK => ?_) AllReadyIn.nil
            go_simp
            refine hK _ _ ?_
            clear hK K
            try simp only [Act.put, List.setIfInBounds_toArray, List.set_cons_zero, List.set_cons_succ]
            refine take_wide (i := 13) (dst := some 25) (v := ?_) rfl (by kernel_rfl) (by kernel_rfl) (by kernel_rfl) (by kernel_rfl) (fun _ _ _ h => h) (Or.inl ⟨by kernel_rfl, ?_⟩) (fun _ => rfl) ?_
            rotate_left
            · intro w; go_simp; try with_reducible rfl
            simp only [Act.put, List.setIfInBounds_toArray, List.set_cons_zero, List.set_cons_succ]
            refine wpAnyIn_ready (rs := [14]) (by kernel_rfl) (by simp) ?_
            refine AllReadyIn.cons rfl (fun K hK => ?_) AllReadyIn.nil
            go_simp
            refine hK _ _ ?_
            clear hK K
            try simp only [Act.put, List.setIfInBounds_toArray, List.set_cons_zero, List.set_cons_succ]
            refine wpAnyIn_ready (rs := [15]) (by kernel_rfl) (by simp) ?_
            refine AllReadyIn.cons rfl (fun K hK => ?_) AllReadyIn.nil
            go_simp
            refine hR.mono ?_
            rintro e W3 (⟨rfl, hJ3, hk3⟩ | ⟨rfl, hJx3, hk3⟩)
            · refine hK _ _ ?_
              clear hK K
              try simp only [Act.put, List.setIfInBounds_toArray, List.set_cons_zero, List.set_cons_succ]
              refine take_wide (i := 16) (dst := some 28) (v := ?_) rfl (by kernel_rfl) (by kernel_rfl) (by kernel_rfl) (by kernel_rfl) (fun _ _ _ h => h) (Or.inl ⟨by kernel_rfl, ?_⟩) (fun _ => rfl) ?_
              rotate_left
              · intro w; go_simp; try with_reducible rfl
              simp only [Act.put, List.setIfInBounds_toArray, List.set_cons_zero, List.set_cons_succ]
              refine wpAnyIn_done (by kernel_rfl) ?_ _
              gi_wp2
              go_roundw
              case rel => exact ⟨k + 1, by omega, by have := E1.out; congr 1; omega, by rw [HSN.out]; exact hJ3, HNX.out.trans ((Kpt.below (below_drewN (Below.refl _ wr) 1) (fun j hj => Nat.lt_of_lt_of_le hj HNX.out.1)).trans hk3), Nat.le_trans HZR.out hk3.1⟩
              case measure => have := E1.out; simp [intOf]; omega
            · refine hK _ _ ?_
              clear hK K
              try simp only [Act.put, List.setIfInBounds_toArray, List.set_cons_zero, List.set_cons_succ]
              refine take_wide (i := 16) (dst := some 28) (v := ?_) rfl (by kernel_rfl) (by kernel_rfl) (by kernel_rfl) (by kernel_rfl) (fun _ _ _ h => h) (Or.inl ⟨by kernel_rfl, ?_⟩) (fun _ => rfl) ?_
              rotate_left
              · intro w; go_simp; try with_reducible rfl
              simp only [Act.put, List.setIfInBounds_toArray, List.set_cons_zero, List.set_cons_succ]
              refine wpAnyIn_done (by kernel_rfl) ?_ _
              gi_wp2
              refine bodyPost_ret (results_none rfl _ _ _) rfl ?_
              exact ⟨⟨_, rfl⟩, .inr ⟨_, HP.out, hJx3⟩⟩
      · go_simp
        refine hK _ _ ?_
        clear hK K
        try simp only [Act.put, List.setIfInBounds_toArray, List.set_cons_zero, List.set_cons_succ]
        refine take_wide (i := 8) (dst := some 20) (v := ?_) rfl (by kernel_rfl) (by kernel_rfl) (by kernel_rfl) (by kernel_rfl) (fun _ _ _ h => h) (Or.inl ⟨by kernel_rfl, ?_⟩) (fun _ => rfl) ?_
        rotate_left
        · intro w; go_simp; try with_reducible rfl
        simp only [Act.put, List.setIfInBounds_toArray, List.set_cons_zero, List.set_cons_succ]
        refine take_wide (i := 9) (dst := some 21) (v := ?_) rfl (by kernel_rfl) (by kernel_rfl) (by kernel_rfl) (by kernel_rfl) (fun _ _ _ h => h) (Or.inl ⟨by kernel_rfl, ?_⟩) (fun _ => rfl) ?_
        rotate_left
        · intro w; go_simp; try with_reducible rfl
        simp only [Act.put, List.setIfInBounds_toArray, List.set_cons_zero, List.set_cons_succ]
        refine wpAnyIn_ready (rs := [2, 10]) (by kernel_rfl) (by simp) ?_
        refine AllReadyIn.cons rfl (fun K hK => ?_) (AllReadyIn.cons rfl (fun K hK => ?_) AllReadyIn.nil)
        · go_simp
          refine hK _ _ ?_
          clear hK K
          try simp only [Act.put, List.setIfInBounds_toArray, List.set_cons_zero, List.set_cons_succ]
          refine take_wide (i := 3) (dst := some 15) (v := ?_) rfl (by kernel_rfl) (by kernel_rfl) (by kernel_rfl) (by kernel_rfl) (fun _ _ _ h => h) (Or.inl ⟨by kernel_rfl, ?_⟩) (fun _ => rfl) ?_
          rotate_left
          · intro w; go_simp; try with_reducible rfl
          simp only [Act.put, List.setIfInBounds_toArray, List.set_cons_zero, List.set_cons_succ]
          refine take_wide (i := 4) (dst := some 16) (v := ?_) rfl (by kernel_rfl) (by kernel_rfl) (by kernel_rfl) (by kernel_rfl) (fun _ _ _ h => h) (Or.inl ⟨by kernel_rfl, ?_⟩) (fun _ => rfl) ?_
          rotate_left
          · intro w; go_simp; try with_reducible rfl
          simp only [Act.put, List.setIfInBounds_toArray, List.set_cons_zero, List.set_cons_succ]
          refine wpAnyIn_ready (rs := [5, 10]) (by kernel_rfl) (by simp) ?_
          refine AllReadyIn.cons rfl (fun K hK => ?_) (AllReadyIn.cons rfl (fun K hK => ?_) AllReadyIn.nil)
          · go_simp
            refine hK _ _ ?_
            clear hK K
            try simp only [Act.put, List.setIfInBounds_toArray, List.set_cons_zero, List.set_cons_succ]
            refine wpAnyIn_ready (rs := [10]) (by kernel_rfl) (by simp) ?_
            refine AllReadyIn.cons rfl (fun K hK => ?_) AllReadyIn.nil
            go_simp
            refine hK _ _ ?_
            clear hK K
            try simp only [Act.put, List.setIfInBounds_toArray, List.set_cons_zero, List.set_cons_succ]
            refine take_wide (i := 11) (dst := some 23) (v := ?_) rfl (by kernel_rfl) (by kernel_rfl) (by kernel_rfl) (by kernel_rfl) (fun _ _ _ h => h) (Or.inl ⟨by kernel_rfl, ?_⟩) (fun _ => rfl) ?_
            rotate_left
            · intro w; go_simp; try with_reducible rfl
            simp only [Act.put, List.setIfInBounds_toArray, List.set_cons_zero, List.set_cons_succ]
            refine take_wide (i := 12) (dst := some 24) (v := ?_) rfl (by kernel_rfl) (by kernel_rfl) (by kernel_rfl) (by kernel_rfl) (fun _ _ _ h => h) (Or.inl ⟨by kernel_rfl, ?_⟩) (fun _ => rfl) ?_
            rotate_left
            · intro w; go_simp; try with_reducible rfl
            simp only [Act.put, List.setIfInBounds_toArray, List.set_cons_zero, List.set_cons_succ]
            refine take_wide (i := 13) (dst := some 25) (v := ?_) rfl (by kernel_rfl) (by kernel_rfl) (by kernel_rfl) (by kernel_rfl) (fun _ _ _ h => h) (Or.inl ⟨by kernel_rfl, ?_⟩) (fun _ => rfl) ?_
            rotate_left
            · intro w; go_simp; try with_reducible rfl
            simp only [Act.put, List.setIfInBounds_toArray, List.set_cons_zero, List.set_cons_succ]
            refine wpAnyIn_ready (rs := [14]) (by kernel_rfl) (by simp) ?_
            refine AllReadyIn.cons rfl (fun K hK => ?_) AllReadyIn.nil
            go_simp
            refine hK _ _ ?_
            clear hK K
            try simp only [Act.put, List.setIfInBounds_toArray, List.set_cons_zero, List.set_cons_succ]
            refine wpAnyIn_ready (rs := [15]) (by kernel_rfl) (by simp) ?_
            refine AllReadyIn.cons rfl (fun K hK => ?_) AllReadyIn.nil
            go_simp
            refine hR.mono ?_
            rintro e W3 (⟨rfl, hJ3, hk3⟩ | ⟨rfl, hJx3, hk3⟩)
            · refine hK _ _ ?_
              clear hK K
              try simp only [Act.put, List.setIfInBounds_toArray, List.set_cons_zero, List.set_cons_succ]
              refine take_wide (i := 16) (dst := some 28) (v := ?_) rfl (by kernel_rfl) (by kernel_rfl) (by kernel_rfl) (by kernel_rfl) (fun _ _ _ h => h) (Or.inl ⟨by kernel_rfl, ?_⟩) (fun _ => rfl) ?_
              rotate_left
              · intro w; go_simp; try with_reducible rfl
              simp only [Act.put, List.setIfInBounds_toArray, List.set_cons_zero, List.set_cons_succ]
              refine wpAnyIn_done (by kernel_rfl) ?_ _
              gi_wp2
              go_roundw
              case rel => exact ⟨k + 1, by omega, by have := E1.out; congr 1; omega, by rw [HSN.out]; exact hJ3, HNX.out.trans ((Kpt.below (below_drewN (Below.refl _ wr) 1) (fun j hj => Nat.lt_of_lt_of_le hj HNX.out.1)).trans hk3), Nat.le_trans HZR.out hk3.1⟩
              case measure => have := E1.out; simp [intOf]; omega
            · refine hK _ _ ?_
              clear hK K
              try simp only [Act.put, List.setIfInBounds_toArray, List.set_cons_zero, List.set_cons_succ]
              refine take_wide (i := 16) (dst := some 28) (v := ?_) rfl (by kernel_rfl) (by kernel_rfl) (by kernel_rfl) (by kernel_rfl) (fun _ _ _ h => h) (Or.inl ⟨by kernel_rfl, ?_⟩) (fun _ => rfl) ?_
              rotate_left
              · intro w; go_simp; try with_reducible rfl
              simp only [Act.put, List.setIfInBounds_toArray, List.set_cons_zero, List.set_cons_succ]
              refine wpAnyIn_done (by kernel_rfl) ?_ _
              gi_wp2
              refine bodyPost_ret (results_none rfl _ _ _) rfl ?_
              exact ⟨⟨_, rfl⟩, .inr ⟨_, HP.out, hJx3⟩⟩
          · go_simp
            refine hK _ _ ?_
            clear hK K
            try simp only [Act.put, List.setIfInBounds_toArray, List.set_cons_zero, List.set_cons_succ]
            refine take_wide (i := 11) (dst := some 23) (v := ?_) rfl (by kernel_rfl) (by kernel_rfl) (by kernel_rfl) (by kernel_rfl) (fun _ _ _ h => h) (Or.inl ⟨by kernel_rfl, ?_⟩) (fun _ => rfl) ?_
            rotate_left
            · intro w; go_simp; try with_reducible rfl
            simp only [Act.put, List.setIfInBounds_toArray, List.set_cons_zero, List.set_cons_succ]
            refine take_wide (i := 12) (dst := some 24) (v := ?_) rfl (by kernel_rfl) (by kernel_rfl) (by kernel_rfl) (by kernel_rfl) (fun _ _ _ h => h) (Or.inl ⟨by kernel_rfl, ?_⟩) (fun _ => rfl) ?_
            rotate_left
            · intro w; go_simp; try with_reducible rfl
            simp only [Act.put, List.setIfInBounds_toArray, List.set_cons_zero, List.set_cons_succ]
            refine wpAnyIn_ready (rs := [5]) (by kernel_rfl) (by simp) ?_
            refine AllReadyIn.cons rfl (fun K hK => ?_) AllReadyIn.nil
            go_simp
            refine hK _ _ ?_
            clear hK K
            try simp only [Act.put, List.setIfInBounds_toArray, List.set_cons_zero, List.set_cons_succ]
            refine take_wide (i := 13) (dst := some 25) (v := ?_) rfl (by kernel_rfl) (by kernel_rfl) (by kernel_rfl) (by kernel_rfl) (fun _ _ _ h => h) (Or.inl ⟨by kernel_rfl, ?_⟩) (fun _ => rfl) ?_
            rotate_left
            · intro w; go_simp; try with_reducible rfl
            simp only [Act.put, List.setIfInBounds_toArray, List.set_cons_zero, List.set_cons_succ]
            refine wpAnyIn_ready (rs := [14]) (by kernel_rfl) (by simp) ?_
            refine AllReadyIn.cons rfl (fun K hK => ?_) AllReadyIn.nil
            go_simp
            refine hK _ _ ?_
            clear hK K
            try simp only [Act.put, List.setIfInBounds_toArray, List.set_cons_zero, List.set_cons_succ]
            refine wpAnyIn_ready (rs := [15]) (by kernel_rfl) (by simp) ?_
            refine AllReadyIn.cons rfl (fun K hK => ?_) AllReadyIn.nil
            go_simp
            refine hR.mono ?_
            rintro e W3 (⟨rfl, hJ3, hk3⟩ | ⟨rfl, hJx3, hk3⟩)
            · refine hK _ _ ?_
              clear hK K
              try simp only [Act.put, List.setIfInBounds_toArray, List.set_cons_zero, List.set_cons_succ]
              refine take_wide (i := 16) (dst := some 28) (v := ?_) rfl (by kernel_rfl) (by kernel_rfl) (by kernel_rfl) (by kernel_rfl) (fun _ _ _ h => h) (Or.inl ⟨by kernel_rfl, ?_⟩) (fun _ => rfl) ?_
              rotate_left
              · intro w; go_simp; try with_reducible rfl
              simp only [Act.put, List.setIfInBounds_toArray, List.set_cons_zero, List.set_cons_succ]
              refine wpAnyIn_done (by kernel_rfl) ?_ _
              gi_wp2
              go_roundw
              case rel => exact ⟨k + 1, by omega, by have := E1.out; congr 1; omega, by rw [HSN.out]; exact hJ3, HNX.out.trans ((Kpt.below (below_drewN (Below.refl _ wr) 1) (fun j hj => Nat.lt_of_lt_of_le hj HNX.out.1)).trans hk3), Nat.le_trans HZR.out hk3.1⟩
              case measure => have := E1.out; simp [intOf]; omega
            · refine hK _ _ ?_
              clear hK K
              try simp only [Act.put, List.setIfInBounds_toArray, List.set_cons_zero, List.set_cons_succ]
              refine take_wide (i := 16) (dst := some 28) (v := ?_) rfl (by kernel_rfl) (by kernel_rfl) (by kernel_rfl) (by kernel_rfl) (fun _ _ _ h => h) (Or.inl ⟨by kernel_rfl, ?_⟩) (fun _ => rfl) ?_
              rotate_left
              · intro w; go_simp; try with_reducible rfl
              simp only [Act.put, List.setIfInBounds_toArray, List.set_cons_zero, List.set_cons_succ]
              refine wpAnyIn_done (by kernel_rfl) ?_ _
              gi_wp2
              refine bodyPost_ret (results_none rfl _ _ _) rfl ?_
              exact ⟨⟨_, rfl⟩, .inr ⟨_, HP.out, hJx3⟩⟩
        · go_simp
          refine hK _ _ ?_
          clear hK K
          try simp only [Act.put, List.setIfInBounds_toArray, List.set_cons_zero, List.set_cons_succ]
          refine take_wide (i := 11) (dst := some 23) (v := ?_) rfl (by kernel_rfl) (by kernel_rfl) (by kernel_rfl) (by kernel_rfl) (fun _ _ _ h => h) (Or.inl ⟨by kernel_rfl, ?_⟩) (fun _ => rfl) ?_
          rotate_left
          · intro w; go_simp; try with_reducible rfl
          simp only [Act.put, List.setIfInBounds_toArray, List.set_cons_zero, List.set_cons_succ]
          refine take_wide (i := 12) (dst := some 24) (v := ?_) rfl (by kernel_rfl) (by kernel_rfl) (by kernel_rfl) (by kernel_rfl) (fun _ _ _ h => h) (Or.inl ⟨by kernel_rfl, ?_⟩) (fun _ => rfl) ?_
          rotate_left
          · intro w; go_simp; try with_reducible rfl
          simp only [Act.put, List.setIfInBounds_toArray, List.set_cons_zero, List.set_cons_succ]
          refine wpAnyIn_ready (rs := [2]) (by kernel_rfl) (by simp) ?_
          refine AllReadyIn.cons rfl (fun K hK => ?_) AllReadyIn.nil
          go_simp
          refine hK _ _ ?_
          clear hK K
          try simp only [Act.put, List.setIfInBounds_toArray, List.set_cons_zero, List.set_cons_succ]
          refine take_wide (i := 3) (dst := some 15) (v := ?_) rfl (by kernel_rfl) (by kernel_rfl) (by kernel_rfl) (by kernel_rfl) (fun _ _ _ h => h) (Or.inl ⟨by kernel_rfl, ?_⟩) (fun _ => rfl) ?_
          rotate_left
          · intro w; go_simp; try with_reducible rfl
          simp only [Act.put, List.setIfInBounds_toArray, List.set_cons_zero, List.set_cons_succ]
          refine take_wide (i := 4) (dst := some 16) (v := ?_) rfl (by kernel_rfl) (by kernel_rfl) (by kernel_rfl) (by kernel_rfl) (fun _ _ _ h => h) (Or.inl ⟨by kernel_rfl, ?_⟩) (fun _ => rfl) ?_
          rotate_left
          · intro w; go_simp; try with_reducible rfl
          simp only [Act.put, List.setIfInBounds_toArray, List.set_cons_zero, List.set_cons_succ]
          refine wpAnyIn_ready (rs := [5]) (by kernel_rfl) (by simp) ?_
          refine AllReadyIn.cons rfl (fun K hK => ?_) AllReadyIn.nil
          go_simp
          refine hK _ _ ?_
          clear hK K
          try simp only [Act.put, List.setIfInBounds_toArray, List.set_cons_zero, List.set_cons_succ]
          refine take_wide (i := 13) (dst := some 25) (v := ?_) rfl (by kernel_rfl) (by kernel_rfl) (by kernel_rfl) (by kernel_rfl) (fun _ _ _ h => h) (Or.inl ⟨by kernel_rfl, ?_⟩) (fun _ => rfl) ?_
          rotate_left
          · intro w; go_simp; try with_reducible rfl
          simp only [Act.put, List.setIfInBounds_toArray, List.set_cons_zero, List.set_cons_succ]
          refine wpAnyIn_ready (rs := [14]) (by kernel_rfl) (by simp) ?_
          refine AllReadyIn.cons rfl (fun K hK => ?_) AllReadyIn.nil
          go_simp
          refine hK _ _ ?_
          clear hK K
          try simp only [Act.put, List.setIfInBounds_toArray, List.set_cons_zero, List.set_cons_succ]
          refine wpAnyIn_ready (rs := [15]) (by kernel_rfl) (by simp) ?_
          refine AllReadyIn.cons rfl (fun K hK => ?_) AllReadyIn.nil
          go_simp
          refine hR.mono ?_
          rintro e W3 (⟨rfl, hJ3, hk3⟩ | ⟨rfl, hJx3, hk3⟩)
          · refine hK _ _ ?_
            clear hK K
            try simp only [Act.put, List.setIfInBounds_toArray, List.set_cons_zero, List.set_cons_succ]
            refine take_wide (i := 16) (dst := some 28) (v := ?_) rfl (by kernel_rfl) (by kernel_rfl) (by kernel_rfl) (by kernel_rfl) (fun _ _ _ h => h) (Or.inl ⟨by kernel_rfl, ?_⟩) (fun _ => rfl) ?_
            rotate_left
            · intro w; go_simp; try with_reducible rfl
            simp only [Act.put, List.setIfInBounds_toArray, List.set_cons_zero, List.set_cons_succ]
            refine wpAnyIn_done (by kernel_rfl) ?_ _
            gi_wp2
            go_roundw
            case rel => exact ⟨k + 1, by omega, by have := E1.out; congr 1; omega, by rw [HSN.out]; exact hJ3, HNX.out.trans ((Kpt.below (below_drewN (Below.refl _ wr) 1) (fun j hj => Nat.lt_of_lt_of_le hj HNX.out.1)).trans hk3), Nat.le_trans HZR.out hk3.1⟩
            case measure => have := E1.out; simp [intOf]; omega
          · refine hK _ _ ?_
            clear hK K
            try simp only [Act.put, List.setIfInBounds_toArray, List.set_cons_zero, List.set_cons_succ]
            refine take_wide (i := 16) (dst := some 28) (v := ?_) rfl (by kernel_rfl) (by kernel_rfl) (by kernel_rfl) (by kernel_rfl) (fun _ _ _ h => h) (Or.inl ⟨by kernel_rfl, ?_⟩) (fun _ => rfl) ?_
            rotate_left
            · intro w; go_simp; try with_reducible rfl
            simp only [Act.put, List.setIfInBounds_toArray, List.set_cons_zero, List.set_cons_succ]
            refine wpAnyIn_done (by kernel_rfl) ?_ _
            gi_wp2
            refine bodyPost_ret (results_none rfl _ _ _) rfl ?_
            exact ⟨⟨_, rfl⟩, .inr ⟨_, HP.out, hJx3⟩⟩
    · have hke : k = c := by omega
      have HK := hide hke
      have i4 : ¬ floor < (n : Int) - (k : Int) := by omega
      clear hke
      gi_wp2
      go_end0
      exact ⟨⟨_, rfl⟩, .inl (by rw [HK.out] at hJs; exact hJs)⟩

end Go.Proofs.YtmpahgklcabihaaGreat.Rl

namespace Go.Proofs.YtmpahgklcabihaaGreat.Rl
open Go.RowKit Go.Joins Gk

attribute [local go_sem] Oper.semAt_some

/-- the number of the first of a term, ahead of the first of a lesser one -/
def fo (t : Int) : List (Nat × En) → Option Nat
  | [] => none
  | x :: r => if x.2.t = t then some x.1 else if x.2.t < t then none else fo t r
def ovr (t : Int) (L : List (Nat × En)) : Prop := ∀ x ∈ L, t < x.2.t
theorem ovr_snoc {t : Int} {L : List (Nat × En)} {x : Nat × En} (h : ovr t L) (hx : t < x.2.t) : ovr t (L ++ [x]) := fun y hy => by
  rcases List.mem_append.1 hy with hy | hy
  · exact h y hy
  · rw [List.mem_singleton.1 hy]; exact hx
theorem fo_over {t : Int} : ∀ {q : List (Nat × En)} (r : List (Nat × En)), ovr t q → fo t (q ++ r) = fo t r
  | [], _, _ => rfl
  | x :: q, r, h => by
    have h1 := h x (List.mem_cons_self ..)
    rw [List.cons_append, fo, if_neg (by omega), if_neg (by omega)]
    exact fo_over r fun y hy => h y (List.mem_cons_of_mem _ hy)
theorem fo_hit {t : Int} {q L : List (Nat × En)} {x : Nat × En} (h : ovr t q) (hp : q ++ [x] <+: L) (hx : x.2.t = t) : fo t L = some x.1 := by
  obtain ⟨r, rfl⟩ := hp
  rw [List.append_assoc, fo_over _ h, List.singleton_append, fo, if_pos hx]
theorem fo_miss {t : Int} {q L : List (Nat × En)} {x : Nat × En} (h : ovr t q) (hp : q ++ [x] <+: L) (hx : x.2.t < t) : fo t L = none := by
  obtain ⟨r, rfl⟩ := hp
  rw [List.append_assoc, fo_over _ h, List.singleton_append, fo, if_neg (by omega), if_pos hx]
theorem fo_none {t : Int} {L : List (Nat × En)} (h : ovr t L) : fo t L = none := by
  have := fo_over (t := t) (q := L) [] h
  rwa [List.append_nil] at this
/-- how a loop over entries was left -/
def Lft (t : Int) (B : Nat) (c : Code) (pre : List (Nat × En)) (W : World) : Prop :=
  (c = .ret ∧ (∃ q x, pre = q ++ [x] ∧ ovr t q ∧ x.2.t = t ∧ Boxed W (B + 1) 3 (.int .i64 (x.1 : Int)) ∧ Boxed W (B + 1 + 1) 4 (.bool true))) ∨
  (c = .exit 0 ∧ (∃ q x, pre = q ++ [x] ∧ ovr t q ∧ x.2.t < t) ∧ Boxed W (B + 1) 3 (.int .i64 0) ∧ Boxed W (B + 1 + 1) 4 (.bool false))
theorem lft_own (t : Int) (B B' : Nat) (hB : B + 3 ≤ B') (c : Code) : OwnB B' (fun pre W => Lft t B c pre W) := fun s W W' row h hg hr => by
  have hb : ∀ b ty v, b < B' → Boxed W b ty v → Boxed W' b ty v := fun b ty v hlt hv => hv.kept hg (fun e => by have := (hr b e.symm).1; omega)
  rcases h with ⟨h1, q, x, h2, h3, h4, h5, h6⟩ | ⟨h1, h2, h5, h6⟩
  · exact Or.inl ⟨h1, q, x, h2, h3, h4, hb _ _ _ (by omega) h5, hb _ _ _ (by omega) h6⟩
  · exact Or.inr ⟨h1, h2, hb _ _ _ (by omega) h5, hb _ _ _ (by omega) h6⟩

set_option maxRecDepth 100000 in
set_option maxHeartbeats 8000000 in
theorem first_in (t : Int) (gf : Nat) (lb : Array Value) (L : List (Nat × En)) (X : Nat → Prop) (w : World) (eg : ∀ args w, (callFunc gf args).run Tryz.prog w = .ok (.enter gf args) w) (hseq : SeqP Tryz.prog gf lb nenc (Kpt X) L (w.heap.size + 5) w) (hX : ∀ k, X k → k < w.heap.size) :
    CallsIn Fence.wide 9 Tryz.prog 165 #[.int .i64 t, .func (.func gf) #[] lb] w fun e w' => e = .returned (.tuple #[.int .i64 (((fo t L).getD 0 : Nat) : Int), .bool (fo t L).isSome]) ∧ Below w.heap.size w w' := by
  refine callsIn_of_wp_marks Tryz.func165 rfl trivial ?_ rfl
  simp only [Tryz.ntmps165, List.size_toArray, List.length_cons, List.length_nil, Nat.reduceAdd, Nat.reduceSub, Array.replicate_succ, Array.replicate_zero, List.push_toArray, List.append_toArray, List.nil_append, List.cons_append]
  gi_wp2
  obtain ⟨W0, hW0⟩ : ∃ W0, ((w.alloc (.cells #[.int .i64 t] 3)).alloc (.cells #[.int .i64 0] 3)).alloc (.cells #[.bool false] 4) = W0 := ⟨_, rfl⟩
  have hsz : W0.heap.size = w.heap.size + 3 := by rw [← hW0]; simp
  have bT : Boxed W0 w.heap.size 3 (.int .i64 t) := by rw [← hW0]; exact ((Boxed.new w _ _).alloc _).alloc _
  have bN : Boxed W0 (w.heap.size + 1) 3 (.int .i64 0) := by
    rw [← hW0]; have := Boxed.new (w.alloc (.cells #[.int .i64 t] 3)) 3 (.int .i64 0); rw [World.size_alloc] at this; exact this.alloc _
  have bO : Boxed W0 (w.heap.size + 1 + 1) 4 (.bool false) := by
    rw [← hW0]; have := Boxed.new ((w.alloc (.cells #[.int .i64 t] 3)).alloc (.cells #[.int .i64 0] 3)) 4 (.bool false); rw [World.size_alloc, World.size_alloc] at this; exact this
  have hB0 : Below w.heap.size w W0 := by
    rw [← hW0]; exact (((Below.refl _ w).alloc (Nat.le_refl _) _).alloc (by simp) _).alloc (by simp; omega) _
  rw [hW0]
  clear hW0
  refine range_pre rfl eg (show SeqP Tryz.prog gf lb nenc (Kpt X) L (W0.heap.size + 2) w by rw [hsz]; exact hseq) (fun h k => h.trans k) (Kpt.put (fun k hk => by have := hX k hk; omega)) hB0 (fun _ => rfl)
    (fun pre W => Boxed W w.heap.size 3 (.int .i64 t) ∧ Boxed W (w.heap.size + 1) 3 (.int .i64 0) ∧ Boxed W (w.heap.size + 1 + 1) 4 (.bool false) ∧ ovr t pre ∧ Below w.heap.size w W)
    (fun c pre W => Lft t w.heap.size c pre W ∧ Below w.heap.size w W)
    (OwnB.and (OwnB.boxed _ _ _ (fun _ => .int .i64 t) (Or.inl (by omega))) (OwnB.and (OwnB.boxed _ _ _ (fun _ => .int .i64 0) (Or.inl (by omega))) (OwnB.and (OwnB.boxed _ _ _ (fun _ => .bool false) (Or.inl (by omega))) (OwnB.and (OwnB.pure _ (fun pre => ovr t pre)) (OwnB.below (Nat.le_refl _) (by omega))))))
    (fun c => OwnB.and (lft_own t w.heap.size _ (by omega) c) (OwnB.below (Nat.le_refl _) (by omega)))
    ⟨bT, bN, bO, (fun x h => by cases h), hB0⟩
    (fun x a' W => ∃ Bx, w.heap.size + 3 ≤ Bx ∧ W.heap[Bx]? = some (.cells #[.int .i64 x.2.t, .string x.2.d] EnT (0, 0)) ∧ a' = { tmps := #[.int .i64 t, .func (.func gf) #[] lb, ptr w.heap.size, undef, ptr (w.heap.size + 1), ptr (w.heap.size + 1 + 1), .int .i64 x.1, ptr Bx, .func (.func gf) #[] lb, .int .i64 x.1, ev x.2, undef, undef, undef, undef, undef, undef, undef, undef, undef], defers := [] })
    (fun x a' => ownFrom_ex fun Bx => OwnFrom.and (ownFrom_pure _ (fun _ => w.heap.size + 3 ≤ Bx)) (OwnFrom.and (ownFrom_block _ Bx (fun _ => #[.int .i64 x.2.t, .string x.2.d]) EnT) (ownFrom_pure _ (fun _ => a' = _))))
    ?assign ?body ?done ?stop
  case assign =>
    rintro l pre x W K ⟨h1, h2, h3, h4, h5⟩ hK
    have hz := h5.size
    have hz3 := h3.lt
    dsimp only [nenc, ev]
    gi_wp2
    exact hK _ _ ((KeepsOthers.alloc W _).from _) (Kpt.alloc (fun k hk => by have := hX k hk; omega) _) ⟨h1.alloc _, h2.alloc _, h3.alloc _, h4, h5.alloc hz _⟩ ⟨W.heap.size, by omega, World.alloc_heap_new W _, rfl⟩
  case body =>
    rintro l pre x a' W hl hpre ⟨h1, h2, h3, h4, h5⟩ ⟨Bx, hBx, hx, rfl⟩
    obtain ⟨n, y, d⟩ := x
    dsimp only at hx
    dsimp only [ev]
    have x0 : W.cell? ⟨Bx, 0, none⟩ = some (.int .i64 y) := by rw [cell_of_block hx]; rfl
    have c1 := h1.cell
    have c2 := h2.cell
    have c3 := h3.cell
    have f2 := h2.frozen
    have f3 := h3.frozen
    have H2 := hide h2
    have H3 := hide h3
    have H := hide (And.intro h1 (And.intro h4 h5))
    have q1 : w.heap.size ≤ w.heap.size + 1 := by omega
    have q2 : w.heap.size ≤ w.heap.size + 1 + 1 := by omega
    have Q1 := hide q1
    have Q2 := hide q2
    clear h1 h2 h3 h4 h5 hx hpre hseq q1 q2
    by_cases he : y = t
    · have hee : (y == t) = true := by simp [he]
      have HE := hide he
      clear he
      gi_wp2
      exact ⟨((KeepsOthers.setCell _ _ _).trans (KeepsOthers.setCell _ _ _)).from _, Kpt.below (((Below.refl w.heap.size W).setCell (p := ⟨w.heap.size + 1, 0, none⟩) Q1.out _).setCell (p := ⟨w.heap.size + 1 + 1, 0, none⟩) Q2.out _) hX,
        Or.inl ⟨rfl, pre, _, rfl, H.out.2.1, HE.out, (H2.out.set _).other (by omega) _, (H3.out.other (by omega) _).set _⟩, (H.out.2.2.setCell (p := ⟨w.heap.size + 1, 0, none⟩) Q1.out _).setCell (p := ⟨w.heap.size + 1 + 1, 0, none⟩) Q2.out _⟩
    · have hee : (y == t) = false := by simp [he]
      by_cases hlt : y < t
      · have HE := hide hlt
        clear he
        gi_wp2
        exact ⟨KeepsFrom.refl _ _, Kpt.refl _ _, Or.inr ⟨rfl, ⟨pre, _, rfl, H.out.2.1, HE.out⟩, H2.out, H3.out⟩, H.out.2.2⟩
      · have HE := hide (show t < y by omega)
        clear he
        gi_wp2
        exact ⟨KeepsFrom.refl _ _, Kpt.refl _ _, H.out.1, H2.out, H3.out, ovr_snoc H.out.2.1 HE.out, H.out.2.2⟩
  case done =>
    rintro D W hD ⟨h1, h2, h3, h4, h5⟩ hK
    have HF := hide (fo_none h4)
    have c2 := h2.cell
    have c3 := h3.cell
    have f2 := h2.frozen
    have f3 := h3.frozen
    have H2 := hide h2
    have H3 := hide h3
    have H5 := hide h5
    have HK := hide hK
    clear h2 h3 h5 hK hseq
    gi_wp2
    have hK' : ((W.setCell ⟨w.heap.size + 1, 0, none⟩ (.int .i64 0)).setCell ⟨w.heap.size + 1 + 1, 0, none⟩ (.bool false)).heap[D]? = some (.deferred (some [])) := ((KeepsOthers.setCell W ⟨w.heap.size + 1, 0, none⟩ (.int .i64 0)).trans (KeepsOthers.setCell _ ⟨w.heap.size + 1 + 1, 0, none⟩ (.bool false))).same D _ HK.out rfl
    refine ⟨by simp, .inl ⟨_, _, rfl, run_takeDeferred hK', ?_⟩⟩
    have k2 := cell_kept (((H2.out.set (.int .i64 0)).other (B' := w.heap.size + 1 + 1) (by omega) (.bool false))).cell (grownBy_putObj' _ D (.deferred none)) (fun r e => by cases e; exact ⟨_, hK', rfl⟩)
    have k3 := cell_kept ((H3.out.other (B' := w.heap.size + 1) (by omega) (.int .i64 0)).set (.bool false)).cell (grownBy_putObj' _ D (.deferred none)) (fun r e => by cases e; exact ⟨_, hK', rfl⟩)
    refine ⟨.tuple #[.int .i64 0, .bool false], ?_, by rw [HF.out]; rfl, ((H5.out.setCell (p := ⟨w.heap.size + 1, 0, none⟩) (show w.heap.size ≤ w.heap.size + 1 by omega) _).setCell (p := ⟨w.heap.size + 1 + 1, 0, none⟩) (show w.heap.size ≤ w.heap.size + 1 + 1 by omega) _).trans (belowK_b (w := w) (Nat.le_refl _) _ D _ _ (by omega) hK' rfl rfl)⟩
    simp [results, Tryz.f165, go_sem, k2, k3]
  case stop =>
    rintro D c pre W hD hpre ⟨h, h5⟩ hK
    rcases h with ⟨rfl, q, x, rfl, g1, g2, h2, h3⟩ | ⟨rfl, ⟨q, x, rfl, g1, g2⟩, h2, h3⟩
    · have HF := hide (fo_hit g1 hpre g2)
      gi_wp2
      refine ⟨by simp, .inl ⟨_, _, rfl, run_takeDeferred hK, ?_⟩⟩
      have k2 := cell_kept h2.cell (grownBy_putObj' _ D (.deferred none)) (fun r e => by cases e; exact ⟨_, hK, rfl⟩)
      have k3 := cell_kept h3.cell (grownBy_putObj' _ D (.deferred none)) (fun r e => by cases e; exact ⟨_, hK, rfl⟩)
      refine ⟨.tuple #[.int .i64 (x.1 : Int), .bool true], ?_, by rw [HF.out]; rfl, h5.trans (belowK_b (w := w) (Nat.le_refl _) W D _ _ (by omega) hK rfl rfl)⟩
      simp [results, Tryz.f165, go_sem, k2, k3]
    · have HF := hide (fo_miss g1 hpre g2)
      have c2 := h2.cell
      have c3 := h3.cell
      have f2 := h2.frozen
      have f3 := h3.frozen
      have H2 := hide h2
      have H3 := hide h3
      have H5 := hide h5
      have HK := hide hK
      clear h2 h3 h5 hK hseq
      gi_wp2
      have hK' : ((W.setCell ⟨w.heap.size + 1, 0, none⟩ (.int .i64 0)).setCell ⟨w.heap.size + 1 + 1, 0, none⟩ (.bool false)).heap[D]? = some (.deferred (some [])) := ((KeepsOthers.setCell W ⟨w.heap.size + 1, 0, none⟩ (.int .i64 0)).trans (KeepsOthers.setCell _ ⟨w.heap.size + 1 + 1, 0, none⟩ (.bool false))).same D _ HK.out rfl
      refine ⟨by simp, .inl ⟨_, _, rfl, run_takeDeferred hK', ?_⟩⟩
      have k2 := cell_kept (((H2.out.set (.int .i64 0)).other (B' := w.heap.size + 1 + 1) (by omega) (.bool false))).cell (grownBy_putObj' _ D (.deferred none)) (fun r e => by cases e; exact ⟨_, hK', rfl⟩)
      have k3 := cell_kept ((H3.out.other (B' := w.heap.size + 1) (by omega) (.int .i64 0)).set (.bool false)).cell (grownBy_putObj' _ D (.deferred none)) (fun r e => by cases e; exact ⟨_, hK', rfl⟩)
      refine ⟨.tuple #[.int .i64 0, .bool false], ?_, by rw [HF.out]; rfl, ((H5.out.setCell (p := ⟨w.heap.size + 1, 0, none⟩) (show w.heap.size ≤ w.heap.size + 1 by omega) _).setCell (p := ⟨w.heap.size + 1 + 1, 0, none⟩) (show w.heap.size ≤ w.heap.size + 1 + 1 by omega) _).trans (belowK_b (w := w) (Nat.le_refl _) _ D _ _ (by omega) hK' rfl rfl)⟩
      simp [results, Tryz.f165, go_sem, k2, k3]

end Go.Proofs.YtmpahgklcabihaaGreat.Rl

namespace Go.Proofs.YtmpahgklcabihaaGreat.Rl
open Go.RowKit Go.Joins Gk

attribute [local go_sem] Oper.semAt_some
attribute [local go_sem ↓] min_first min_second max_first max_second

set_option maxRecDepth 100000 in
set_option maxHeartbeats 1000000 in
theorem dwn0_in (l B1 B2 B3 : Nat) (top floor : Int) (W : World) (hB1 : W.cell? ⟨B1, 0, none⟩ = some (.int .i64 top)) (hB2 : W.cell? ⟨B2, 0, none⟩ = some (.int .i64 floor)) (hc : top ≤ floor) (J : List (Nat × En) → World → Prop) (h0 : J [] W) :
    CallsIn Fence.wide 9 Tryz.prog 199 #[.func (.yield l) #[] #[], ptr B1, ptr B2, ptr B3] W fun e W' => (∃ v, e = .returned v) ∧ J [] W' := by
  refine callsIn_of_wp Tryz.func199 rfl trivial ?_ rfl
  simp only [Tryz.ntmps199, List.size_toArray, List.length_cons, List.length_nil, Nat.reduceAdd, Nat.reduceSub, Array.replicate_succ, Array.replicate_zero, List.push_toArray, List.append_toArray, List.nil_append, List.cons_append]
  have i4 : ¬ floor < top := by omega
  gi_wp2
  gi_loopw [5] (fun i wr => i = .int .i64 top ∧ wr = W) (fun _ _ => 0)
  case atStart => exact ⟨rfl, rfl⟩
  case round =>
    obtain ⟨rfl, rfl⟩ := hrel
    gi_wp2
    go_end0
    exact ⟨⟨_, rfl⟩, h0⟩

/-- the entries above a floor, from a number down -/
def dwL (S : Lo) (top floor : Int) : List (Nat × En) := if floor < top then dwn S top.toNat (top - floor).toNat else []
theorem dw_seq (w : World) (Bk B1 B2 B3 bl : Nat) (S : Lo) (v : Value) (top floor : Int) (hS : LH w bl S v) (hbd : S.b + S.es.length ≤ 1048577) (h1l : B1 < w.heap.size) (h2l : B2 < w.heap.size) (h3l : B3 < w.heap.size) (hB1 : w.cell? ⟨B1, 0, none⟩ = some (.int .i64 top)) (hB2 : w.cell? ⟨B2, 0, none⟩ = some (.int .i64 floor)) (hB3 : w.cell? ⟨B3, 0, none⟩ = some (ptr bl)) (hf : (S.b : Int) ≤ floor) (ht : top ≤ (S.last : Int)) :
    SeqP Tryz.prog 199 #[ptr B1, ptr B2, ptr B3] nenc (Kpt fun k => k < w.heap.size) (dwL S top floor) Bk w := by
  intro l J Jx W hW _ hA _ hY h0
  have k1 := (hW.cell (p := ⟨B1, 0, none⟩) h1l).trans hB1
  have k2 := (hW.cell (p := ⟨B2, 0, none⟩) h2l).trans hB2
  unfold dwL at hY ⊢
  by_cases h : floor < top
  · rw [if_pos h] at hY ⊢
    have e1 : ((top.toNat : Nat) : Int) = top := by omega
    exact dwn1_in l B1 B2 B3 bl S v top.toNat (top - floor).toNat floor W w hW hS hbd h3l h2l (by rw [e1]; exact k1) hB2 hB3 (by omega) (by omega) (by omega) (by omega) J Jx hY hA h0
  · rw [if_neg h]
    refine (dwn0_in l B1 B2 B3 top floor W k1 k2 (by omega) J h0).mono ?_
    rintro e W' ⟨h1, h2⟩
    exact ⟨h1, Or.inl h2⟩

def agr (S : Lo) (ms : List Int) (t commit : Int) : Int :=
  match fo t (dwL S (min (med ms) (S.last : Int)) (max commit (S.b : Int))) with
  | some n => (n : Int)
  | none => commit

/-- what is found behind downward -/
theorem found (bl : Nat) (S : Lo) (v : Value) (t top floor : Int) (w : World) (hS : LH w bl S v) (hbd : S.b + S.es.length ≤ 1048577) (hf : (S.b : Int) ≤ floor) (ht : top ≤ (S.last : Int)) :
    Calls Tryz.prog 165 #[.int .i64 t, .func (.func 199) #[] #[ptr (w.heap.size + 1), ptr (w.heap.size + 1 + 1), ptr w.heap.size]] (((w.alloc (.cells #[ptr bl] 79)).alloc (.cells #[.int .i64 top] 3)).alloc (.cells #[.int .i64 floor] 3))
      fun e w' => e = .returned (.tuple #[.int .i64 (((fo t (dwL S top floor)).getD 0 : Nat) : Int), .bool (fo t (dwL S top floor)).isSome]) ∧ Below w.heap.size w w' := by
  obtain ⟨W, hW⟩ : ∃ W, ((w.alloc (.cells #[ptr bl] 79)).alloc (.cells #[.int .i64 top] 3)).alloc (.cells #[.int .i64 floor] 3) = W := ⟨_, rfl⟩
  have hsz : W.heap.size = w.heap.size + 3 := by rw [← hW]; simp
  have b0 : Boxed W w.heap.size 79 (ptr bl) := by rw [← hW]; exact ((Boxed.new w _ _).alloc _).alloc _
  have b1 : Boxed W (w.heap.size + 1) 3 (.int .i64 top) := by
    rw [← hW]; have := Boxed.new (w.alloc (.cells #[ptr bl] 79)) 3 (.int .i64 top); rw [World.size_alloc] at this; exact this.alloc _
  have b2 : Boxed W (w.heap.size + 1 + 1) 3 (.int .i64 floor) := by
    rw [← hW]; have := Boxed.new ((w.alloc (.cells #[ptr bl] 79)).alloc (.cells #[.int .i64 top] 3)) 3 (.int .i64 floor); rw [World.size_alloc, World.size_alloc] at this; exact this
  have hB : Below w.heap.size w W := by
    rw [← hW]; exact (((Below.refl _ w).alloc (Nat.le_refl _) _).alloc (by simp) _).alloc (by simp; omega) _
  rw [hW]
  have h := first_in t 199 #[ptr (w.heap.size + 1), ptr (w.heap.size + 1 + 1), ptr w.heap.size] (dwL S top floor) (fun k => k < W.heap.size) W (enters_of Tryz.func199 (by kernel_rfl) rfl) (dw_seq W _ (w.heap.size + 1) (w.heap.size + 1 + 1) w.heap.size bl S v top floor (hS.below hB) hbd (by omega) (by omega) (by omega) b1.cell b2.cell b0.cell hf ht) (fun _ h => h)
  refine (callsIn_wide.1 h).mono ?_
  rintro e w' ⟨rfl, hb⟩
  exact ⟨rfl, hB.trans (hb.mono hB.size)⟩

set_option maxRecDepth 100000 in
set_option maxHeartbeats 4000000 in
theorem Agreed_ok (bl : Nat) (S : Lo) (v : Value) (a : Option Addr) (cap : Nat) (ms : List Int) (hne : ms ≠ []) (hml : ms.length * 8 ≤ 140737488355328) (t commit : Int) (hcm : 0 ≤ commit) (w : World) (h : LH w bl S v) (hbd : S.b + S.es.length ≤ 1048577) (hl : Lies w ienc a ms) :
    Calls Tryz.prog 121 #[ptr bl, .slice a ms.length cap, .int .i64 t, .int .i64 commit] w fun e w' => e = .returned (.tuple #[.int .i64 (agr S ms t commit), .int .i64 0]) ∧ Below w.heap.size w w' := by
  have HL := hide (Last_any bl S v w h hbd)
  have HH := hide (fun q => hadByMost_any a cap ms hne (w.drewN q) (hl.below (below_drewN (Below.refl _ w) q)) hml)
  obtain ⟨top, htop⟩ : ∃ x, min (med ms) (S.last : Int) = x := ⟨_, rfl⟩
  obtain ⟨fl, hfl⟩ : ∃ x, max commit (S.b : Int) = x := ⟨_, rfl⟩
  have HF := hide (fun W (hW : LH W bl S v) => found bl S v t top fl W hW hbd (by omega) (by omega))
  have HD := hide (fun W => downward_any bl top fl W)
  have HA := hide (show agr S ms t commit = match fo t (dwL S top fl) with | some n => (n : Int) | none => commit by rw [agr, htop, hfl])
  generalize agr S ms t commit = R at *
  have hpos : 0 < ms.length := List.length_pos_iff.2 hne
  have e1 : ((ms.length : Int) == 0) = false := by rw [beq_eq_false_iff_ne]; omega
  have e2 : ¬ commit < 0 := by omega
  have i6 : ms.length ≤ 9223372036854775807 := by omega
  have H := hide h
  have HB := hide (show ∀ q w1, Below (w.drewN q).heap.size (w.drewN q) w1 → Below w.heap.size w w1 from fun q w1 hb => (below_drewN (Below.refl _ w) q).trans hb)
  have HC0 := hide (show ∀ w1, Below w.heap.size w w1 → w1.cell? ⟨bl, 0, none⟩ = some (.int .i64 (S.b : Int)) from fun w1 hb => (h.below hb).c0)
  generalize S.tm S.last = y at *
  generalize hla : (S.last : Int) = la at *
  generalize med ms = md at *
  clear h hl hla
  have hm1 : (md ≤ la ∧ top = md) ∨ (la < md ∧ top = la) := by omega
  have hm2 : (commit ≤ (S.b : Int) ∧ fl = (S.b : Int)) ∨ ((S.b : Int) < commit ∧ fl = commit) := by omega
  clear htop hfl
  cases hfo : fo t (dwL S top fl) with
  | none =>
    rw [hfo] at HF HA
    clear hfo
    rcases hm1 with ⟨g1, rfl⟩ | ⟨g1, rfl⟩ <;> rcases hm2 with ⟨g2, hf2⟩ | ⟨g2, rfl⟩
    all_goals (try (rw [hf2] at HF HD; clear hf2))
    all_goals go_enter Tryz.func121, Tryz.ntmps121
    all_goals go_wp2_with (first | (go_at_call 80; refine HL.out.mono ?_; rintro e w1 ⟨rfl, q1, rfl⟩) | (go_at_call 164; refine (HH.out _).mono ?_; rintro e w2 ⟨rfl, hb2⟩; have hb2' := HB.out _ _ hb2; have c0 := HC0.out _ hb2'; clear hb2) | (go_at_call 166; refine (HD.out _).mono ?_; rintro e w3 ⟨rfl, rfl⟩) | (go_at_call 165; refine (HF.out _ (H.out.below hb2')).mono ?_; rintro e w4 ⟨rfl, hb4⟩))
    all_goals go_ret2
    all_goals exact ⟨by rw [HA.out]; rfl, hb2'.trans (hb4.mono hb2'.size)⟩
  | some n =>
    rw [hfo] at HF HA
    clear hfo
    rcases hm1 with ⟨g1, rfl⟩ | ⟨g1, rfl⟩ <;> rcases hm2 with ⟨g2, hf2⟩ | ⟨g2, rfl⟩
    all_goals (try (rw [hf2] at HF HD; clear hf2))
    all_goals go_enter Tryz.func121, Tryz.ntmps121
    all_goals go_wp2_with (first | (go_at_call 80; refine HL.out.mono ?_; rintro e w1 ⟨rfl, q1, rfl⟩) | (go_at_call 164; refine (HH.out _).mono ?_; rintro e w2 ⟨rfl, hb2⟩; have hb2' := HB.out _ _ hb2; have c0 := HC0.out _ hb2'; clear hb2) | (go_at_call 166; refine (HD.out _).mono ?_; rintro e w3 ⟨rfl, rfl⟩) | (go_at_call 165; refine (HF.out _ (H.out.below hb2')).mono ?_; rintro e w4 ⟨rfl, hb4⟩))
    all_goals go_ret2
    all_goals exact ⟨by rw [HA.out]; rfl, hb2'.trans (hb4.mono hb2'.size)⟩

end Go.Proofs.YtmpahgklcabihaaGreat.Rl
