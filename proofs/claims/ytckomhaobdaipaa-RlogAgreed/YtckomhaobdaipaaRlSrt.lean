/- Walks over the library: slices.Values, Collect, Sorted at numbers; rlog: hadByMost. -/
import Derived.Test.YtckomhaobdaipaaRlSeq
import Derived.Test.YtckomhaobdaipaaGArgs
import Derived.Shelf.Sort.Plain
import Derived.Sort.OwnSortedInts
import Derived.Maps.AppendAt
import Derived.Shelf.Lay
import Derived.Ground.NamesProg
namespace Go.Proofs.Ytckomhaobdaipaa
open Go.Shelf
shelf_lay Lays.n189 Nm 189 at Try as Try.laysSort
end Go.Proofs.Ytckomhaobdaipaa
namespace Go.Proofs.Ytckomhaobdaipaa.Rl
open Go.RowKit Go.Joins Go.Sort Gk

attribute [local go_sem] Oper.semAt_some

abbrev IntT : TypeId := 3
abbrev IntsT : TypeId := 22
theorem int_info : (Try.prog.info? IntT).map (fun i => (i.zero, i.size, i.bytes)) = some (some (.int .i64 0), 1, 8) := by kernel_rfl
abbrev zenc (x : Int) : Array Value := #[.int .i64 x]

set_option maxHeartbeats 1000000 in
theorem values_any (a : Option Addr) (len cap : Nat) (w : World) :
    Calls Try.prog 42 #[.slice a len cap] w fun e w' => e = .returned (.func (.func 51) #[] #[ptr w.heap.size]) ∧ w' = w.alloc (.cells #[.slice a len cap] IntsT) := by
  go_enter Try.func42, Try.ntmps42
  go_wp2
  go_ret
  exact ⟨rfl, rfl⟩

set_option maxRecDepth 100000 in
set_option maxHeartbeats 4000000 in
theorem val1_in (l B1 cap : Nat) (a : Option Addr) (zs : List Int) (X : Nat → Prop) (W : World) (hl : Lies W ienc a zs) (hf : zs.length ≤ 4611686018427387904)
    (hB1 : W.cell? ⟨B1, 0, none⟩ = some (.slice a zs.length cap)) (hXa : zs ≠ [] → ∀ b off, a = some ⟨b, off, none⟩ → X b)
    (J Jx : List Int → World → Prop) (hY : ∀ pre x W1, J pre W1 → pre ++ [x] <+: zs → YieldAt Fence.wide 9 Try.prog l (zenc x) W1 (TolP (Kpt X) J Jx pre x W1)) (h0 : J [] W) :
    CallsIn Fence.wide 9 Try.prog 51 #[.func (.yield l) #[] #[], ptr B1] W fun e W' => (∃ v, e = .returned v) ∧ (J zs W' ∨ ∃ pre, pre <+: zs ∧ Jx pre W') := by
  refine callsIn_of_wp Try.func51 rfl trivial ?_ rfl
  simp only [Try.ntmps51, List.size_toArray, List.length_cons, List.length_nil, Nat.reduceAdd, Nat.reduceSub, Array.replicate_succ, Array.replicate_zero, List.push_toArray, List.append_toArray, List.nil_append, List.cons_append]
  gi_wp2
  gi_loopw [7] (fun i wr => ∃ k : Nat, k ≤ zs.length ∧ i = .int .i64 k ∧ J (zs.take k) wr ∧ Kpt X W wr) (fun i _ => zs.length - (intOf i).toNat)
  case atStart => exact ⟨0, Nat.zero_le _, rfl, h0, Kpt.refl _ _⟩
  case round =>
    obtain ⟨k, hk, rfl, hJs, hnx⟩ := hrel
    by_cases hlt : k < zs.length
    · obtain ⟨b, off, rfl, hbl, hc⟩ := hl.at ienc_len k hlt
      have hXb := hXa (fun e => by rw [e] at hlt; simp at hlt) b off rfl
      have c0 := (hnx.cell hXb).trans (hc 0 _ rfl)
      have HP := hide (show zs.take k ++ [zs[k]] <+: zs by rw [← List.take_succ_eq_append_getElem hlt]; exact List.take_prefix _ _)
      have HS := hide (List.take_succ_eq_append_getElem hlt)
      generalize zs[k] = x at *
      obtain ⟨fn, tmps, assign, body, hy, hR⟩ := yield_deep (m' := 8) (hY _ _ wr hJs HP.out)
      have i1 : (k : Int) < (zs.length : Int) := by omega
      have i2 : (0 : Int) ≤ (k : Int) := by omega
      rw [Nat.mul_one, Nat.add_zero] at c0
      dsimp only [zenc] at hy
      clear hc hl
      gi_wp2
      refine hR.mono ?_
      rintro e W3 (⟨rfl, hJ3, hk3⟩ | ⟨rfl, hJx3, _⟩)
      · gi_wp2
        go_roundw
        case rel => exact ⟨k + 1, by omega, by simp, by rw [HS.out]; exact hJ3, hnx.trans hk3⟩
        case measure => simp [intOf]; omega
      · gi_wp2
        refine bodyPost_ret (results_none rfl _ _ _) rfl ?_
        exact ⟨⟨_, rfl⟩, .inr ⟨_, HP.out, hJx3⟩⟩
    · have hke : k = zs.length := by omega
      have HK := hide hke
      clear hke
      gi_wp2
      go_end0
      exact ⟨⟨_, rfl⟩, .inl (by rw [HK.out, List.take_length] at hJs; exact hJs)⟩

theorem val_seq (w : World) (Bk B1 cap : Nat) (a : Option Addr) (zs : List Int) (X : Nat → Prop) (hl : Lies w ienc a zs) (hf : zs.length ≤ 4611686018427387904) (hB1l : B1 < w.heap.size)
    (hB1 : w.cell? ⟨B1, 0, none⟩ = some (.slice a zs.length cap)) (hXa : zs ≠ [] → ∀ b off, a = some ⟨b, off, none⟩ → X b) :
    SeqP Try.prog 51 #[ptr B1] zenc (Kpt X) zs Bk w :=
  fun l J Jx W hW _ _ _ hY h0 => val1_in l B1 cap a zs X W (hl.below hW) hf ((hW.cell (p := ⟨B1, 0, none⟩) hB1l).trans hB1) hXa J Jx hY h0

theorem row_own {β : Type} (f : β → List Int) (v : Value) (B n : Nat) : OwnB B (fun (s : β) W => W.ownsRow n IntT 1 v (f s).length (rc ienc (f s))) := fun s W W' row h hg hr =>
  own_stay h fun k hk => hg.block k (h.lt k hk).2 (fun e => by
    obtain ⟨_, o, ho, hc⟩ := hr k e.symm
    rcases h.2 with ⟨rfl, _⟩ | ⟨g, cap, cur, rfl, _, hg', _⟩
    · cases hk
    · cases hk; rw [hg'] at ho; cases ho; rcases hc with hc | ⟨_, hc⟩ <;> cases hc)

set_option maxRecDepth 100000 in
set_option maxHeartbeats 8000000 in
theorem appendSeq_in (gf : Nat) (lb : Array Value) (L : List Int) (X : Nat → Prop) (w : World) (eg : ∀ args w, (callFunc gf args).run Try.prog w = .ok (.enter gf args) w) (hseq : SeqP Try.prog gf lb zenc (Kpt X) L (w.heap.size + 3) w) (hX : ∀ k, X k → k < w.heap.size) (hLl : L.length * 8 ≤ 140737488355328) :
    CallsIn Fence.wide 9 Try.prog 53 #[.slice none 0 0, .func (.func gf) #[] lb] w fun e w' => ∃ v, e = .returned v ∧ w'.ownsRow w.heap.size IntT 1 v L.length (rc ienc L) ∧ Below w.heap.size w w' := by
  refine callsIn_of_wp_marks Try.func53 rfl trivial ?_ rfl
  simp only [Try.ntmps53, List.size_toArray, List.length_cons, List.length_nil, Nat.reduceAdd, Nat.reduceSub, Array.replicate_succ, Array.replicate_zero, List.push_toArray, List.append_toArray, List.nil_append, List.cons_append]
  gi_wp2
  obtain ⟨W0, hW0⟩ : ∃ W0, w.alloc (.cells #[.slice none 0 0] IntsT) = W0 := ⟨_, rfl⟩
  have hsz : W0.heap.size = w.heap.size + 1 := by rw [← hW0]; simp
  have bL : Boxed W0 w.heap.size IntsT (.slice none 0 0) := by rw [← hW0]; exact Boxed.new w _ _
  have hB0 : Below w.heap.size w W0 := by rw [← hW0]; exact (Below.refl _ w).alloc (Nat.le_refl _) _
  rw [hW0]
  clear hW0
  obtain ⟨i0, hi, hz0, hz1, hz2⟩ := info_parts int_info
  refine range_pre rfl eg (show SeqP Try.prog gf lb zenc (Kpt X) L (W0.heap.size + 2) w by rw [hsz]; exact hseq) (fun h k => h.trans k) (Kpt.put (fun k hk => by have := hX k hk; omega)) hB0 (fun _ => rfl)
    (fun pre W => (∃ v, Boxed W w.heap.size IntsT v ∧ W.ownsRow w.heap.size IntT 1 v pre.length (rc ienc pre)) ∧ Below w.heap.size w W)
    (fun _ _ _ => False)
    (OwnB.and (OwnB.ex fun v => OwnB.and (OwnB.boxed _ _ _ (fun _ => v) (Or.inl (by omega))) (row_own (fun pre : List Int => pre) v _ _)) (OwnB.below (Nat.le_refl _) (by omega)))
    (fun c s W W' row h _ _ => h)
    ⟨⟨_, bL, World.ownsRow_nil _ _ _ _⟩, hB0⟩
    (fun x a' _ => a' = { tmps := #[.slice none 0 0, .func (.func gf) #[] lb, ptr w.heap.size, undef, .slice none 0 0, .int .i64 x, .func (.func gf) #[] lb, .int .i64 x, undef, undef, undef, undef, undef], defers := [] })
    (fun x a' => ownFrom_pure _ (fun _ => a' = _))
    ?assign ?body ?done ?stop
  case assign =>
    rintro l' pre x W K hI hK
    dsimp only [zenc]
    gi_wp2
    exact hK _ _ (KeepsFrom.refl _ _) (Kpt.refl _ _) hI rfl
  case body =>
    rintro l' pre x a' W hl' hpre ⟨⟨v, hv, hrow⟩, hB⟩ rfl
    have hlen := hpre.length_le
    rw [List.length_append, List.length_singleton] at hlen
    have c1 := hv.cell
    have hzz := hB.size
    gi_wp2_with (gi_at_builtin; refine wpListIn_append_own _ rfl _ _ IntsT rfl w.heap.size IntT i0 (.int .i64 0) 1 8 Try.underlying22 hi hz0 hz1 hz2 rfl (by decide) _ _ _ rfl (hrow.alloc _) ⟨W.heap.size, 0, none⟩ 1 1 [.int .i64 x] rfl rfl (cell_one_new _ _ _) (by simp [Value.oneCell']) (by unfold maxLen; omega) (by omega) (by simp; omega) ?_; intro v' w1 hown' hgrow _; obtain ⟨g', cap', rfl⟩ := ownsRow_succ hown'; obtain ⟨hv1, hv2, hr2, hk2, hb2⟩ := hv.appended (by decide) hrow hB.size (Nat.le_refl _) hown' hgrow; have hc1 := hv1.cell; have hf1 := hv1.frozen)
    refine ⟨hk2.from _, Kpt.below hb2 hX, ⟨_, hv2, ?_⟩, hB.trans hb2⟩
    rw [List.length_append, rc_append, rc_one]; exact hr2
  case done =>
    rintro D W hD ⟨⟨v, hv, hrow⟩, hB⟩ hK
    obtain ⟨av, cv, rfl⟩ := own_slice hrow
    have c1 := hv.cell
    gi_wp2
    refine ⟨by simp, .inl ⟨_, _, rfl, run_takeDeferred hK, ?_⟩⟩
    exact ⟨_, results_tmp rfl _ _ _, .slice av L.length cv, rfl, ownsRow_putObj hrow _ hK rfl, hB.trans (belowK_b (w := w) (Nat.le_refl _) W D _ _ (by omega) hK rfl rfl)⟩
  case stop =>
    rintro D c pre W hD hpre h
    exact h.elim

/-- the number in the middle -/
def med (zs : List Int) : Int := ((zs.mergeSort fun x y => decide (x ≤ y))[(zs.length - 1) / 2]?).getD 0

theorem rc_ienc (l : List Int) : rc ienc l = l.map (Value.int .i64) := by
  induction l with
  | nil => rfl
  | cons x r ih => rw [rc_cons, ih]; rfl

set_option maxRecDepth 100000 in
set_option maxHeartbeats 2000000 in
theorem sorted_any (a : Option Addr) (cap : Nat) (zs : List Int) (hne : zs ≠ []) (w : World) (hl : Lies w ienc a zs) (hLl : zs.length * 8 ≤ 140737488355328) (B1 : Nat) (hB1 : B1 < w.heap.size) (hB1c : w.cell? ⟨B1, 0, none⟩ = some (.slice a zs.length cap)) :
    Calls Try.prog 41 #[.func (.func 51) #[] #[ptr B1]] w fun e w' => ∃ v, e = .returned v ∧ w'.ownsRow w.heap.size IntT 1 v zs.length (rc ienc (zs.mergeSort fun x y => decide (x ≤ y))) ∧ Below w.heap.size w w' := by
  have HA := hide (callsIn_wide.1 (appendSeq_in 51 #[ptr B1] zs (fun k => k < w.heap.size) w (enters_of Try.func51 (by kernel_rfl) rfl) (val_seq w _ B1 cap a zs _ hl (by omega) hB1 hB1c (fun hne b off e => by
    rcases hl with h0 | ⟨b', o', e', hlt, _⟩
    · exact absurd h0 hne
    · rw [e] at e'; cases e'; exact hlt)) (fun _ h => h) hLl))
  have HC : Hid (Calls Try.prog 49 #[.func (.func 51) #[] #[ptr B1]] w fun e w' => ∃ v, e = .returned v ∧ w'.ownsRow w.heap.size IntT 1 v zs.length (rc ienc zs) ∧ Below w.heap.size w w') := by
    refine hide ?_
    go_enter Try.func49, Try.ntmps49
    go_wp2_with (go_at_call 53; refine HA.out.mono ?_; rintro e w1 ⟨v1, rfl, hr1, hb1⟩)
    go_ret
    exact ⟨v1, rfl, hr1, hb1⟩
  clear HA hl
  have hpos : 0 < zs.length := List.length_pos_iff.2 hne
  go_enter Try.func41, Try.ntmps41
  go_wp2_with (go_at_call 49; refine HC.out.mono ?_; rintro e w1 ⟨v1, rfl, hr1, hb1⟩)
  obtain ⟨g, cap2, cur, rfl, hg, h1, h2, h3, h4⟩ := own_form hr1 hpos
  have hgb : w.heap.size ≤ g := by rcases hr1.2 with ⟨e, _⟩ | ⟨g', c', cur', e, hb, _⟩ <;> cases e; exact hb
  have hh : Holds (Value.int .i64) w1 g 0 zs.toArray := holds_of_blockI hg (by rw [Nat.mul_one] at h4; rw [h4, rc_ienc])
  have hS := Any.slices_Sort_int Try.laysSort g 0 cap2 zs w1 hh (Array.getElem?_eq_some_iff.1 hg).1 (by omega)
  go_wp2_with (go_at_call 50; refine hS.mono ?_; rintro e w2 ⟨rfl, n, os, rfl⟩)
  have hr2 := ownsRow_sortedI (n := n) (os := os) (base := w.heap.size) (ss := zs) (ts := zs.mergeSort fun x y => decide (x ≤ y)) (by simp) hgb hg h1 h2 (by rw [h3, Nat.mul_one])
  have hg2 := grownBy_sortedI (w := w1) (g := g) (n := n) (os := os) (zs.mergeSort fun x y => decide (x ≤ y)).toArray
  go_ret
  exact ⟨_, rfl, by rw [rc_ienc]; exact hr2, hb1.grown hg2 hb1.size fun k e => by cases e; exact hgb⟩

set_option maxRecDepth 100000 in
set_option maxHeartbeats 2000000 in
theorem hadByMost_any (a : Option Addr) (cap : Nat) (zs : List Int) (hne : zs ≠ []) (w : World) (hl : Lies w ienc a zs) (hLl : zs.length * 8 ≤ 140737488355328) :
    Calls Try.prog 21 #[.slice a zs.length cap] w fun e w' => e = .returned (.int .i64 (med zs)) ∧ Below w.heap.size w w' := by
  have hb0 : Below w.heap.size w (w.alloc (.cells #[.slice a zs.length cap] IntsT)) := (Below.refl _ w).alloc (Nat.le_refl _) _
  have HS := hide (sorted_any a cap zs hne (w.alloc (.cells #[.slice a zs.length cap] IntsT)) (hl.below hb0) hLl w.heap.size (by simp) (Boxed.new w IntsT (.slice a zs.length cap)).cell)
  have HV := hide (values_any a zs.length cap w)
  have hpos : 0 < zs.length := List.length_pos_iff.2 hne
  have hk : (zs.length - 1) / 2 < (zs.mergeSort fun x y => decide (x ≤ y)).length := by rw [List.length_mergeSort]; omega
  have HM := hide (show med zs = ((zs.mergeSort fun x y => decide (x ≤ y))[(zs.length - 1) / 2]?).getD 0 from rfl)
  have hlm : (zs.mergeSort fun x y => decide (x ≤ y)).length = zs.length := List.length_mergeSort _
  generalize zs.mergeSort (fun x y => decide (x ≤ y)) = ms at *
  generalize hkk : (zs.length - 1) / 2 = k at HM hk
  have i1 : ((zs.length : Int) - 1).tdiv 2 = (k : Int) := by
    rw [Int.tdiv_eq_ediv_of_nonneg (by omega)]; omega
  have i2 : (k : Int) < (zs.length : Int) := by omega
  have i3 : (0 : Int) ≤ (k : Int) := by omega
  have i4 : (zs.length : Int) ≤ 140737488355328 := by omega
  have i5 : (0 : Int) ≤ (zs.length : Int) - 1 := by omega
  clear hkk hl
  go_enter Try.func21, Try.ntmps21
  have HCL := hide (show ∀ (w2 : World) (g cap2 : Nat) (cur : Array Value), w2.heap[g]? = some (.cells cur IntT (0, 0)) → cur.toList.take (zs.length * 1) = rc ienc ms → w2.cell? ⟨g, k, none⟩ = some (.int .i64 ms[k]) by
    intro w2 g cap2 cur hg h4
    rw [cell_of_block hg]
    rw [rc_ienc, Nat.mul_one] at h4
    have h5 : (cur.toList.take zs.length)[k]? = some (.int .i64 ms[k]) := by rw [h4]; simp [hk]
    rw [List.getElem?_take, if_pos (by omega)] at h5
    simpa using h5)
  clear hlm
  go_wp2_with (first | (go_at_call 42; refine HV.out.mono ?_; rintro e w1 ⟨rfl, rfl⟩) | (go_at_call 41; refine HS.out.mono ?_; rintro e w2 ⟨v2, rfl, hr2, hb2⟩; obtain ⟨g, cap2, cur, rfl, hg, h1, h2, h3, h4⟩ := own_form hr2 hpos; have hcell := HCL.out w2 g cap2 cur hg h4; clear h4 h3 hg))
  go_ret
  exact ⟨by rw [HM.out, List.getElem?_eq_getElem hk]; rfl, hb0.trans (hb2.mono (by simp))⟩

end Go.Proofs.Ytckomhaobdaipaa.Rl
