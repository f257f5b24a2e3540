/- What is refused of a log: Merge and Append of entries that may not follow. Layer 15: a log's entries, and a log of entries: entriesFrom, entriesUpTo, logOf. Layer 15: Term, Vote, Log, stand, Turn, Cast. -/
import Derived.Test.YtmpahgklcabihaaGreatRlApp
import Derived.Test.YtmpahgklcabihaaGreatBaSt
import Derived.Test.YtmpahgklcabihaaGreatBaWrt
namespace Go.Proofs.YtmpahgklcabihaaGreat.Rl
open Go.RowKit Go.Joins Gk

set_option maxRecDepth 100000 in
set_option maxHeartbeats 8000000 in
theorem merge_no (bl : Nat) (S : Lo) (v : Value) (p : Nat) (t : Int) (a : Option Addr) (cap : Nat) (fs : List En) (w : World) (hS : LH w bl S v) (hbd : S.b + S.es.length ≤ 1048577) (hp : p ≤ S.es.length) (ht : S.tm (S.b + p) = t) (hl : Gk.Lies w eenc a fs) (hfl : fs.length ≤ 4611686018427387)
    (c : Int) (hc : mcode t (nmb (S.b + p + 1) fs) = c) (hc0 : ¬ c = 0) :
    CallsIn Fence.wide 9 Tryz.prog 94 #[ptr bl, .int .i64 ((S.b + p : Nat) : Int), .int .i64 t, .slice a fs.length cap] w fun e w' => e = .returned (.tuple #[.int .i64 0, .int .i64 0, .int .i64 c]) ∧ Below w.heap.size w w' := by
  have HK := hide (fun W (h : LH W bl S v) => knows_any bl S v ((S.b + p : Nat) : Int) W h hbd)
  rw [show decide ((S.b : Int) ≤ ((S.b + p : Nat) : Int) ∧ ((S.b + p : Nat) : Int) ≤ (S.last : Int)) = true by rw [decide_eq_true_iff]; unfold Lo.last; omega] at HK
  have HT := hide (fun W (h : LH W bl S v) => termAt_any bl S v (S.b + p) W h hbd (by omega) (by unfold Lo.last; omega))
  rw [ht] at HT
  have HN := hide (fun W => numbered_any (S.b + p + 1) a fs.length cap W)
  have hpe : ((S.b + p + 1 : Nat) : Int) = ((S.b + p : Nat) : Int) + 1 := by omega
  rw [hpe] at HN
  generalize hpv0 : S.b + p = pv at *
  have hpv : S.b + p ≤ pv ∧ pv ≤ S.b + p := by omega
  have HTM := hide ht
  clear hpv0 ht
  have hpv1 : (pv : Int) ≤ 1048577 := by omega
  have hpv0 : (0 : Int) ≤ (pv : Int) := by omega
  refine callsIn_of_wp_marks Tryz.func94 rfl trivial ?_ rfl
  simp only [Tryz.ntmps94, List.size_toArray, List.length_cons, List.length_nil, Nat.reduceAdd, Nat.reduceSub, Array.replicate_succ, Array.replicate_zero, List.push_toArray, List.append_toArray, List.nil_append, List.cons_append]
  have hba : Below w.heap.size w ((w.alloc (.cells #[ptr bl] PLT)).alloc (.cells #[.int .i64 0] 3)) := ((Below.refl _ w).alloc (Nat.le_refl _) _).alloc (by simp) _
  gi_wp2_with (refine ⟨trivial, ?_⟩; gi_at_call 141; refine (callsIn_wide.2 (HK.out _ (hS.below hba))).mono ?_; rintro e w1 ⟨rfl, q1, rfl⟩)
  refine ⟨trivial, (callsIn_wide.2 (HT.out _ ((hS.below hba).drewN q1))).mono ?_⟩
  rintro e w2 ⟨rfl, q2, rfl⟩
  gi_wp2
  obtain ⟨W1, hW1⟩ : ∃ W1, ((w.alloc (.cells #[ptr bl] PLT)).alloc (.cells #[.int .i64 0] 3)).drewN (q1 + q2) = W1 := ⟨_, rfl⟩
  have z1 : W1.heap.size ≤ w.heap.size + 2 ∧ w.heap.size + 2 ≤ W1.heap.size := by rw [← hW1]; simp
  have b1 : Below w.heap.size w W1 := by rw [← hW1]; exact below_drewN hba _
  have bL1 : Boxed W1 w.heap.size PLT (ptr bl) := by rw [← hW1]; exact (Boxed.new w _ _).alloc _
  have bC1 : Boxed W1 (w.heap.size + 1) 3 (.int .i64 0) := by
    rw [← hW1]; have := Boxed.new (w.alloc (.cells #[ptr bl] PLT)) 3 (.int .i64 0); rw [World.size_alloc] at this; exact this
  rw [hW1]
  clear hW1 hba
  refine ⟨trivial, (callsIn_wide.2 (HN.out _)).mono ?_⟩
  rintro e w3 ⟨rfl, rfl⟩
  obtain ⟨W2, hW2⟩ : ∃ W2, (W1.alloc (.cells #[.int .i64 ((pv : Int) + 1)] 3)).alloc (.cells #[.slice a fs.length cap] EnsT) = W2 := ⟨_, rfl⟩
  have z2 : W2.heap.size ≤ W1.heap.size + 2 ∧ W1.heap.size + 2 ≤ W2.heap.size := by rw [← hW2]; simp
  have b2 : Below W1.heap.size W1 W2 := by rw [← hW2]; exact ((Below.refl _ W1).alloc (Nat.le_refl _) _).alloc (by simp) _
  have bF2 : Boxed W2 W1.heap.size 3 (.int .i64 ((pv + 1 : Nat) : Int)) := by rw [← hW2, hpe]; exact (Boxed.new W1 _ _).alloc _
  have bE2 : Boxed W2 (W1.heap.size + 1) EnsT (.slice a fs.length cap) := by
    rw [← hW2]; have := Boxed.new (W1.alloc (.cells #[.int .i64 ((pv : Int) + 1)] 3)) EnsT (.slice a fs.length cap); rw [World.size_alloc] at this; exact this
  rw [hW2]
  clear hW2
  have hl2 : Gk.Lies W2 eenc a fs := (hl.below b1).below b2
  have hfl2 : pv + 1 + fs.length ≤ 4611686018427387904 := by omega
  have hab : ∀ W, Gk.Lies W eenc a fs → fs ≠ [] → ∀ b off, a = some ⟨b, off, none⟩ → b < W.heap.size := fun W h hne b off e => by
    rcases h with h | ⟨b', o', e', hlt, _⟩
    · exact absurd h hne
    · rw [e] at e'; cases e'; exact hlt
  have HM := hide (may_in t 176 #[ptr (W1.heap.size + 1), ptr W1.heap.size] (nmb (pv + 1) fs) (fun k => k < W2.heap.size) W2 (enters_of Tryz.func176 (by kernel_rfl) rfl) (num_seq W2 _ (W1.heap.size + 1) W1.heap.size cap (pv + 1) a fs _ hl2 hfl2 (by omega) bE2.cell bF2.cell (fun _ h => h) (by omega) (fun hne b off e => hab _ hl2 hne b off e)) (fun _ h => h))
  rw [hc] at HM
  gi_wp2
  refine ⟨trivial, (callsIn_wide.2 (callsIn_wide.1 HM.out)).mono ?_⟩
  rintro e W3 ⟨rfl, b3⟩
  have hb30 : Below w.heap.size w W3 := b1.trans ((b2.mono (by omega)).trans (b3.mono (by omega)))
  have bC3 : Boxed W3 (w.heap.size + 1) 3 (.int .i64 0) := (b3.block _ (by omega)).trans ((b2.block _ (by omega)).trans bC1)
  have k3 := bC3.cell
  have f3 := bC3.frozen
  have hc1 : (c == 0) = false := by simpa using hc0
  clear HM HN HK HT hl2 hl hab
  gi_wp2
  have k5 := (bC3.set (.int .i64 0)).cell
  refine ⟨.tuple #[.int .i64 0, .int .i64 0, .int .i64 c], ?_, rfl, hb30.setCell (p := ⟨w.heap.size + 1, 0, none⟩) (by show _ ≤ w.heap.size + 1; omega) _⟩
  simp [results, Tryz.f94, go_sem, k5]

set_option maxRecDepth 100000 in
set_option maxHeartbeats 2000000 in
theorem Append_no (bl : Nat) (S : Lo) (v : Value) (e : En) (w : World) (h : LH w bl S v) (hbd : S.b + S.es.length ≤ 1048577) (c : Int) (hc : mcode (S.tm S.last) (nmb (S.b + S.es.length + 1) [e]) = c) (hc0 : ¬ c = 0) :
    Calls Tryz.prog 120 #[ptr bl, .agg #[.int .i64 e.t, .string e.d]] w fun r w' => r = .returned (.tuple #[.int .i64 0, .int .i64 c]) ∧ Below w.heap.size w w' := by
  have HL := hide (fun W (h : LH W bl S v) => Last_any bl S v W h hbd)
  have HM := hide (fun W (h1 : LH W bl S v) (b : Nat) (hb : W.heap[b]? = some (.cells #[.int .i64 e.t, .string e.d] EnT (0, 0))) =>
    callsIn_wide.1 (merge_no bl S v S.es.length (S.tm S.last) (some ⟨b, 0, none⟩) 1 [e] W h1 hbd (Nat.le_refl _) rfl (Or.inr ⟨b, 0, rfl, (Array.getElem?_eq_some_iff.1 hb).1, fun j u hj => by rw [rc_one] at hj; rw [Nat.zero_add, cell_of_block hb]; simpa [eenc] using hj⟩) (by simp) c hc hc0))
  have HE := hide (show S.b + S.es.length = S.last from rfl)
  rw [HE.out] at HM
  have H := hide h
  have hz := h.lt
  clear h hbd hc
  generalize S.tm S.last = y at *
  generalize S.last = n at *
  clear HE
  go_enter Tryz.func120, Tryz.ntmps120
  have hb1 : Below w.heap.size w (w.alloc (.cells #[.int .i64 e.t, .string e.d] EnT)) := (Below.refl _ w).alloc (Nat.le_refl _) _
  go_wp2_with fail
  refine (HL.out _ (H.out.below hb1)).mono ?_
  rintro r w1 ⟨rfl, q, rfl⟩
  obtain ⟨W1, hW1⟩ : ∃ W1, (w.alloc (.cells #[.int .i64 e.t, .string e.d] EnT)).drewN q = W1 := ⟨_, rfl⟩
  have hB : Below w.heap.size w W1 := by rw [← hW1]; exact below_drewN hb1 _
  have hx : W1.heap[w.heap.size]? = some (.cells #[.int .i64 e.t, .string e.d] EnT (0, 0)) := by rw [← hW1]; exact heap_alloc_new w _
  rw [hW1]
  clear hW1 hb1
  have x0 : W1.cell? ⟨w.heap.size, 0, none⟩ = some (.int .i64 e.t) := by rw [cell_of_block hx]; rfl
  have x1 : W1.cell? ⟨w.heap.size, 1, none⟩ = some (.string e.d) := by rw [cell_of_block hx]; rfl
  have HB := hide (((Below.refl W1.heap.size W1)).alloc (Nat.le_refl _) (.cells #[.int .i64 e.t, .string e.d] EnT))
  have H1 := hide (H.out.below hB)
  have HBB := hide hB
  clear hB hx
  go_wp2_with fail
  refine (HM.out _ (H1.out.below HB.out) W1.heap.size (heap_alloc_new W1 _)).mono ?_
  rintro r w2 ⟨rfl, ht⟩
  go_wp2
  go_ret2
  exact ⟨rfl, (HBB.out.trans (HB.out.mono HBB.out.size)).trans (ht.mono (Nat.le_trans HBB.out.size HB.out.size))⟩

end Go.Proofs.YtmpahgklcabihaaGreat.Rl

namespace Go.Proofs.YtmpahgklcabihaaGreat.Ba
open Go.RowKit Go.Joins Go.Proofs.YtmpahgklcabihaaGreat.Gk
open Go.Proofs.YtmpahgklcabihaaGreat.Rl (En Lo LH ER ptr blk eenc EnT Mf mcode nmb map_nmb hasBad mfs)

theorem mfs_ok : ∀ (P : List En) (f : Nat) (s : Mf), s.st = false → s.lg = false → (s.t :: P.map (·.t)).Pairwise (· ≤ ·) → (∀ e ∈ P, e.d.size ≤ 4096) → f + P.length ≤ 1048577 → ((nmb f P).foldl Mf.step s).st = false ∧ ((nmb f P).foldl Mf.step s).lg = false
  | [], _, s, h1, h2, _, _, _ => ⟨h1, h2⟩
  | e :: P, f, s, h1, h2, h3, h4, h5 => by
    rw [nmb, List.foldl_cons]
    rw [List.map_cons, List.pairwise_cons] at h3
    have h6 := h3.1 e.t (by simp)
    have h7 := h4 e (by simp)
    simp only [List.length_cons] at h5
    refine mfs_ok P (f + 1) _ ?_ ?_ h3.2 (fun x hx => h4 x (by simp [hx])) (by omega)
    · simp only [Mf.step, h1, Bool.false_or, decide_eq_false_iff_not]; omega
    · simp only [Mf.step, h2, Bool.false_or, Bool.or_eq_false_iff, decide_eq_false_iff_not]
      exact ⟨by omega, by omega⟩
theorem nmb_mem {f : Nat} {P : List En} {x : Nat × En} (h : x ∈ nmb f P) : x.2 ∈ P := by
  have : x.2 ∈ (nmb f P).map (·.2) := List.mem_map.2 ⟨x, h, rfl⟩
  rwa [map_nmb] at this
theorem mcode_zero {t : Int} {f : Nat} {P : List En} (h1 : ∀ e ∈ P, 1 ≤ e.t ∧ e.t ≤ 1073741824 ∧ e.d.size ≤ 4096) (h2 : (t :: P.map (·.t)).Pairwise (· ≤ ·)) (h3 : f + P.length ≤ 1048577) : mcode t (nmb f P) = 0 := by
  have hb : ¬ hasBad (nmb f P) := by
    rintro ⟨x, hx, hb⟩
    have := h1 _ (nmb_mem hx)
    rcases hb with hb | hb <;> omega
  obtain ⟨h4, h5⟩ := mfs_ok P f ⟨t, false, false⟩ rfl rfl h2 (fun e he => (h1 e he).2.2) h3
  rw [mcode, if_neg hb]
  unfold mfs
  rw [h4, h5]; rfl

/-- entries that may be in a log, from its beginning on -/
structure Es (es : List En) : Prop where
  each : ∀ e ∈ es, 1 ≤ e.t ∧ e.t ≤ 1073741824 ∧ e.d.size ≤ 4096
  rise : (es.map En.t).Pairwise (· ≤ ·)
  many : es.length ≤ 1048576
theorem Es.code {es : List En} (h : Es es) : mcode 0 (nmb 1 es) = 0 := by
  refine mcode_zero h.each ?_ (by have := h.many; omega)
  rw [List.pairwise_cons]
  refine ⟨fun y hy => ?_, h.rise⟩
  obtain ⟨e, he, rfl⟩ := List.mem_map.1 hy
  have := (h.each e he).1; omega
theorem Es.ds {es : List En} (h : Es es) : ∀ e ∈ es, e.d.size ≤ 140737488351232 := fun e he => by have := (h.each e he).2.2; omega
theorem Bl.Ok.es {n : Int} {s : Bl} (h : s.Ok n) (hm : s.es.length ≤ 1048576) : Es s.es := ⟨fun e he => by have := h.each e he; have := h.t1; omega, h.rise, hm⟩

set_option maxRecDepth 100000 in
set_option maxHeartbeats 1000000 in
theorem from_any (bl : Nat) (es : List En) (v : Value) (i : Nat) (w : World) (h : LH w bl ⟨0, 0, es⟩ v) (he : Es es) (hi : i ≤ es.length) :
    Calls Tryz.prog 52 #[ptr bl, .int .i64 ((i + 1 : Nat) : Int)] w fun r w' => ∃ v', r = .returned v' ∧ ER w' v' (es.drop i) ∧ (∀ g, blk v' = some g → w.heap.size ≤ g) ∧ Below w.heap.size w w' := by
  have hS := Rl.Slice_ok bl ⟨0, 0, es⟩ v i 9223372036854775807 (by decide) w h (by have := he.many; show 0 + es.length ≤ _; omega) hi he.ds
  rw [show (0 : Nat) + 1 + i = i + 1 by omega] at hS
  have hk : ((es.drop i).take (min (9223372036854775807 : Int).toNat (es.length - i))) = es.drop i := by
    have := he.many
    rw [List.take_of_length_le]; rw [List.length_drop]; show _ ≤ min 9223372036854775807 _; omega
  dsimp only at hS
  rw [hk] at hS
  clear hk h
  generalize i + 1 = j at *
  generalize es.drop i = ds at *
  go_enter Tryz.func52, Tryz.ntmps52
  go_wp2_with fail
  refine hS.mono ?_
  rintro r w1 ⟨v', rfl, h1, h2, h3⟩
  obtain ⟨a1, c1, rfl, _⟩ := h1.slice
  go_wp2
  go_ret
  exact ⟨_, rfl, h1, h2, h3⟩

set_option maxRecDepth 100000 in
set_option maxHeartbeats 1000000 in
theorem upto_any (bl : Nat) (es : List En) (v : Value) (i : Nat) (w : World) (h : LH w bl ⟨0, 0, es⟩ v) (hes : es.length ≤ 1048577) (hds : ∀ e ∈ es, e.d.size ≤ 140737488351232) (hi : i ≤ es.length) :
    Calls Tryz.prog 196 #[ptr bl, .int .i64 i] w fun r w' => ∃ v', r = .returned v' ∧ ER w' v' (es.take i) ∧ (∀ g, blk v' = some g → w.heap.size ≤ g) ∧ Below w.heap.size w w' := by
  have hS := Rl.Slice_ok bl ⟨0, 0, es⟩ v 0 i (by omega) w h (by show 0 + es.length ≤ _; omega) (Nat.zero_le _) hds
  have hk : ((es.drop 0).take (min (i : Int).toNat (es.length - 0))) = es.take i := by
    rw [List.drop_zero, Int.toNat_natCast, Nat.sub_zero, Nat.min_eq_left hi]
  dsimp only at hS
  rw [hk] at hS
  clear hk h
  generalize es.take i = ds at *
  go_enter Tryz.func196, Tryz.ntmps196
  go_wp2_with fail
  refine hS.mono ?_
  rintro r w1 ⟨v', rfl, h1, h2, h3⟩
  obtain ⟨a1, c1, rfl, _⟩ := h1.slice
  go_wp2
  go_ret
  exact ⟨_, rfl, h1, h2, h3⟩

/-- a log that a call made -/
structure Mk (w w' : World) (bl : Nat) (es : List En) : Prop where
  log : ∃ v, LH w' bl ⟨0, 0, es⟩ v
  new : ∀ k, Rl.own w' bl k → w.heap.size ≤ k
  bel : Below w.heap.size w w'
theorem mrg_new (fs : List En) : (Lo.new.mrg 0 fs).1 = ⟨0, 0, fs⟩ := by
  have hm : Rl.mt (Lo.new.es.drop 0) fs = 0 := by cases fs <;> rfl
  rw [Lo.mrg, hm, Rl.mI]
  cases fs with
  | nil => rfl
  | cons e r => simp [Lo.new]
set_option maxRecDepth 100000 in
set_option maxHeartbeats 1000000 in
theorem logOf_any (a : Option Addr) (cap : Nat) (es : List En) (w : World) (hl : Gk.Lies w eenc a es) (he : Es es) :
    Calls Tryz.prog 51 #[.slice a es.length cap] w fun r w' => ∃ bl, r = .returned (ptr bl) ∧ Mk w w' bl es := by
  go_enter Tryz.func51, Tryz.ntmps51
  go_wp2_with fail
  refine (Rl.New_any w).mono ?_
  rintro r w1 ⟨rfl, hL1, hw1⟩
  have hb1 : Below w.heap.size w w1 := by rw [hw1]; exact (Below.refl _ _).alloc (Nat.le_refl _) _
  have ho1 : ∀ k, Rl.own w1 w.heap.size k → w.heap.size ≤ k := by
    rintro k (rfl | hk)
    · exact Nat.le_refl _
    · rw [hL1.lbk] at hk; cases hk
  have hl1 := hl.below hb1
  have HM := hide (callsIn_wide.1 (Rl.merge_in w.heap.size Lo.new _ 0 0 a cap es w1 hL1 (by decide) (by decide) rfl hl1 (by have := he.many; omega) (fun hne b off e ho => by
    have := ho1 b ho
    rcases hl with h | ⟨b', o', e', hlt, _⟩
    · exact hne h
    · rw [e] at e'; cases e'; omega) he.code))
  rw [mrg_new] at HM
  clear hw1 hl hl1
  go_wp2_with fail
  refine HM.out.mono ?_
  rintro r w2 ⟨rfl, hL2, ht2⟩
  generalize (Lo.mrg Lo.new 0 es).2 = cc at *
  go_wp2
  go_ret
  refine ⟨_, rfl, hL2, ?_, hb1.trans (Gk.Only.below ht2.only hb1.size ho1)⟩
  rintro k (rfl | hk)
  · exact Nat.le_refl _
  · rcases ht2.new k hk with e | e
    · exact ho1 k (Or.inr e)
    · exact Nat.le_trans hb1.size e

end Go.Proofs.YtmpahgklcabihaaGreat.Ba

namespace Go.Proofs.YtmpahgklcabihaaGreat.Ba
open Go.RowKit Go.Joins Go.Proofs.YtmpahgklcabihaaGreat.Gk
open Go.Proofs.YtmpahgklcabihaaGreat.Dk (St Bs)
open Go.Proofs.YtmpahgklcabihaaGreat.Rl (En Lo LH ER ptr blk)

section
variable {bb bd : Nat} {n : Int} {S : St} {s : Bl} {X : Nat → Prop}
theorem BB.cells {w : World} (h : BB w bb bd n S s X) : ∃ bl v, w.cell? ⟨bb, 0, none⟩ = some (ptr bd) ∧ w.cell? ⟨bb, 1, none⟩ = some (.int .i64 n) ∧ w.cell? ⟨bb, 2, none⟩ = some (.int .i64 s.t) ∧ w.cell? ⟨bb, 3, none⟩ = some (.int .i64 s.v) ∧ w.cell? ⟨bb, 4, none⟩ = some (ptr bl) ∧ LH w bl ⟨0, 0, s.es⟩ v := by
  obtain ⟨bl, v, D, h, _⟩ := h
  obtain ⟨c0, c1, c2, c3, c4⟩ := h.c
  exact ⟨bl, v, c0, c1, c2, c3, c4, h.log⟩
theorem Term_any (w : World) (h : BB w bb bd n S s X) : Calls Tryz.prog 42 #[ptr bb] w fun e w' => e = .returned (.int .i64 s.t) ∧ w' = w := by
  obtain ⟨bl, v, c0, c1, c2, c3, c4, hl⟩ := h.cells
  go_enter Tryz.func42, Tryz.ntmps42
  go_wp2
  go_ret
  exact ⟨rfl, rfl⟩
theorem Vote_any (w : World) (h : BB w bb bd n S s X) : Calls Tryz.prog 286 #[ptr bb] w fun e w' => e = .returned (.int .i64 s.v) ∧ w' = w := by
  obtain ⟨bl, v, c0, c1, c2, c3, c4, hl⟩ := h.cells
  go_enter Tryz.func286, Tryz.ntmps286
  go_wp2
  go_ret
  exact ⟨rfl, rfl⟩
set_option maxRecDepth 100000 in
set_option maxHeartbeats 1000000 in
theorem Log_any (w : World) (h : BB w bb bd n S s X) (he : Es s.es) : Calls Tryz.prog 25 #[ptr bb] w fun e w' => ∃ bl, e = .returned (ptr bl) ∧ Mk w w' bl s.es := by
  obtain ⟨bl, v, c0, c1, c2, c3, c4, hl⟩ := h.cells
  have HF := hide (from_any bl s.es v 0 w hl he (Nat.zero_le _))
  rw [List.drop_zero] at HF
  clear hl c0 c1 c2 c3
  go_enter Tryz.func25, Tryz.ntmps25
  go_wp2_with fail
  refine HF.out.mono ?_
  rintro e w1 ⟨v1, rfl, h1, h2, hb1⟩
  obtain ⟨a1, p1, rfl, _⟩ := h1.slice
  have HL := hide (logOf_any a1 p1 s.es w1 h1.lies he)
  clear h1 h2 HF
  go_wp2_with fail
  refine HL.out.mono ?_
  rintro e w2 ⟨b2, rfl, hM⟩
  go_wp2
  go_ret
  exact ⟨b2, rfl, hM.log, fun k hk => Nat.le_trans hb1.size (hM.new k hk), hb1.trans (hM.bel.mono hb1.size)⟩

/-- what stand does -/
def pick0 (c : Nat) (a b : Bl) : Bl := if c = 0 then a else b
def stn (S : St) (s : Bl) (t v : Int) : Nat × St × Bl := ((wrt S (Rc.st t v).fr).1, (wrt S (Rc.st t v).fr).2, pick0 (wrt S (Rc.st t v).fr).1 ⟨t, v, s.es⟩ s)
abbrev LsT : TypeId := 122
theorem one_lies {w : World} {g : Nat} {x : LX} {t : TypeId} (h : w.heap[g]? = some (.cells #[lv x] t (0, 0))) : Gk.Lies w lenc (some ⟨g, 0, none⟩) [x] :=
  Or.inr ⟨g, 0, rfl, (Array.getElem?_eq_some_iff.1 h).1, fun j u hj => by
    rw [cell_of_block h, Nat.zero_add]
    rw [rc_one] at hj
    simpa [lenc] using hj⟩
set_option maxRecDepth 100000 in
set_option maxHeartbeats 2000000 in
theorem stand_any (t' v' : Int) (w : World) (h : BB w bb bd n S s X) (hm : (Rc.st t' v').may) :
    Calls Tryz.prog 124 #[ptr bb, .int .i64 t', .int .i64 v'] w fun e w' => e = .returned (.int .i64 (stn S s t' v').1) ∧ ∃ X', BB w' bb bd n (stn S s t' v').2.1 (stn S s t' v').2.2 X' ∧ Tu X X' w w' := by
  have HS := hide (standing_any t' v' w)
  have hfl := fr_le hm
  go_enter Tryz.func124, Tryz.ntmps124
  go_wp2_with fail
  refine HS.out.mono ?_
  rintro e w1 ⟨u, rfl, ho, hb1⟩
  clear HS
  obtain ⟨ua, uc, rfl⟩ := own_slice ho
  have hb2 : Below w1.heap.size w1 (w1.alloc (.cells #[.slice ua 3 uc] LsT)) := (Below.refl _ w1).alloc (Nat.le_refl _) _
  have hB2 := (h.below hb1).below hb2
  have HW := hide (write_any bb bd n S s X (some ⟨w1.heap.size, 0, none⟩) 1 [(Rc.st t' v', ua, uc)] _ hB2 (one_lies (heap_alloc_new w1 _)) (fun x hx => by
    rw [List.mem_singleton.1 hx]; exact ⟨hm, Gk.own_below (Gk.own_mono ho (Nat.zero_le _)) hb2⟩) (by simp) (by simp only [rcs, List.map_cons, List.map_nil, frs_one]; omega))
  simp only [rcs, List.map_cons, List.map_nil, frs_one, List.length_singleton] at HW
  have HB := hide (hb1.trans (hb2.mono hb1.size))
  obtain ⟨R, hR⟩ : ∃ R, wrt S (Rc.st t' v').fr = R := ⟨_, rfl⟩
  have HR := hide (show stn S s t' v' = (R.1, R.2, pick0 R.1 ⟨t', v', s.es⟩ s) by rw [stn, hR])
  rw [hR] at HW
  clear ho hB2 hb1 hb2 hR
  go_wp2_with fail
  refine HW.out.mono ?_
  rintro e w2 ⟨rfl, X2, hB2, ht2⟩
  clear HW
  obtain ⟨c, S2⟩ := R
  simp only at hB2 ⊢
  by_cases hc : c = 0
  · subst hc
    obtain ⟨bl2, v2, D2, hBH, rfl⟩ := hB2
    obtain ⟨_, _, c2, c3, _⟩ := hBH.c
    have f2 := hBH.fz 2
    have f3 := hBH.fz 3
    obtain ⟨hBH3, ht3⟩ := hBH.stand t' v'
    have HB3 := hide hBH3
    have HT := hide (((Tu.of_below HB.out).trans ht2).trans ht3)
    clear hBH hBH3 ht3 ht2
    go_wp2
    go_ret
    rw [HR.out]
    exact ⟨rfl, _, HB3.out.pack, HT.out⟩
  · have hc2 : ((c : Int) == 0) = false := by rw [beq_eq_false_iff_ne]; omega
    go_wp2
    go_ret
    rw [HR.out, pick0, if_neg hc]
    exact ⟨rfl, X2, hB2, (Tu.of_below HB.out).trans ht2⟩

/-- what Turn does -/
def trn (S : St) (s : Bl) (t : Int) : Nat × St × Bl :=
  if t < 1 ∨ 1073741824 < t then (1, S, s) else if t ≤ s.t then (150, S, s)
  else stn S s t (-1)
/-- what Cast does -/
def cst (n : Int) (S : St) (s : Bl) (x : Int) : Nat × St × Bl :=
  if x < 0 ∨ n ≤ x then (1, S, s) else if s.t = 0 then (150, S, s) else if s.v = x then (0, S, s) else if s.v ≠ -1 then (6, S, s)
  else stn S s s.t x

set_option maxRecDepth 100000 in
set_option maxHeartbeats 2000000 in
theorem Turn_any (t : Int) (w : World) (h : BB w bb bd n S s X) :
    Calls Tryz.prog 78 #[ptr bb, .int .i64 t] w fun e w' => e = .returned (.int .i64 (trn S s t).1) ∧ ∃ X', BB w' bb bd n (trn S s t).2.1 (trn S s t).2.2 X' ∧ Tu X X' w w' := by
  have H := hide h
  obtain ⟨bl, v, c0, c1, c2, c3, c4, hl⟩ := h.cells
  clear h hl c0 c1 c3 c4
  by_cases h1 : t < 1
  · rw [trn, if_pos (Or.inl h1)]
    go_enter Tryz.func78, Tryz.ntmps78
    go_wp2_with fail
    refine (isTerm_low t w h1).mono ?_
    rintro e w1 ⟨rfl, rfl⟩
    go_wp2
    go_ret
    exact ⟨rfl, X, H.out, Tu.refl _ _⟩
  · by_cases h2 : 1073741824 < t
    · rw [trn, if_pos (Or.inr h2)]
      go_enter Tryz.func78, Tryz.ntmps78
      go_wp2_with fail
      refine (isTerm_high t w h2).mono ?_
      rintro e w1 ⟨rfl, rfl⟩
      go_wp2
      go_ret
      exact ⟨rfl, X, H.out, Tu.refl _ _⟩
    · rw [trn, if_neg (by omega)]
      by_cases h3 : t ≤ s.t
      · rw [if_pos h3]
        go_enter Tryz.func78, Tryz.ntmps78
        go_wp2_with fail
        refine (isTerm_yes t w (by omega) (by omega)).mono ?_
        rintro e w1 ⟨rfl, rfl⟩
        go_wp2
        go_ret
        exact ⟨rfl, X, H.out, Tu.refl _ _⟩
      · rw [if_neg h3]
        have HS := hide (stand_any t (-1) w H.out ⟨by omega, by omega, by decide, by decide⟩)
        go_enter Tryz.func78, Tryz.ntmps78
        go_wp2_with fail
        refine (isTerm_yes t w (by omega) (by omega)).mono ?_
        rintro e w1 ⟨rfl, rfl⟩
        go_wp2_with fail
        refine HS.out.mono ?_
        rintro e w1 ⟨rfl, h5⟩
        go_wp2
        go_ret
        exact ⟨rfl, h5⟩

set_option maxRecDepth 100000 in
set_option maxHeartbeats 2000000 in
theorem Cast_any (x : Int) (w : World) (h : BB w bb bd n S s X) (hs : s.Ok n) (hn : n ≤ 16) :
    Calls Tryz.prog 79 #[ptr bb, .int .i64 x] w fun e w' => e = .returned (.int .i64 (cst n S s x).1) ∧ ∃ X', BB w' bb bd n (cst n S s x).2.1 (cst n S s x).2.2 X' ∧ Tu X X' w w' := by
  have H := hide h
  obtain ⟨bl, v, c0, c1, c2, c3, c4, hl⟩ := h.cells
  obtain ⟨s0, s1⟩ := And.intro hs.t0 hs.t1
  clear h hl c0 c4 hs
  by_cases h1 : x < 0
  · rw [cst, if_pos (Or.inl h1)]
    go_enter Tryz.func79, Tryz.ntmps79
    go_wp2
    go_ret
    exact ⟨rfl, X, H.out, Tu.refl _ _⟩
  · by_cases h2 : n ≤ x
    · rw [cst, if_pos (Or.inr h2)]
      go_enter Tryz.func79, Tryz.ntmps79
      go_wp2
      go_ret
      exact ⟨rfl, X, H.out, Tu.refl _ _⟩
    · rw [cst, if_neg (by omega)]
      by_cases h3 : s.t = 0
      · rw [if_pos h3]
        rw [h3] at c2
        go_enter Tryz.func79, Tryz.ntmps79
        go_wp2
        go_ret
        exact ⟨rfl, X, H.out, Tu.refl _ _⟩
      · rw [if_neg h3]
        have h3' : (s.t == 0) = false := by simpa using h3
        by_cases h4 : s.v = x
        · rw [if_pos h4]
          rw [h4] at c3
          go_enter Tryz.func79, Tryz.ntmps79
          go_wp2
          go_ret
          exact ⟨rfl, X, H.out, Tu.refl _ _⟩
        · rw [if_neg h4]
          have h4' : (s.v == x) = false := by simpa using h4
          by_cases h5 : s.v = -1
          · rw [if_neg (by simp [h5])]
            have h6 : ((-1 : Int) == x) = false := by rw [← h5]; exact h4'
            rw [h5] at c3
            have HS := hide (stand_any s.t x w H.out ⟨by omega, by omega, by omega, by omega⟩)
            clear h4 h4'
            go_enter Tryz.func79, Tryz.ntmps79
            go_wp2_with fail
            refine HS.out.mono ?_
            rintro e w1 ⟨rfl, h5⟩
            go_wp2
            go_ret
            exact ⟨rfl, h5⟩
          · rw [if_pos h5]
            have h5' : (s.v == -1) = false := by simpa using h5
            go_enter Tryz.func79, Tryz.ntmps79
            go_wp2
            go_ret
            exact ⟨rfl, X, H.out, Tu.refl _ _⟩
end
end Go.Proofs.YtmpahgklcabihaaGreat.Ba
