/- Walks over rlog: Slice; sameEntries of the laws. -/
import Derived.Test.YtmpahgklcabihaaGreatRlSlc
import Derived.Test.YtmpahgklcabihaaGreatGQuiet
namespace Go.Proofs.YtmpahgklcabihaaGreat.Rl
open Go.RowKit Go.Joins Gk

theorem min_first {P : Program} {w : World} (ts : Array TypeId) (t : TypeId) (k k' : IntKind) (x y : Int) (h : x ≤ y) : (Builtin.min_ ts t #[.int k x, .int k' y]).run P w = .ok (.int k x) w := by
  rw [run_min_int2, if_neg (by omega)]
theorem min_second {P : Program} {w : World} (ts : Array TypeId) (t : TypeId) (k k' : IntKind) (x y : Int) (h : y < x) : (Builtin.min_ ts t #[.int k x, .int k' y]).run P w = .ok (.int k y) w := by
  rw [run_min_int2, if_pos h]
theorem max_first {P : Program} {w : World} (ts : Array TypeId) (t : TypeId) (k k' : IntKind) (x y : Int) (h : y < x) : (Builtin.max_ ts t #[.int k x, .int k' y]).run P w = .ok (.int k x) w := by
  rw [run_max_int2]
  split
  · omega
  · rfl
theorem max_second {P : Program} {w : World} (ts : Array TypeId) (t : TypeId) (k k' : IntKind) (x y : Int) (h : x ≤ y) : (Builtin.max_ ts t #[.int k x, .int k' y]).run P w = .ok (.int k y) w := by
  rw [run_max_int2]
  split
  · rfl
  · rw [show x = y by omega]
attribute [local go_sem ↓] min_first min_second

theorem map_nmb (f : Nat) : ∀ l : List En, (nmb f l).map (·.2) = l
  | [] => rfl
  | e :: r => by rw [nmb, List.map_cons, map_nmb]

/-- what is copied out of a log -/
theorem taken (S : Lo) (i k : Nat) (w w1 : World) (hbd : S.b + S.es.length ≤ 1048577) (hik : i + k ≤ S.es.length) (hd : ∀ e ∈ S.es, e.d.size ≤ 140737488351232) (hb : Below w.heap.size w w1) (a : Option Addr) (cap : Nat) (hl : Lies w eenc a ((S.es.drop i).take k)) (h1 : Boxed w1 (w.heap.size + 1) EnsT (.slice a k cap)) (h2 : Boxed w1 w.heap.size 3 (.int .i64 ((S.b + 1 + i : Nat) : Int))) :
    Calls Tryz.prog 84 #[.func (.func 176) #[] #[ptr (w.heap.size + 1), ptr w.heap.size]] w1 fun e w' => ∃ v, e = .returned v ∧ ER w' v ((S.es.drop i).take k) ∧ (∀ g, blk v = some g → w1.heap.size ≤ g) ∧ Below w1.heap.size w1 w' := by
  have hlen : ((S.es.drop i).take k).length = k := by rw [List.length_take, List.length_drop]; omega
  have hl1 := hl.below hb
  have hc := copied_in 176 #[ptr (w.heap.size + 1), ptr w.heap.size] (nmb (S.b + 1 + i) ((S.es.drop i).take k)) (fun k => k < w1.heap.size) w1 (enters_of Tryz.func176 (by kernel_rfl) rfl)
    (num_seq w1 _ (w.heap.size + 1) w.heap.size cap (S.b + 1 + i) a ((S.es.drop i).take k) _ hl1 (by rw [hlen]; omega) h1.lt (by rw [hlen]; exact h1.cell) h2.cell (fun _ h => h) h2.lt (fun hne b off e => by
      rcases hl1 with h0 | ⟨b', o', e', hlt, _⟩
      · exact absurd h0 hne
      · rw [e] at e'; cases e'; exact hlt)) (fun _ h => h) (by rw [nmb_length, hlen]; omega) (fun x hx => by
      have : x.2 ∈ (nmb (S.b + 1 + i) ((S.es.drop i).take k)).map (·.2) := List.mem_map.2 ⟨x, hx, rfl⟩
      rw [map_nmb] at this
      exact hd _ (List.mem_of_mem_drop (List.mem_of_mem_take this)))
  rw [map_nmb] at hc
  exact callsIn_wide.1 hc

set_option maxRecDepth 100000 in
set_option maxHeartbeats 2000000 in
/-- Slice, from a number that may be: the entries from there on, at most so many -/
theorem Slice_ok (bl : Nat) (S : Lo) (v : Value) (i : Nat) (m : Int) (hm : 0 ≤ m) (w : World) (h : LH w bl S v) (hbd : S.b + S.es.length ≤ 1048577) (hi : i ≤ S.es.length) (hd : ∀ e ∈ S.es, e.d.size ≤ 140737488351232) :
    Calls Tryz.prog 45 #[ptr bl, .int .i64 ((S.b + 1 + i : Nat) : Int), .int .i64 m] w fun r w' => ∃ v', r = .returned (.tuple #[v', .int .i64 0]) ∧ ER w' v' ((S.es.drop i).take (min m.toNat (S.es.length - i))) ∧ (∀ g, blk v' = some g → w.heap.size ≤ g) ∧ Below w.heap.size w w' := by
  have HL := hide (Last_any bl S v w h hbd)
  obtain ⟨k, hk⟩ : ∃ k, min m.toNat (S.es.length - i) = k := ⟨_, rfl⟩
  have hik : i + k ≤ S.es.length := by omega
  have HU := hide (fun q => upward_any bl S v i k (w.drewN q) (h.drewN q) hbd hik)
  have HT := hide (fun q w1 hb a cap hl h1 h2 => taken S i k (w.drewN q) w1 hbd hik hd hb a cap hl h1 h2)
  have HB := hide (show ∀ q w1, Below (w.drewN q).heap.size (w.drewN q) w1 → Below w.heap.size w w1 from fun q w1 hb => (below_drewN (Below.refl _ w) q).trans hb)
  rw [hk]
  have c0 := h.c0
  have e1 : (S.b : Int) < ((S.b + 1 + i : Nat) : Int) := by omega
  have e1' : ¬ ((S.b + 1 + i : Nat) : Int) ≤ (S.b : Int) := by omega
  have e2 : ¬ (S.last : Int) + 1 < ((S.b + 1 + i : Nat) : Int) := by unfold Lo.last; omega
  have e3 : ¬ m < 0 := by omega
  have e4 : (S.last : Int) + 1 - ((S.b + 1 + i : Nat) : Int) = ((S.es.length - i : Nat) : Int) := by unfold Lo.last; omega
  have e5 : (S.last : Int) ≤ 1048577 := by unfold Lo.last; omega
  have e6 : 0 ≤ (S.last : Int) := by omega
  generalize S.tm S.last = y at *
  generalize S.last = n at *
  generalize ((S.b + 1 + i : Nat) : Int) = fi at *
  clear h hd
  by_cases hmk : m ≤ ((S.es.length - i : Nat) : Int)
  · have e7 : (k : Int) = m := by omega
    rw [e7] at HU
    clear hk e7 hik hi
    generalize ((S.es.length - i : Nat) : Int) = r at *
    go_enter Tryz.func45, Tryz.ntmps45
    go_wp2_with (first | (go_at_call 80; refine HL.out.mono ?_; rintro e w1 ⟨rfl, q1, rfl⟩) | (go_at_call 85; refine (HU.out _).mono ?_; rintro e w1 ⟨rfl, hb1, a1, cap1, hl1, hx1, hx2⟩) | (go_at_call 84; refine (HT.out _ _ hb1 a1 cap1 hl1 hx1 hx2).mono ?_; rintro e w2 ⟨v2, rfl, her, hg2, hb2⟩))
    go_ret2
    exact ⟨v2, rfl, her, fun g hg => Nat.le_trans (HB.out _ _ hb1).size (hg2 g hg), (HB.out _ _ hb1).trans (hb2.mono (HB.out _ _ hb1).size)⟩
  · have e7 : (k : Int) = ((S.es.length - i : Nat) : Int) := by omega
    have e8 : ((S.es.length - i : Nat) : Int) < m := by omega
    rw [e7] at HU
    clear hk e7 hik hi hmk
    generalize ((S.es.length - i : Nat) : Int) = r at *
    go_enter Tryz.func45, Tryz.ntmps45
    go_wp2_with (first | (go_at_call 80; refine HL.out.mono ?_; rintro e w1 ⟨rfl, q1, rfl⟩) | (go_at_call 85; refine (HU.out _).mono ?_; rintro e w1 ⟨rfl, hb1, a1, cap1, hl1, hx1, hx2⟩) | (go_at_call 84; refine (HT.out _ _ hb1 a1 cap1 hl1 hx1 hx2).mono ?_; rintro e w2 ⟨v2, rfl, her, hg2, hb2⟩))
    go_ret2
    exact ⟨v2, rfl, her, fun g hg => Nat.le_trans (HB.out _ _ hb1).size (hg2 g hg), (HB.out _ _ hb1).trans (hb2.mono (HB.out _ _ hb1).size)⟩

set_option maxHeartbeats 3200000 in
set_option maxRecDepth 100000 in
/-- the same entries are the same -/
theorem same_ents (a a' : Option Addr) (cap cap' : Nat) (l : List En) (w : World) (hl : Lies w eenc a l) (hl' : Lies w eenc a' l) (hn : l.length ≤ 9223372036854775807) :
    Calls Tryz.prog 32 #[.slice a l.length cap, .slice a' l.length cap'] w fun e w' => e = .returned (.bool true) ∧ Below w.heap.size w w' := by
  go_enter Tryz.func32, Tryz.ntmps32
  go_wp2
  go_loopw [5] (fun iv wr => ∃ k : Nat, k ≤ l.length ∧ iv = .int .i64 k ∧ Below w.heap.size w wr) (fun iv _ => l.length - (intOf iv).toNat)
  case atStart => exact ⟨0, Nat.zero_le _, rfl, Below.refl _ _⟩
  case round =>
    obtain ⟨k, hk, rfl, hb⟩ := hrel
    by_cases hkl : k < l.length
    · have j1 : (k : Int) < (l.length : Int) := by omega
      have j0 : (0 : Int) ≤ (k : Int) := by omega
      obtain ⟨b1, o1, rfl, hb1, hc1⟩ := (hl.below hb).at eenc_len k hkl
      obtain ⟨b2, o2, rfl, hb2, hc2⟩ := (hl'.below hb).at eenc_len k hkl
      have d1 := hc1 0 _ rfl
      have d2 := hc2 0 _ rfl
      have d3 := hc1 1 _ rfl
      have d4 := hc2 1 _ rfl
      rw [Nat.add_zero] at d1 d2
      generalize l[k].t = x at d1 d2
      generalize l[k].d = z at d3 d4
      have z1 : (x == x) = true := by simp
      have z3 : (z.toList == z.toList) = true := by simp
      clear hc1 hc2
      go_wp2_with fail
      refine wp_region_quiet_lit (by kernel_rfl) (by kernel_rfl) ?_
      refine QW.out ?_
      repeat (refine QW.step (fun K hK => ?_); go_simp; refine hK _ ?_; clear hK K)
      refine QW.nil ?_
      rintro w7 ⟨nq, rfl⟩
      have hb7 := hb.trans (below_draws w.heap.size wr nq)
      clear d1 d2 d3 d4
      generalize wr.drewN nq = w8 at hb7 ⊢
      go_wp2
      go_roundw
      case rel => exact ⟨k + 1, by omega, by go_num, hb7⟩
      case measure => simp [intOf]; omega
    · have j1 : ¬ (k : Int) < (l.length : Int) := by omega
      go_wp2
      go_ret
      exact ⟨rfl, hb⟩

end Go.Proofs.YtmpahgklcabihaaGreat.Rl
