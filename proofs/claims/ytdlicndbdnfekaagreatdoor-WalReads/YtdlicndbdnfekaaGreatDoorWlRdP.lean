/- WalReads: sameRecords, and what forgetting and reading come to among all that was appended. -/
import Derived.Test.YtdlicndbdnfekaaGreatDoorWlTwo
namespace Go.Proofs.YtdlicndbdnfekaaGreatDoor.Wl
open Go.RowKit Go.Joins Go.Sort Go.Proofs.YtdlicndbdnfekaaGreatDoor.Gk

theorem num_drop : ∀ (k : Nat) (l : List Rec) (n : Nat), (num n l).drop k = num (n + k) (l.drop k)
  | 0, l, n => by simp
  | k + 1, [], n => by simp [num]
  | k + 1, r :: l, n => by
    rw [num, List.drop_succ_cons, List.drop_succ_cons, num_drop k l (n + 1), show n + 1 + k = n + (k + 1) by omega]
theorem allRecs_split (l : List Sg) (k : Nat) : allRecs l = allRecs (l.take k) ++ allRecs (l.drop k) := by
  rw [allRecs, allRecs, allRecs, ← List.flatMap_append, List.take_append_drop]
/-- a log has all that was appended, from its first number on -/
def Tail (R : List Rec) (l : List Sg) (n m : Nat) : Prop := m = R.length + 1 ∧ 1 ≤ n ∧ n ≤ m ∧ allRecs l = R.drop (n - 1)
theorem Tail.grew {most : Nat} {S S' : Dk.St} {R : List Rec} {l l' : List Sg} {n m m' c : Nat} {r : Rec} (h : Tail R l n m) (hG : Grew most S S' l l' n m m' r c) (hc : c = 0) : Tail (R ++ [r]) l' n m' := by
  obtain ⟨h1, h2, h3, h4⟩ := h
  have e1 := hG.recs
  have e2 := hG.nx
  rw [if_pos hc] at e1 e2
  refine ⟨by rw [e2, h1, List.length_append]; rfl, h2, by omega, ?_⟩
  rw [e1, h4, List.drop_append_of_le_length (by omega)]
theorem Tail.forg {R : List Rec} {l : List Sg} {n m seq : Nat} (h : Tail R l n m) (hl : Lg l n m) (hs : n ≤ seq) : ∃ k n', k ≤ l.length ∧ Wl.forg seq l = l.drop k ∧ lfst (Wl.forg seq l) m = n' ∧ Tail R (Wl.forg seq l) n' m ∧ n' ≤ max n seq ∧ n ≤ n' := by
  obtain ⟨h1, h2, h3, h4⟩ := h
  obtain ⟨k, hk, he, hne⟩ := forg_suffix seq l
  have hb := forg_bounds seq hl hs
  have hf := forg_first hl seq
  have hle := (hl.forg seq).le
  refine ⟨k, _, hk, he, rfl, ⟨h1, by omega, hle, ?_⟩, by rcases hb with hb | hb <;> omega, hf⟩
  rcases Nat.lt_or_ge k l.length with hkl | hkl
  · have hc := Chain.count k hkl hl.chain
    have hfst : lfst (Wl.forg seq l) m = l[k].first := by
      rw [he, List.drop_eq_getElem_cons hkl]; rfl
    have hsp := allRecs_split l k
    rw [h4] at hsp
    rw [hfst, he, ← hc]
    have := congrArg (List.drop (allRecs (l.take k)).length) hsp
    rw [List.drop_left, List.drop_drop] at this
    rw [← this]
    congr 1; omega
  · have hnil : l = [] := Classical.byContradiction fun h => by have := hne h; omega
    subst hnil
    have hf' : Wl.forg seq ([] : List Sg) = [] := rfl
    rw [hf']
    show [] = _
    rw [show lfst [] m = m from rfl, h1, Nat.add_sub_cancel, List.drop_length]
theorem Tail.read {R : List Rec} {l : List Sg} {n m : Nat} (h : Tail R l n m) : gat n n (allRecs l) = (num 1 R).drop (n - 1) := by
  obtain ⟨h1, h2, h3, h4⟩ := h
  rw [gat, Nat.sub_self, List.drop_zero, h4, num_drop, show 1 + (n - 1) = n by omega]

set_option maxHeartbeats 3200000 in
set_option maxRecDepth 100000 in
theorem same_recs (a a' : Option Addr) (cap cap' : Nat) (l : List (Nat × Rec)) (w : World) (hl : Gk.Lies w recE a l) (hl' : Gk.Lies w recE a' l) (hn : l.length ≤ 9223372036854775807) :
    Calls Tryz.prog 19 #[.slice a l.length cap, .slice a' l.length cap'] w fun e w' => e = .returned (.bool true) ∧ Below w.heap.size w w' := by
  have mixed : Tryz.prog.follows .mixedOrders = true := by kernel_rfl
  go_enter Tryz.func19, Tryz.ntmps19
  go_wp2
  go_loopw [5] (fun iv wr => ∃ k : Nat, k ≤ l.length ∧ iv = .int .i64 k ∧ Below w.heap.size w wr) (fun iv _ => l.length - (intOf iv).toNat)
  case atStart => exact ⟨0, Nat.zero_le _, rfl, Below.refl _ _⟩
  case round =>
    obtain ⟨k, hk, rfl, hb⟩ := hrel
    by_cases hkl : k < l.length
    · have j1 : (k : Int) < (l.length : Int) := by omega
      have j0 : (0 : Int) ≤ (k : Int) := by omega
      obtain ⟨b1, o1, rfl, hb1, hc1⟩ := (hl.below hb).at recE_len k hkl
      obtain ⟨b2, o2, rfl, hb2, hc2⟩ := (hl'.below hb).at recE_len k hkl
      have d1 := hc1 0 _ rfl
      have d2 := hc2 0 _ rfl
      have d3 := hc1 1 _ rfl
      have d4 := hc2 1 _ rfl
      have d5 := hc1 2 _ rfl
      have d6 := hc2 2 _ rfl
      rw [Nat.add_zero] at d1 d2
      generalize l[k].1 = x at d1 d2
      generalize l[k].2.brick = y at d3 d4
      generalize l[k].2.body = z at d5 d6
      have z1 : ((x : Int) == (x : Int)) = true := by simp
      have z2 : ((y : Int) == (y : Int)) = true := by simp
      have z3 : (z.toList == z.toList) = true := by simp
      clear hc1 hc2
      go_wp2_with fail
      refine wp_region_quiet_lit (by kernel_rfl) (by kernel_rfl) ?_
      refine QW.out ?_
      repeat (refine QW.step (fun K hK => ?_); go_simp; refine hK _ ?_; clear hK K)
      refine QW.nil ?_
      rintro w7 ⟨nq, rfl⟩
      have hb7 := hb.trans (below_draws w.heap.size wr nq)
      clear d1 d2 d3 d4 d5 d6
      generalize wr.drewN nq = w8 at hb7 ⊢
      go_wp2
      go_roundw
      case rel => exact ⟨k + 1, by omega, by go_num, hb7⟩
      case measure => simp [intOf]; omega
    · have j1 : ¬ (k : Int) < (l.length : Int) := by omega
      go_wp2
      go_ret
      exact ⟨rfl, hb⟩

set_option maxRecDepth 100000 in
theorem Segments_nil {bw bd most : Nat} {v : Value} {nx : Nat} (w : World) (h : WH w bw bd most v [] nx) :
    Calls Tryz.prog 16 #[.pointer (some ⟨bw, 0, none⟩)] w fun e w' => e = .returned (.slice none 0 0) ∧ Below w.heap.size w w' := by
  have c2 := h.c2
  obtain ⟨a, c, hv⟩ := h.row.slice
  rw [hv] at c2
  simp only [List.length_nil] at c2
  clear h hv
  go_enter Tryz.func16, Tryz.ntmps16
  go_wp2
  go_loopw [3, 11] (fun u i wr => u = .slice none 0 0 ∧ i = .int .i64 0 ∧ Below w.heap.size w wr) (fun _ _ _ => 0)
  case atStart => exact ⟨rfl, rfl, Below.refl _ _⟩
  case round =>
    obtain ⟨rfl, rfl, hb⟩ := hrel
    go_wp2
    go_ret
    exact ⟨rfl, hb⟩
theorem Sn.segsN {B bd bw most n m : Nat} {w0 w : World} {O : Nat → Prop} {S : Dk.St} {l : List Sg} (h : Sn B w0 w O bd bw most S l n m) : Calls Tryz.prog 16 #[.pointer (some ⟨bw, 0, none⟩)] w fun e w' => ∃ u, e = .returned u ∧ w'.ownsRow w.heap.size IntT 1 u (l.map (·.first)).length (nums (l.map (·.first))) ∧ Below w.heap.size w w' ∧ (l = [] → u = .slice none 0 0) := by
  by_cases hl : l = []
  · subst hl
    obtain ⟨own, v, hBo, _⟩ := h
    refine (Segments_nil w hBo.log).mono ?_
    rintro e w' ⟨rfl, hb⟩
    exact ⟨_, rfl, World.ownsRow_nil _ _ _ _, hb, fun _ => rfl⟩
  · refine h.segs.mono ?_
    rintro e w' ⟨u, rfl, ho, hb⟩
    exact ⟨u, rfl, ho, hb, fun e => absurd e hl⟩
/-- a beginning of a row of records -/
theorem recs_take {w : World} {a : Option Addr} {M : List (Nat × Rec)} (k : Nat) (h : Gk.Lies w recE a M) : Gk.Lies w recE a (M.take k) := by
  rcases h with rfl | ⟨b, off, ea, hlt, hc⟩
  · exact Or.inl (by simp)
  · refine Or.inr ⟨b, off, ea, hlt, fun j u hj => hc j u ?_⟩
    have e : Gk.rc recE M = Gk.rc recE (M.take k) ++ Gk.rc recE (M.drop k) := by rw [← Gk.rc_append, List.take_append_drop]
    rw [e, List.getElem?_append_left (List.getElem?_eq_some_iff.1 hj).1]
    exact hj

end Go.Proofs.YtdlicndbdnfekaaGreatDoor.Wl
