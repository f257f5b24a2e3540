/- Walks over net.go: the closures, find, apart. -/
import Derived.Test.YtmdpkkipjdpopaaNtIdx
namespace Go.Proofs.Ytmdpkkipjdpopaa.Nk
open Go.RowKit Go.Joins Gk

theorem enters_find : ∀ args w, (callFunc 50 args).run Try.prog w = .ok (.enter 50 args) w := enters_of Try.func50 (by kernel_rfl) rfl
theorem enters_drop : ∀ args w, (callFunc 43 args).run Try.prog w = .ok (.enter 43 args) w := enters_of Try.func43 (by kernel_rfl) rfl
theorem enters_join : ∀ args w, (callFunc 41 args).run Try.prog w = .ok (.enter 41 args) w := enters_of Try.func41 (by kernel_rfl) rfl

def isId (id : Int) (x : Lt) : Bool := (x.id : Int) == id

set_option maxHeartbeats 400000 in
theorem findC_any (id : Int) (B : Nat) (W : World) (x : Lt) (hB : B < W.heap.size) (hc : W.cell? ⟨B, 0, none⟩ = some (.int .i64 id)) :
    Calls Try.prog 50 #[lval x, .pointer (some ⟨B, 0, none⟩)] W fun e w' => e = .returned (.bool (isId id x)) ∧ Below W.heap.size W w' := by
  have hne : B ≠ W.heap.size := by omega
  go_enter Try.func50, Try.ntmps50
  go_wp2
  go_ret
  exact ⟨rfl, below_alloc1 _ _⟩

def touches (a : Int) (x : Lt) : Bool := (x.fr : Int) == a || (x.to : Int) == a

set_option maxHeartbeats 400000 in
theorem dropC_any (a : Int) (B : Nat) (W : World) (x : Lt) (hB : B < W.heap.size) (hc : W.cell? ⟨B, 0, none⟩ = some (.int .i64 a)) :
    Calls Try.prog 43 #[lval x, .pointer (some ⟨B, 0, none⟩)] W fun e w' => e = .returned (.bool (touches a x)) ∧ Below W.heap.size W w' := by
  have hne : B ≠ W.heap.size := by omega
  cases h1 : ((x.fr : Int) == a)
  · go_enter Try.func43, Try.ntmps43
    go_wp2
    go_ret
    exact ⟨by rw [touches, h1]; rfl, below_alloc1 _ _⟩
  · go_enter Try.func43, Try.ntmps43
    go_wp2
    go_ret
    exact ⟨by rw [touches, h1]; rfl, below_alloc1 _ _⟩

theorem int_info : (Try.prog.info? 3).map (fun i => (i.zero, i.size, i.bytes)) = some (some (.int .i64 0), 1, 8) := by kernel_rfl
theorem pair_eq (a b c d : Int) (w : World) : (Op.equalIn 10000 PairT (.agg #[.int .i64 a, .int .i64 b]) (.agg #[.int .i64 c, .int .i64 d])).run Try.prog w = .ok (a == c && b == d) w := by
  obtain ⟨i, hi, _⟩ := info_parts int_info
  have h1 : Try.prog.cellsOf 3 = 1 := by kernel_rfl
  rw [show (10000 : Nat) = 9999 + 1 from rfl, run_equalIn_array w 9999 _ _ Try.underlying79 hi, h1, show List.range 2 = [0, 1] from rfl]
  have e1 : ∀ (x y : Int) (W : World), (Op.equalIn 9999 3 (.int .i64 x) (.int .i64 y)).run Try.prog W = .ok (x == y) W := fun x y W => run_equalIn_int W 9998 3 .i64 .i64 x y Try.underlying3
  cases hac : (a == c) <;> cases hbd : (b == d) <;> simp [Op.eqItems, go_sem, e1, hac, hbd]

def isPr (q p : Pr) : Bool := (p.1 : Int) == (q.1 : Int) && (p.2 : Int) == (q.2 : Int)

set_option maxHeartbeats 400000 in
theorem joinC_any (q : Pr) (B : Nat) (W : World) (x : Pr) (hB : B < W.heap.size) (hc0 : W.cell? ⟨B, 0, none⟩ = some (.int .i64 q.1)) (hc1 : W.cell? ⟨B, 1, none⟩ = some (.int .i64 q.2)) :
    Calls Try.prog 41 #[pval x, .pointer (some ⟨B, 0, none⟩)] W fun e w' => e = .returned (.bool (isPr q x)) ∧ Below W.heap.size W w' := by
  have hne : B ≠ W.heap.size := by omega
  go_enter Try.func41, Try.ntmps41
  have hpe := pair_eq x.1 x.2 q.1 q.2 (W.alloc (.cells #[.int .i64 x.1, .int .i64 x.2] PairT))
  go_wp2
  go_ret
  exact ⟨rfl, below_alloc1 _ _⟩

set_option maxHeartbeats 800000 in
theorem find_any {own : Nat → Prop} {bn : Nat} {S : Nst} {v u : Value} (w : World) (h : NHeldL w own bn S v u) (hl : S.ls.length ≤ 4096) (id : Int) :
    Calls Try.prog 34 #[.pointer (some ⟨bn, 0, none⟩), .int .i64 id] w fun e w' => e = .returned (.int .i64 (idxI (isId id) S.ls)) ∧ Below w.heap.size w w' := by
  obtain ⟨av, cv, rfl⟩ := h.row.slice
  have hb0 := below_alloc1 w (.cells #[.int .i64 id] 3)
  have h0 := h.below hb0
  have c2 := h0.c2
  have hI := indexL_any (isId id) 50 #[.pointer (some ⟨w.heap.size, 0, none⟩)] enters_find av cv S.ls (w.alloc (.cells #[.int .i64 id] 3)) h0.row.lies (by omega)
    (fun W x hb => findC_any id w.heap.size W x (Nat.lt_of_lt_of_le (by simp) hb.size) ((hb.cell (p := ⟨w.heap.size, 0, none⟩) (by simp)).trans (by simp)))
  generalize idxI (isId id) S.ls = r at *
  have hlt := h.lt
  have hne : bn ≠ w.heap.size := by omega
  have c2' := h.c2
  clear h0 h
  go_enter Try.func34, Try.ntmps34
  go_wp2_with (first | (go_at_call 49; refine hI.mono ?_; rintro e w' ⟨rfl, hb'⟩))
  go_ret
  exact ⟨rfl, hb0.trans (hb'.mono (by simp))⟩

set_option maxHeartbeats 1600000 in
theorem index_any (q : Pr) (a : Option Addr) (cap : Nat) (l : List Pr) (w : World) (hl : Lies w penc a l) (hn : l.length ≤ 4611686018427387904) :
    Calls Try.prog 55 #[.slice a l.length cap, pval q] w fun e w' => e = .returned (.int .i64 (idxI (isPr q) l)) ∧ Below w.heap.size w w' := by
  have hb0 := below_alloc1 w (.cells #[.int .i64 q.1, .int .i64 q.2] PairT)
  have hA0 := heap_alloc_new w (.cells #[.int .i64 q.1, .int .i64 q.2] PairT)
  have hl0 := hl.below hb0
  obtain ⟨W0, hW0⟩ : ∃ W0, W0 = w.alloc (.cells #[.int .i64 q.1, .int .i64 q.2] PairT) := ⟨_, rfl⟩
  rw [← hW0] at hb0 hA0 hl0
  have hz0 : w.heap.size < W0.heap.size := by rw [hW0]; simp
  go_enter Try.func55, Try.ntmps55
  go_wp2
  rw [← hW0]
  clear hW0
  go_loopw [5, 8] (fun _ i wr => ∃ k : Nat, k ≤ l.length ∧ i = .int .i64 k ∧ Below W0.heap.size W0 wr ∧ Hid (∀ j (hj : j < l.length), j < k → isPr q l[j] = false)) (fun _ i _ => l.length - (intOf i).toNat)
  case atStart => exact ⟨0, by omega, rfl, Below.refl _ _, fun j _ hj => by omega⟩
  case round =>
    obtain ⟨k, hk, rfl, hbel, HA⟩ := hrel
    by_cases hlt : k < l.length
    · obtain ⟨b, off, rfl, hbl, hc⟩ := (hl0.below hbel).at (k := 2) penc_len k hlt
      have i1 : (0 : Int) ≤ (k : Int) := by omega
      have i2 : (k : Int) < (l.length : Int) := by omega
      have c0 := hc 0 _ rfl
      have c1 := hc 1 _ rfl
      rw [Nat.add_zero] at c0
      clear hc
      obtain ⟨x, hx⟩ : ∃ x, l[k] = x := ⟨_, rfl⟩
      rw [hx] at c0 c1
      have HX := hide hx
      clear hx
      have hz := hbel.size
      have hA := (hbel.block w.heap.size hz0).trans hA0
      have d0 : wr.cell? ⟨w.heap.size, 0, none⟩ = some (.int .i64 q.1) := cell_of_block hA 0
      have d1 : wr.cell? ⟨w.heap.size, 1, none⟩ = some (.int .i64 q.2) := cell_of_block hA 1
      have hpe : ∀ W : World, (Op.equalIn 10000 PairT (pval q) (pval x)).run Try.prog W = .ok (isPr q x) W := fun W => by
        have := pair_eq q.1 q.2 x.1 x.2 W
        rw [this]
        rw [isPr, BEq.comm (a := (q.1 : Int)), BEq.comm (a := (q.2 : Int))]
      clear hA
      cases hq : isPr q x with
      | true =>
        rw [hq] at hpe
        go_wp2
        go_quiet (fail)
        go_wp2
        go_ret
        refine ⟨?_, (hb0.trans (hbel.mono (by omega))).trans (below_draws _ _ _)⟩
        rw [idxI_hit hlt (by rw [HX.out]; exact hq) (fun j hj => HA.out j _ hj)]; rfl
      | false =>
        rw [hq] at hpe
        go_wp2
        go_quiet (fail)
        go_wp2
        go_roundw
        case rel =>
          refine ⟨k + 1, by omega, by go_num, hbel.trans (below_draws _ _ _), fun j hj hjk => ?_⟩
          by_cases e : j = k
          · subst e; rw [HX.out]; exact hq
          · exact HA.out j hj (by omega)
        case measure => clear hpe; simp only [intOf]; omega
    · obtain rfl : k = l.length := by omega
      go_wp2
      go_ret
      refine ⟨?_, hb0.trans (hbel.mono (by omega))⟩
      rw [idxI_miss (fun j hj => HA.out j hj hj)]; rfl

def memP (q : Pr) (l : List Pr) : Bool := decide (0 ≤ idxI (isPr q) l)

set_option maxHeartbeats 800000 in
theorem contains_any (q : Pr) (a : Option Addr) (cap : Nat) (l : List Pr) (w : World) (hl : Lies w penc a l) (hn : l.length ≤ 4611686018427387904) :
    Calls Try.prog 53 #[.slice a l.length cap, pval q] w fun e w' => e = .returned (.bool (memP q l)) ∧ Below w.heap.size w w' := by
  have hb0 := below_alloc1 w (.cells #[.int .i64 q.1, .int .i64 q.2] PairT)
  have hI := index_any q a cap l _ (hl.below hb0) hn
  unfold memP
  generalize idxI (isPr q) l = r at *
  go_enter Try.func53, Try.ntmps53
  go_wp2_with (first | (go_at_call 55; refine hI.mono ?_; rintro e w' ⟨rfl, hb'⟩))
  go_ret
  exact ⟨rfl, hb0.trans (hb'.mono (by simp))⟩

end Go.Proofs.Ytmdpkkipjdpopaa.Nk
