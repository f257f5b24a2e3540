/- Layer 9: walks over rows.go: copiedRow, copied; alone.go: row. -/
import Derived.Test.YthdempdiibjabaaTbRep
namespace Go.Proofs.Ythdempdiibjabaa.Tb
open Go.RowKit Go.Joins Go.Proofs.Ythdempdiibjabaa.Gk Go.Proofs.Ythdempdiibjabaa.Oq Go.Proofs.Ythdempdiibjabaa.Sp

theorem below_a1 (w : World) (o : Obj) : Below w.heap.size w (w.alloc o) := (Below.refl _ _).alloc (Nat.le_refl _) _
theorem below_a2 (w : World) (o o' : Obj) : Below w.heap.size w ((w.alloc o).alloc o') := (below_a1 w o).alloc (by simp) _
theorem cellB {w : World} {b : Nat} {cs : Array Value} {T : TypeId} (h : w.heap[b]? = some (.cells cs T (0, 0))) (i : Nat) {v : Value} (hv : cs[i]? = some v) : w.cell? ⟨b, i, none⟩ = some v := by rw [cell_of_block h]; exact hv
abbrev set3 (W : World) (b : Nat) (u0 u1 u2 : Value) : World := ((W.setCell ⟨b, 0, none⟩ u0).setCell ⟨b, 1, none⟩ u1).setCell ⟨b, 2, none⟩ u2
theorem set3_blk {W : World} {b : Nat} {x0 x1 x2 : Value} {T : TypeId} (h : W.heap[b]? = some (.cells #[x0, x1, x2] T (0, 0))) (u0 u1 u2 : Value) : (set3 W b u0 u1 u2).heap[b]? = some (.cells #[u0, u1, u2] T (0, 0)) :=
  block_setCell (block_setCell (block_setCell h u0) u1) u2
theorem set3_below {W : World} {b n : Nat} {w : World} (h : Below n w W) (hb : n ≤ b) (u0 u1 u2 : Value) : Below n w (set3 W b u0 u1 u2) :=
  ((h.setCell (p := ⟨b, 0, none⟩) hb _).setCell (p := ⟨b, 1, none⟩) hb _).setCell (p := ⟨b, 2, none⟩) hb _
/-- the cells of a box of three -/
abbrev CpS (w : World) (x0 x1 x2 : Value) (W : World) : Prop := (W.cell? ⟨w.heap.size, 0, none⟩ = some x0 ∧ W.cell? ⟨w.heap.size, 1, none⟩ = some x1 ∧ W.cell? ⟨w.heap.size, 2, none⟩ = some x2) ∧ w.heap.size < W.heap.size ∧ Below w.heap.size w W
theorem CpS.call {w : World} {x0 x1 x2 : Value} {a b : World} (hb : Below a.heap.size a b) (h : CpS w x0 x1 x2 a) : CpS w x0 x1 x2 b := by
  obtain ⟨⟨c0, c1, c2⟩, hl, hB⟩ := h
  have hc : ∀ j, b.cell? ⟨w.heap.size, j, none⟩ = a.cell? ⟨w.heap.size, j, none⟩ := fun j => hb.cell (p := ⟨w.heap.size, j, none⟩) hl
  exact ⟨⟨(hc 0).trans c0, (hc 1).trans c1, (hc 2).trans c2⟩, Nat.lt_of_lt_of_le hl hb.size, hB.trans (hb.mono hB.size)⟩
theorem CpS.drew {w : World} {x0 x1 x2 : Value} {a : World} (h : CpS w x0 x1 x2 a) : CpS w x0 x1 x2 a.drew := h.call ((Below.refl _ _).drew)
theorem CpS.set {w : World} {x0 x1 x2 : Value} {a : World} (h : CpS w x0 x1 x2 a) (i : Nat) (u : Value) : CpS w x0 x1 x2 (a.setCell ⟨w.heap.size + 1, i, none⟩ u) := by
  obtain ⟨⟨c0, c1, c2⟩, hl, hB⟩ := h
  have hc : ∀ j, (a.setCell ⟨w.heap.size + 1, i, none⟩ u).cell? ⟨w.heap.size, j, none⟩ = a.cell? ⟨w.heap.size, j, none⟩ := fun j => World.cell?_of_block (a := ⟨w.heap.size, j, none⟩) (Below.heap_setCell a _ u _ (by simp))
  exact ⟨⟨(hc 0).trans c0, (hc 1).trans c1, (hc 2).trans c2⟩, by simpa using hl, hB.setCell (p := ⟨w.heap.size + 1, i, none⟩) (Nat.le_succ _) u⟩

set_option maxRecDepth 100000 in
set_option maxHeartbeats 1600000 in
theorem copiedRow_any (x : Rw) (w : World) (h1 : x.key.size ≤ 140737488351232) (h2 : x.val.size ≤ 140737488351232) :
    Calls Try.prog 59 #[x.v] w fun e w' => e = .returned x.v ∧ Below w.heap.size w w' := by
  obtain ⟨key, stamp, val⟩ := x
  have hK := fun W => clone_any key W h1
  have hV := fun W => clone_any val W h2
  obtain ⟨W, hW⟩ : ∃ W, W = (w.alloc (.cells #[.string key, .int .i64 stamp, .string val] RowT)).alloc (.cells #[.string ⟨#[]⟩, .int .i64 0, .string ⟨#[]⟩] RowT) := ⟨_, rfl⟩
  have hbW : Below w.heap.size w W := by rw [hW]; exact below_a2 _ _ _
  have HR : Hid (W.heap[w.heap.size + 1]? = some (.cells #[.string ⟨#[]⟩, .int .i64 0, .string ⟨#[]⟩] RowT (0, 0))) := by
    show _ = _
    rw [hW]; have := heap_alloc_new (w.alloc (.cells #[.string key, .int .i64 stamp, .string val] RowT)) (.cells #[.string ⟨#[]⟩, .int .i64 0, .string ⟨#[]⟩] RowT); simpa using this
  have hX : W.heap[w.heap.size]? = some (.cells #[.string key, .int .i64 stamp, .string val] RowT (0, 0)) := by
    rw [hW]
    rw [heap_alloc_old _ _ (by simp)]
    exact heap_alloc_new _ _
  have HS : CpS w (.string key) (.int .i64 stamp) (.string val) W := ⟨⟨cellB hX 0 rfl, cellB hX 1 rfl, cellB hX 2 rfl⟩, (Array.getElem?_eq_some_iff.1 hX).1, hbW⟩
  go_enter Try.func59, Try.ntmps59
  go_wp2_with fail
  rw [← hW]
  have HB := hide hbW
  clear hW hX hbW
  go_region_held3 (CpS w (.string key) (.int .i64 stamp) (.string val)) (first | with_reducible assumption | with_reducible exact CpS.drew (by assumption) | with_reducible exact CpS.call (by assumption) (by assumption) | with_reducible exact CpS.set (CpS.set (CpS.set (by assumption) _ _) _ _) _ _)
    (first
      | (go_at_call 72; refine (hK _).mono ?_; rintro e w4 ⟨rfl, hb4⟩; clear hK)
      | (go_at_call 72; refine (hV _).mono ?_; rintro e w6 ⟨rfl, hb6⟩; have hbr := ((((Below.refl _ W).drew.trans hb4).trans (hb6.mono hb4.size)).block (w.heap.size + 1) (Array.getElem?_eq_some_iff.1 HR.out).1).trans HR.out; have HR6 := hide hbr; have r0 : w6.cell? ⟨w.heap.size + 1, 0, none⟩ = some (.string ⟨#[]⟩) := cellB hbr 0 rfl; have r1 : w6.cell? ⟨w.heap.size + 1, 1, none⟩ = some (.int .i64 0) := cellB hbr 1 rfl; have r2 : w6.cell? ⟨w.heap.size + 1, 2, none⟩ = some (.string ⟨#[]⟩) := cellB hbr 2 rfl; have f0 := unfrozen_of_block hbr 0; have f1 := unfrozen_of_block hbr 1; have f2 := unfrozen_of_block hbr 2; clear hbr))
  go_wp2
  refine bodyPost_ret (v := Rw.v ⟨key, stamp, val⟩) (by simp [results, Try.results59, go_sem, r0, r1, r2]) rfl ⟨rfl, ?_⟩
  have B4 : Below W.heap.size W w4 := (Below.refl _ W).drew.trans hb4
  have B6 : Below W.heap.size W w6 := B4.trans (hb6.mono hb4.size)
  exact set3_below (HB.out.trans (B6.mono HB.out.size)) (Nat.le_succ _) _ _ _

set_option maxRecDepth 100000 in
set_option maxHeartbeats 1600000 in
theorem row_any (x : Opn) (w : World) (h1 : x.key.size ≤ 140737488351232) (h2 : x.val.size ≤ 140737488351232) :
    Calls Try.prog 70 #[x.v] w fun e w' => e = .returned (Opn.row x).v ∧ Below w.heap.size w w' := by
  obtain ⟨W, hW⟩ : ∃ W, W = (w.alloc (.cells #[.int .i64 x.kind, .string x.key, .string x.val, .int .i64 x.stamp, .int .i64 x.test, .int .i64 x.most] 45)).alloc (.cells #[.string ⟨#[]⟩, .int .i64 0, .string ⟨#[]⟩] RowT) := ⟨_, rfl⟩
  have hbW : Below w.heap.size w W := by rw [hW]; exact below_a2 _ _ _
  have hR : W.heap[w.heap.size + 1]? = some (.cells #[.string ⟨#[]⟩, .int .i64 0, .string ⟨#[]⟩] RowT (0, 0)) := by
    rw [hW]; have := heap_alloc_new (w.alloc (.cells #[.int .i64 x.kind, .string x.key, .string x.val, .int .i64 x.stamp, .int .i64 x.test, .int .i64 x.most] 45)) (.cells #[.string ⟨#[]⟩, .int .i64 0, .string ⟨#[]⟩] RowT); simpa using this
  go_enter Try.func70, Try.ntmps70
  go_wp2_with fail
  rw [← hW]
  refine (copiedRow_any (Opn.row x) _ h1 h2).mono ?_
  rintro e w1 ⟨rfl, hb1⟩
  have hR1 := (hb1.block _ (Array.getElem?_eq_some_iff.1 hR).1).trans hR
  have hB1 := hide (hbW.trans (hb1.mono hbW.size))
  have r0 := cellB hR1 0 rfl
  have r1 := cellB hR1 1 rfl
  have r2 := cellB hR1 2 rfl
  have f0 := unfrozen_of_block hR1 0
  have f1 := unfrozen_of_block hR1 1
  have f2 := unfrozen_of_block hR1 2
  clear hW hR hR1 hb1 hbW
  go_wp2
  refine bodyPost_ret (v := (Opn.row x).v) (by simp [results, Try.results70, go_sem, r0, r1, r2]) rfl ⟨rfl, ?_⟩
  exact set3_below hB1.out (Nat.le_succ _) _ _ _

/-- the first rows are copied -/
structure Fill (cur : Array Value) (l : List Rw) (k : Nat) : Prop where
  size : cur.size = l.length * 3
  eq : ∀ j, j < k * 3 → cur[j]? = (rc rwenc l)[j]?
theorem Fill.step {cur : Array Value} {l : List Rw} {k : Nat} (h : Fill cur l k) (hk : k < l.length) : Fill (((cur.setIfInBounds (k * 3) (.string l[k].key)).setIfInBounds (k * 3 + 1) (.int .i64 l[k].stamp)).setIfInBounds (k * 3 + 2) (.string l[k].val)) l (k + 1) := by
  have hs := h.size
  have hm : (k + 1) * 3 ≤ l.length * 3 := Nat.mul_le_mul_right 3 hk
  refine ⟨by simpa using hs, fun j hj => ?_⟩
  simp only [Array.getElem?_setIfInBounds, Array.size_setIfInBounds]
  by_cases e2 : k * 3 + 2 = j
  · subst e2
    rw [if_pos rfl, if_pos (by omega), rc_at rwenc_len l k hk 2 (by omega)]; rfl
  · rw [if_neg e2]
    by_cases e1 : k * 3 + 1 = j
    · subst e1
      rw [if_pos rfl, if_pos (by omega), rc_at rwenc_len l k hk 1 (by omega)]; rfl
    · rw [if_neg e1]
      by_cases e0 : k * 3 = j
      · subst e0
        rw [if_pos rfl, if_pos (by omega)]
        have := rc_at rwenc_len l k hk 0 (by omega)
        rw [Nat.add_zero] at this
        rw [this]; rfl
      · rw [if_neg e0]; exact h.eq j (by omega)
theorem Fill.own {w : World} {B g n : Nat} {cur : Array Value} {l : List Rw} (h : Fill cur l l.length) (hg : w.heap[g]? = some (.cells cur RowT (0, 0))) (hB : B ≤ g) (hn : n = l.length) (hm : l.length ≤ maxLen) : w.ownsRow B RowT 3 (.slice (some ⟨g, 0, none⟩) n n) l.length (rc rwenc l) := by
  subst hn
  refine ⟨rc_length rwenc_len l, Or.inr ⟨g, l.length, cur, rfl, hB, hg, Nat.le_refl _, hm, h.size, ?_⟩⟩
  have hs := h.size
  rw [List.take_of_length_le (by rw [Array.length_toList]; omega)]
  apply List.ext_getElem?
  intro j
  by_cases hj : j < l.length * 3
  · have := h.eq j hj; simpa using this
  · rw [List.getElem?_eq_none (by rw [Array.length_toList]; omega), List.getElem?_eq_none (by rw [rc_length rwenc_len]; omega)]
theorem make_rows (n : Nat) (hn : n ≤ 1000000) : ∃ M : Array Value, M.size = n * 3 ∧ ∀ W : World, (Instr.makeSlice RowsT (.int .i64 (n : Int)) (.int .i64 (n : Int))).run Try.prog W = .ok (.slice (some ⟨W.heap.size, 0, none⟩) n n) (W.alloc (.cells M RowT)) := by
  obtain ⟨i0, hi, hz0, hz1, hz2⟩ := info_parts row_info
  refine ⟨madeCells noRw.cells (n * i0.size), by rw [size_madeCells, hz1], fun W => ?_⟩
  have h := run_make (P := Try.prog) W RowsT RowT i0 noRw Try.underlying26 hi hz0 .i64 .i64 (n : Int) (n : Int) (by omega) (by omega) (by rw [hz2]; omega) (by omega)
  simpa using h

set_option maxRecDepth 100000 in
set_option maxHeartbeats 1600000 in
theorem copied_any (a : Option Addr) (cap : Nat) (l : List Rw) (w : World) (hl : Lies w rwenc a l) (hlen : l.length ≤ 1000000) (h1 : ∀ x ∈ l, x.key.size ≤ 140737488351232 ∧ x.val.size ≤ 140737488351232) :
    Calls Try.prog 37 #[.slice a l.length cap] w fun e w' => e = .returned (.slice (some ⟨w.heap.size, 0, none⟩) l.length l.length) ∧ w'.ownsRow w.heap.size RowT 3 (.slice (some ⟨w.heap.size, 0, none⟩) l.length l.length) l.length (rc rwenc l) ∧ Below w.heap.size w w' := by
  obtain ⟨M, hM, hmk⟩ := make_rows l.length hlen
  have hF0 := hide (show Fill M l 0 from ⟨hM, fun j hj => by omega⟩)
  have H1 := hide h1
  clear h1 hM
  go_enter Try.func37, Try.ntmps37
  go_wp2
  go_loopw [11] (fun i wr => ∃ (k : Nat) (cur : Array Value), k ≤ l.length ∧ i = .int .i64 k ∧ wr.heap[w.heap.size]? = some (.cells cur RowT (0, 0)) ∧ Hid (Fill cur l k) ∧ Below w.heap.size w wr) (fun i _ => l.length - (intOf i).toNat)
  case atStart => exact ⟨0, M, by omega, rfl, heap_alloc_new _ _, hF0, below_a1 _ _⟩
  case round =>
    obtain ⟨k, cur, hk, rfl, hg, HF, hbel⟩ := hrel
    by_cases hlt : k < l.length
    · obtain ⟨b, off, rfl, hbl, hc⟩ := (hl.below hbel).at (k := 3) rwenc_len k hlt
      have c0 := hc 0 _ rfl
      have c1 := hc 1 _ rfl
      have c2 := hc 2 _ rfl
      rw [Nat.add_zero] at c0
      clear hc
      have HS := hide (HF.out.step hlt)
      have hx := H1.out _ (List.getElem_mem hlt)
      generalize l[k] = x at *
      obtain ⟨key, stamp, val⟩ := x
      simp only at c0 c1 c2 HS
      have hC := fun W => copiedRow_any ⟨key, stamp, val⟩ W hx.1 hx.2
      have i1 : (0 : Int) ≤ (k : Int) := by omega
      have i2 : (k : Int) < (l.length : Int) := by omega
      go_wp2_with fail
      refine (hC _).mono ?_
      rintro e w2 ⟨rfl, hb2⟩
      have hb3 := (below_a1 wr _).trans (hb2.mono (by simp))
      have hg2 := (hb3.block _ (Array.getElem?_eq_some_iff.1 hg).1).trans hg
      have hbel2 := hbel.trans (hb3.mono hbel.size)
      have hm : (k + 1) * 3 ≤ l.length * 3 := Nat.mul_le_mul_right 3 hlt
      have hcs := HF.out.size
      have e0 : (w2.cell? ⟨w.heap.size, k * 3, none⟩).isSome = true := by rw [cell_of_block hg2, Array.getElem?_eq_getElem (by omega)]; rfl
      have e1 : (w2.cell? ⟨w.heap.size, k * 3 + 1, none⟩).isSome = true := by rw [cell_of_block hg2, Array.getElem?_eq_getElem (by omega)]; rfl
      have e2 : (w2.cell? ⟨w.heap.size, k * 3 + 2, none⟩).isSome = true := by rw [cell_of_block hg2, Array.getElem?_eq_getElem (by omega)]; rfl
      obtain ⟨r0, e0⟩ := Option.isSome_iff_exists.1 e0
      obtain ⟨r1, e1⟩ := Option.isSome_iff_exists.1 e1
      obtain ⟨r2, e2⟩ := Option.isSome_iff_exists.1 e2
      have f0 := unfrozen_of_block hg2 (k * 3)
      have f1 := unfrozen_of_block hg2 (k * 3 + 1)
      have f2 := unfrozen_of_block hg2 (k * 3 + 2)
      have HG := hide (block_setCell (i := k * 3 + 2) (block_setCell (i := k * 3 + 1) (block_setCell (i := k * 3) hg2 (.string key)) (.int .i64 stamp)) (.string val))
      have HB := hide (((hbel2.setCell (p := ⟨w.heap.size, k * 3, none⟩) (Nat.le_refl _) (.string key)).setCell (p := ⟨w.heap.size, k * 3 + 1, none⟩) (Nat.le_refl _) (.int .i64 stamp)).setCell (p := ⟨w.heap.size, k * 3 + 2, none⟩) (Nat.le_refl _) (.string val))
      clear hg2 hbel2 hb2 hb3 hbel hcs hm hg hC c0 c1 c2
      go_wp2
      go_roundw
      case rel => exact ⟨k + 1, _, by omega, by go_num, HG.out, HS, HB.out⟩
      case measure => simp [intOf]; omega
    · obtain rfl : k = l.length := by omega
      go_wp2
      go_ret
      exact ⟨rfl, HF.out.own hg (Nat.le_refl _) rfl (by unfold maxLen; omega), hbel⟩

end Go.Proofs.Ythdempdiibjabaa.Tb
