/- LayoutCursor: the cursor never falls, nor is a change that is done changed; one that is not done has no end. Proved: for all changes and cursors, no condition. -/
import Derived.Test.YtpefdccbfocmoabDoorLyWorks
import Derived.Test.YtpefdccbfocmoabDoorGArgsT
import Derived.Test.YtpefdccbfocmoabDoorGQuiet
namespace Go.Proofs.YtpefdccbfocmoabDoor.Ly
open Go.RowKit Go.Joins Go.Sort Gk Rg

set_option maxHeartbeats 1600000 in
theorem theirs_any (c : Ch) (w : World) :
    Calls Tryd.prog 7 #[c.val] w fun e w' => e = .returned c.val ∧ Gr w w' := by
  obtain ⟨⟨v, a, n, ws⟩, ⟨v', a', n', ws'⟩, s, d⟩ := c
  go_enter Tryd.func7, Tryd.ntmps7
  dsimp only [Ch.val]
  go_wp2
  exact bodyPost_ret (v := .agg #[.int .i64 v, .slice a ws.length n, .int .i64 v', .slice a' ws'.length n', .string s, .bool d]) (by simp [results, Tryd.results7, go_sem]) rfl ⟨rfl, ((Gr.refl _).alloc _).alloc _⟩

theorem may_done {c : Ch} (h : c.may = true) : isEnd c.cur c.done = c.done := by
  rw [Ch.may] at h
  simp only [Bool.and_eq_true] at h
  have := h.2.2.2.2
  cases hd : c.done
  · simp [isEnd]
  · rw [hd, mayS] at this; simp only [Bool.and_eq_true, Bool.not_true, Bool.false_or] at this; rw [this.2]
theorem may_cur {c : Ch} (h : c.may = true) : c.cur.size ≤ 64 := by
  rw [Ch.may] at h
  simp only [Bool.and_eq_true] at h
  have := h.2.2.2.2
  rw [mayS] at this
  simp only [Bool.and_eq_true, decide_eq_true_eq] at this
  exact this.1
theorem may_like {c c' : Ch} (h : c.may = true) (hl : c'.Like c) (hs : c'.cur.size ≤ 64) (hd : c'.done = false) : c'.may = true := by
  rw [Ch.may] at h ⊢
  simp only [Bool.and_eq_true] at h ⊢
  obtain ⟨h1, h2, h3, h4, h5⟩ := h
  refine ⟨?_, ?_, ?_, ?_, ?_⟩
  · rw [La.may] at h1 ⊢; rw [hl.v1, hl.w1]; exact h1
  · rw [La.may] at h2 ⊢; rw [hl.v2, hl.w2]; exact h2
  · rw [hl.v1, hl.v2]; exact h3
  · rw [hl.w1, hl.w2]; exact h4
  · rw [mayS, hd]; simpa using hs

theorem to_no (c : Ch) (s : ByteArray) (w : World) (h : c.At w) (hs : c.cur.size ≤ 9223372036854775807) (hs' : s.size ≤ 140737488351232) (hm : c.may = true) (hn : toNo c s = true) :
    Calls Tryd.prog 14 #[c.val, .string s] w fun e w' => e = .returned (.tuple #[.agg #[.int .i64 0, .slice none 0 0, .int .i64 0, .slice none 0 0, .string ⟨#[]⟩, .bool false], .int .i64 1]) ∧ RowKit.Below w.heap.size w w' := by
  refine (to_any c s w h hs hs').mono ?_
  rintro e w' ⟨hb, ⟨h1, _⟩ | ⟨_, _, rfl⟩ | ⟨_, h1, _⟩⟩
  · rw [hm] at h1; cases h1
  · exact ⟨rfl, hb⟩
  · rw [hn] at h1; cases h1
theorem to_yes (c : Ch) (s : ByteArray) (w : World) (h : c.At w) (hs : c.cur.size ≤ 9223372036854775807) (hs' : s.size ≤ 140737488351232) (hm : c.may = true) (hn : toNo c s = false) :
    Calls Tryd.prog 14 #[c.val, .string s] w fun e w' => ∃ a1 n1 a2 n2, e = .returned (.tuple #[.agg #[.int .i64 c.was.v, .slice a1 c.was.ws.length n1, .int .i64 c.will.v, .slice a2 c.will.ws.length n2, .string s, .bool false], .int .i64 0]) ∧ RowKit.Below w.heap.size w w' ∧ Hid (Lies w' ienc a1 c.was.ws ∧ Lies w' ienc a2 c.will.ws ∧ (∀ g o, a1 = some ⟨g, o, none⟩ → w.heap.size ≤ g) ∧ ∀ g o, a2 = some ⟨g, o, none⟩ → w.heap.size ≤ g) := by
  refine (to_any c s w h hs hs').mono ?_
  rintro e w' ⟨hb, ⟨h1, _⟩ | ⟨_, h1, _⟩ | ⟨_, _, ⟨⟨v1, a1, n1, w1⟩, ⟨v2, a2, n2, w2⟩, s', d'⟩, rfl, ⟨hl1, hl2, hl3, hl4⟩, hs1, hd1, hat, hf1, hf2⟩⟩
  · rw [hm] at h1; cases h1
  · rw [hn] at h1; cases h1
  · dsimp only at hl1 hl2 hl3 hl4 hs1 hd1
    subst hl1 hl2 hl3 hl4 hs1 hd1
    exact ⟨a1, n1, a2, n2, rfl, hb, hat.h1.lies, hat.h2.lies, hf1, hf2⟩

structure LowW (w : World) (W : World) : Prop where
  low : RowKit.Below w.heap.size w W
abbrev CurS (wr : World) (bx bk o : Nat) (s : ByteArray) (u0 u1 u2 u3 u4 u5 : Value) (W : World) : Prop :=
  W.cell? ⟨bx, 0, none⟩ = some u0 ∧ W.cell? ⟨bx, 1, none⟩ = some u1 ∧ W.cell? ⟨bx, 2, none⟩ = some u2 ∧ W.cell? ⟨bx, 3, none⟩ = some u3 ∧ W.cell? ⟨bx, 4, none⟩ = some u4 ∧ W.cell? ⟨bx, 5, none⟩ = some u5 ∧ W.cell? ⟨bk, o, none⟩ = some (.string s) ∧ LowW wr W
section
variable {wr : World} {bx bk o : Nat} {s : ByteArray} {u0 u1 u2 u3 u4 u5 : Value} {W W' : World}
theorem CurS.drew (h : CurS wr bx bk o s u0 u1 u2 u3 u4 u5 W) : CurS wr bx bk o s u0 u1 u2 u3 u4 u5 W.drew := ⟨h.1, h.2.1, h.2.2.1, h.2.2.2.1, h.2.2.2.2.1, h.2.2.2.2.2.1, h.2.2.2.2.2.2.1, ⟨h.2.2.2.2.2.2.2.low.drew⟩⟩
theorem CurS.low (h : CurS wr bx bk o s u0 u1 u2 u3 u4 u5 W) : RowKit.Below wr.heap.size wr W := h.2.2.2.2.2.2.2.low
theorem CurS.call (h : CurS wr bx bk o s u0 u1 u2 u3 u4 u5 W) (hb : RowKit.Below W.heap.size W W') : CurS wr bx bk o s u0 u1 u2 u3 u4 u5 W' := by
  have hl := World.block_lt_of_cell? W _ h.1
  have hl' := World.block_lt_of_cell? W _ h.2.2.2.2.2.2.1
  exact ⟨(hb.cell (p := ⟨bx, 0, none⟩) hl).trans h.1, (hb.cell (p := ⟨bx, 1, none⟩) hl).trans h.2.1, (hb.cell (p := ⟨bx, 2, none⟩) hl).trans h.2.2.1, (hb.cell (p := ⟨bx, 3, none⟩) hl).trans h.2.2.2.1, (hb.cell (p := ⟨bx, 4, none⟩) hl).trans h.2.2.2.2.1, (hb.cell (p := ⟨bx, 5, none⟩) hl).trans h.2.2.2.2.2.1, (hb.cell (p := ⟨bk, o, none⟩) hl').trans h.2.2.2.2.2.2.1, ⟨h.low.trans (hb.mono h.low.size)⟩⟩
theorem CurS.put6 {by' : Nat} (h : CurS wr bx bk o s u0 u1 u2 u3 u4 u5 W) (h1 : wr.heap.size ≤ by') (h2 : bx < wr.heap.size) (h3 : bk < wr.heap.size) (x0 x1 x2 x3 x4 x5 : Value) : CurS wr bx bk o s u0 u1 u2 u3 u4 u5 (set6 W by' x0 x1 x2 x3 x4 x5) := by
  have hk : ∀ j, (set6 W by' x0 x1 x2 x3 x4 x5).cell? ⟨bx, j, none⟩ = W.cell? ⟨bx, j, none⟩ := fun j => World.cell?_of_block (a := ⟨bx, j, none⟩) (set6_other W by' bx (by omega) _ _ _ _ _ _)
  have hk' : (set6 W by' x0 x1 x2 x3 x4 x5).cell? ⟨bk, o, none⟩ = W.cell? ⟨bk, o, none⟩ := World.cell?_of_block (a := ⟨bk, o, none⟩) (set6_other W by' bk (by omega) _ _ _ _ _ _)
  exact ⟨(hk 0).trans h.1, (hk 1).trans h.2.1, (hk 2).trans h.2.2.1, (hk 3).trans h.2.2.2.1, (hk 4).trans h.2.2.2.2.1, (hk 5).trans h.2.2.2.2.2.1, hk'.trans h.2.2.2.2.2.2.1, ⟨set6_below h.low h1 _ _ _ _ _ _⟩⟩
theorem CurS.alloc (h : CurS wr bx bk o s u0 u1 u2 u3 u4 u5 W) (ob : Obj) : CurS wr bx bk o s u0 u1 u2 u3 u4 u5 (W.alloc ob) := h.call (below_alloc1 W ob)
end

/-- two layouts that are the same, in every world that has grown -/
def EqC (wr : World) (x y : Value) : Prop := ∀ (n : Nat) (os : Array Obj), Calls Tryd.prog 18 #[x, y] (grow (wr.drewN n) os) fun e w' => e = .returned (.bool true) ∧ ∃ q os', w' = grow ((grow (wr.drewN n) os).drewN q) os'
theorem EqC.use {wr : World} {x y : Value} (k : EqC wr x y) (n : Nat) (os : Array Obj) : Calls Tryd.prog 18 #[x, y] (grow (wr.drewN n) os) fun e w' => e = .returned (.bool true) ∧ ∃ q os', w' = grow ((grow (wr.drewN n) os).drewN q) os' := k n os

set_option maxHeartbeats 12800000 in
set_option maxRecDepth 100000 in
theorem cursor_law (c : Ch) (a' : Option Addr) (cap' : Nat) (ks : List ByteArray) (w : World) (hc : c.At w) (hs : c.cur.size ≤ 9223372036854775807) (hK : TextsAt w a' cap' ks) (hT : Tab w) :
    Calls Tryd.prog 5 #[c.val, .slice a' ks.length cap'] w fun e w' => e = .returned (.bool true) ∧ RowKit.Below w.heap.size w w' := by
  have mixed : Tryd.prog.follows .mixedOrders = true := by kernel_rfl
  have hn' : ks.length ≤ 9223372036854775807 := Nat.le_trans hK.room hK.max
  have hl' := hK.lies
  have HZ := hide hK.each
  have hW := fun W (hb : RowKit.Below w.heap.size w W) => works_any W (hT.below hb)
  have hTh := fun W => theirs_any c W
  have hCk := fun W (hb : RowKit.Below w.heap.size w W) => check_any c W (hc.below hb) (by omega)
  have hTN := fun W (hb : RowKit.Below w.heap.size w W) => to_any c ⟨#[]⟩ W (hc.below hb) (by omega) (by decide)
  have hEN := fun W (hb : RowKit.Below w.heap.size w W) => end_call c W (hc.below hb) (by omega)
  have HAT := hide hc
  have HBX := hide (Ch.Box.new c 26 w)
  have HE := hide (show c.chk = if c.may = true then 0 else 70 from rfl)
  obtain ⟨z, hz⟩ : ∃ z, c.chk = z := ⟨_, rfl⟩
  rw [hz] at HE hCk
  clear hz hc hK
  obtain ⟨m, hm⟩ : ∃ m, c.may = m := ⟨_, rfl⟩
  have HM := hide hm
  rw [hm] at HE
  clear hm
  have hB0 : RowKit.Below w.heap.size w (w.alloc (.cells c.cells 26)) := below_alloc1 _ _
  obtain ⟨W0, hW0⟩ : ∃ W0, w.alloc (.cells c.cells 26) = W0 := ⟨_, rfl⟩
  have HW0 := hide hW0
  rw [hW0] at HBX hB0
  clear hW0
  obtain ⟨b, hb⟩ : ∃ b, w.heap.size = b := ⟨_, rfl⟩
  have HBb := hide hb
  rw [hb] at HBX
  clear hb
  obtain ⟨C, hC⟩ : ∃ C : Ch, C = c := ⟨_, rfl⟩
  have HCC := hide hC
  clear hC
  obtain ⟨⟨v, a, n, ws⟩, ⟨v', a2, n2, ws'⟩, t, d⟩ := c
  dsimp only [Ch.val, Ch.cells] at *
  go_enter Tryd.func5, Tryd.ntmps5
  go_wp2_with fail
  rw [HW0.out, HBb.out]
  refine (hW W0 hB0).mono ?_
  rintro e w1 ⟨rfl, hb1⟩
  have hB1 : RowKit.Below w.heap.size w w1 := hB0.trans (hb1.mono hB0.size)
  have B1 := HBX.out
  replace HBX := hide (show Ch.Box _ _ _ w1 from ⟨(hb1.block b B1.lt).trans B1.blk⟩)
  clear B1 hb1 HW0 hB0 W0
  have k0 := HBX.out.c0; have k1 := HBX.out.c1; have k2 := HBX.out.c2; have k3 := HBX.out.c3; have k4 := HBX.out.c4; have k5 := HBX.out.c5
  dsimp only at k0 k1 k2 k3 k4 k5
  go_wp2_with fail
  refine (hTh w1).mono ?_
  rintro e w2 ⟨rfl, hg2⟩
  have hB2 : RowKit.Below w.heap.size w w2 := hB1.trans (hg2.below.mono hB1.size)
  clear k0 k1 k2 k3 k4 k5 HBX hB1 hg2
  go_wp2_with fail
  have HXB : Ch.Box { was := { v := v, a := a, c := n, ws := ws }, will := { v := v', a := a2, c := n2, ws := ws' }, cur := t, done := d } CT w2.heap.size (w2.alloc (Obj.cells #[Value.int IntKind.i64 v, Value.slice a ws.length n, Value.int IntKind.i64 v', Value.slice a2 ws'.length n2, Value.string t, Value.bool d] CT)) := ⟨heap_alloc_new w2 _⟩
  have hB3 : RowKit.Below w.heap.size w (w2.alloc (Obj.cells #[Value.int IntKind.i64 v, Value.slice a ws.length n, Value.int IntKind.i64 v', Value.slice a2 ws'.length n2, Value.string t, Value.bool d] CT)) := hB2.alloc hB2.size _
  obtain ⟨W3, hW3⟩ : ∃ W3, w2.alloc (Obj.cells #[Value.int IntKind.i64 v, Value.slice a ws.length n, Value.int IntKind.i64 v', Value.slice a2 ws'.length n2, Value.string t, Value.bool d] CT) = W3 := ⟨_, rfl⟩
  rw [hW3] at HXB hB3 ⊢
  have hlx : w.heap.size ≤ w2.heap.size := hB2.size
  generalize w2.heap.size = bx at HXB hlx ⊢
  clear hW3 hB2
  refine (hCk W3 hB3).mono ?_
  rintro e w4 ⟨rfl, hg4⟩
  have hB4 : RowKit.Below w.heap.size w w4 := hB3.trans (hg4.below.mono hB3.size)
  replace HXB := hide (HXB.gr hg4)
  clear hg4 hB3 W3
  have k0 := HXB.out.c0; have k1 := HXB.out.c1; have k2 := HXB.out.c2; have k3 := HXB.out.c3; have k4 := HXB.out.c4; have k5 := HXB.out.c5
  dsimp only at k0 k1 k2 k3 k4 k5
  cases m
  · have hz70 : z = 70 := HE.out
    subst hz70
    go_wp2_with fail
    refine (hTN w4 hB4).mono ?_
    rintro e w5 ⟨hb5, ⟨_, rfl⟩ | ⟨hm, _⟩ | ⟨hm, _⟩⟩
    · have hB5 : RowKit.Below w.heap.size w w5 := hB4.trans (hb5.mono hB4.size)
      have B1 := HXB.out
      replace HXB := hide (show Ch.Box _ _ _ w5 from ⟨(hb5.block bx B1.lt).trans B1.blk⟩)
      clear k0 k1 k2 k3 k4 k5 B1 hb5 hB4
      have q := fun o => HXB.out.gr (Gr.alloc1 w5 o)
      have k0 := fun o => (q o).c0; have k1 := fun o => (q o).c1; have k2 := fun o => (q o).c2; have k3 := fun o => (q o).c3; have k4 := fun o => (q o).c4; have k5 := fun o => (q o).c5
      dsimp only at k0 k1 k2 k3 k4 k5
      clear q
      go_wp2_with fail
      replace hB5 := hB5.alloc hB5.size (.cells zcells CT)
      refine (hEN _ hB5).mono ?_
      rintro e w6 ⟨hb6, ⟨_, rfl⟩ | ⟨hm, _⟩ | ⟨hm, _⟩⟩
      · go_wp2
        go_ret
        exact ⟨rfl, (hB5.trans (hb6.mono hB5.size)).alloc (hB5.trans (hb6.mono hB5.size)).size _⟩
      · exact absurd (HM.out.symm.trans hm) (by simp)
      · exact absurd (HM.out.symm.trans hm) (by simp)
    · exact absurd (HM.out.symm.trans hm) (by simp)
    · exact absurd (HM.out.symm.trans hm) (by simp)
  · have hz0 : z = 0 := HE.out
    subst hz0
    clear k0 k1 k2 k3 k4 k5
    have HX0 := hide (show Ch.At w4 _ from HAT.out.below hB4)
    go_wp2
    clear hCk hTh hW hTN hEN HAT HE
    go_loopw [10] (fun i wr => ∃ (k : Nat) (X : Ch), k ≤ ks.length ∧ i = .int .i64 k ∧ X.Box CT bx wr ∧ X.At wr ∧ X.may = true ∧ RowKit.Below w.heap.size w wr) (fun i _ => ks.length - (intOf i).toNat)
    case atStart => exact ⟨0, _, Nat.zero_le _, rfl, HXB.out, HX0.out, HM.out, hB4⟩
    case round =>
      clear HX0 HXB HM hB4 w4
      obtain ⟨k, X, hk, rfl, hXB, hXA, hXM, hB⟩ := hrel
      by_cases hlt : k < ks.length
      · by_cases h50 : k < 50
        · have i1 : (k : Int) < (ks.length : Int) := by omega
          have i2 : (k : Int) < 50 := by omega
          obtain ⟨bk, off, rfl, hbl, hcc⟩ := (hl'.below hB).at tenc_len k hlt
          have c0 := hcc 0 _ rfl
          rw [Nat.mul_one, Nat.add_zero] at c0
          have hz := HZ.out ks[k] (List.getElem_mem hlt)
          generalize ks[k] = s at c0 hz
          clear hcc
          have HXB := hide hXB
          have HXA := hide hXA
          have HXM := hide hXM
          have hS : CurS wr bx bk (off + k) s (.int .i64 X.was.v) (.slice X.was.a X.was.ws.length X.was.c) (.int .i64 X.will.v) (.slice X.will.a X.will.ws.length X.will.c) (.string X.cur) (.bool X.done) wr := ⟨hXB.c0, hXB.c1, hXB.c2, hXB.c3, hXB.c4, hXB.c5, c0, ⟨RowKit.Below.refl _ _⟩⟩
          have HMD := hide (may_done hXM)
          have HLT := hide (less_bl s X.cur)
          cases hno : toNo X s
          · have hTo := fun W (hb : RowKit.Below wr.heap.size wr W) => to_yes X s W (hXA.below hb) (by have := may_cur hXM; omega) hz hXM hno
            have HNO := hide hno
            clear hXB hXA hXM hno c0
            obtain ⟨⟨v, a, n, ws⟩, ⟨v', a2, n2, ws'⟩, t, d⟩ := X
            dsimp only [Ch.val] at hTo hS HMD HLT
            have hcase : d = false ∧ bl s t = false ∧ ¬ 64 < s.size := by
              have h1 := HNO.out
              rw [toNo] at h1
              dsimp only at h1
              rw [HMD.out] at h1
              simp only [Bool.or_eq_false_iff, decide_eq_false_iff_not] at h1
              exact h1
            obtain ⟨rfl, hb1, h64⟩ := hcase
            have hbx := HXB.out.lt
            go_wp2_with fail
            go_region_held3 (CurS wr bx bk (off + k) s (.int .i64 v) (.slice a ws.length n) (.int .i64 v') (.slice a2 ws'.length n2) (.string t) (.bool false)) (first | with_reducible assumption | with_reducible exact CurS.drew (by assumption) | with_reducible exact CurS.call (by assumption) (by assumption) | with_reducible exact CurS.alloc (by assumption) _ | with_reducible exact CurS.drew (CurS.alloc (by assumption) _) | with_reducible exact CurS.alloc (CurS.call (CurS.drew hS) hb5) _ | with_reducible exact CurS.put6 (by assumption) (Nat.le_refl _) hbx hbl _ _ _ _ _ _)
              (first | (go_at_call 14; refine (hTo _ (CurS.low (by assumption))).mono ?_; rintro e w5 ⟨a1, n1, a3, n3, rfl, hb5, hat5⟩; try (have hnb : w5.heap[wr.heap.size]? = some (.cells zcells CT (0, 0)) := (hb5.block wr.heap.size (by simp)).trans (heap_alloc_new wr _); have e0 : w5.cell? ⟨wr.heap.size, 0, none⟩ = some (.int .i64 0) := cell6 hnb 0 rfl; have e1 : w5.cell? ⟨wr.heap.size, 1, none⟩ = some (.slice none 0 0) := cell6 hnb 1 rfl; have e2 : w5.cell? ⟨wr.heap.size, 2, none⟩ = some (.int .i64 0) := cell6 hnb 2 rfl; have e3 : w5.cell? ⟨wr.heap.size, 3, none⟩ = some (.slice none 0 0) := cell6 hnb 3 rfl; have e4 : w5.cell? ⟨wr.heap.size, 4, none⟩ = some (.string ⟨#[]⟩) := cell6 hnb 4 rfl; have e5 : w5.cell? ⟨wr.heap.size, 5, none⟩ = some (.bool false) := cell6 hnb 5 rfl; have f0 := unfrozen_of_block hnb 0; have f1 := unfrozen_of_block hnb 1; have f2 := unfrozen_of_block hnb 2; have f3 := unfrozen_of_block hnb 3; have f4 := unfrozen_of_block hnb 4; have f5 := unfrozen_of_block hnb 5)))
            all_goals
              first
                | (have hy0 : w5.heap[wr.heap.size]? = some (.cells zcells CT (0, 0)) := (hb5.block wr.heap.size (by simp)).trans (heap_alloc_new wr _)
                   have hy6 := set6_blk hy0 (.int .i64 v) (.slice a1 ws.length n1) (.int .i64 v') (.slice a3 ws'.length n3) (.string s) (.bool false)
                   have hB6 := set6_below (n := wr.heap.size) (((RowKit.Below.refl wr.heap.size wr).alloc (Nat.le_refl _) (.cells zcells CT)).drew.trans (hb5.mono (by simp))) (Nat.le_refl _) (.int .i64 v) (.slice a1 ws.length n1) (.int .i64 v') (.slice a3 ws'.length n3) (.string s) (.bool false)
                   obtain ⟨W6, hW6⟩ : ∃ W6, set6 w5 wr.heap.size (.int .i64 v) (.slice a1 ws.length n1) (.int .i64 v') (.slice a3 ws'.length n3) (.string s) (.bool false) = W6 := ⟨_, rfl⟩
                   have hyl : wr.heap.size ≤ wr.heap.size := Nat.le_refl _
                   rw [hW6] at hy6 hB6
                   rw [show (((((w5.setCell ⟨wr.heap.size, 0, none⟩ (.int .i64 v)).setCell ⟨wr.heap.size, 1, none⟩ (.slice a1 ws.length n1)).setCell ⟨wr.heap.size, 2, none⟩ (.int .i64 v')).setCell ⟨wr.heap.size, 3, none⟩ (.slice a3 ws'.length n3)).setCell ⟨wr.heap.size, 4, none⟩ (.string s)).setCell ⟨wr.heap.size, 5, none⟩ (.bool false) = W6 from hW6]
                   obtain ⟨y, hy⟩ : ∃ y, wr.heap.size = y := ⟨_, rfl⟩
                   rw [hy] at hy6
                   rw [show (Value.pointer (some ⟨wr.heap.size, 0, none⟩)) = .pointer (some ⟨y, 0, none⟩) by rw [hy]]
                   replace hyl : wr.heap.size ≤ y := by omega
                   have L1 := hide (show Lies W6 ienc a1 ws ∧ ∀ g o, a1 = some ⟨g, o, none⟩ → wr.heap.size ≤ g by
                     refine ⟨?_, fun g o ha => by have := hat5.out.2.2.1 g o ha; simp at this; omega⟩
                     rw [← hW6]
                     exact hat5.out.1.later (fun g o ha _ => set6_other _ _ g (by have := hat5.out.2.2.1 g o ha; simp at this; omega) _ _ _ _ _ _) (by simp))
                   have L2 := hide (show Lies W6 ienc a3 ws' ∧ ∀ g o, a3 = some ⟨g, o, none⟩ → wr.heap.size ≤ g by
                     refine ⟨?_, fun g o ha => by have := hat5.out.2.2.2 g o ha; simp at this; omega⟩
                     rw [← hW6]
                     exact hat5.out.2.1.later (fun g o ha _ => set6_other _ _ g (by have := hat5.out.2.2.2 g o ha; simp at this; omega) _ _ _ _ _ _) (by simp))
                   clear hy hW6 hy0)
                | (have hy6 := heap_alloc_new w5 (.cells #[(.int .i64 v), (.slice a1 ws.length n1), (.int .i64 v'), (.slice a3 ws'.length n3), (.string s), (.bool false)] CT)
                   have hB6 : RowKit.Below wr.heap.size wr (w5.alloc (.cells #[(.int .i64 v), (.slice a1 ws.length n1), (.int .i64 v'), (.slice a3 ws'.length n3), (.string s), (.bool false)] CT)) := ((RowKit.Below.refl wr.heap.size wr).drew.trans hb5).alloc hb5.size _
                   obtain ⟨W6, hW6⟩ : ∃ W6, w5.alloc (.cells #[(.int .i64 v), (.slice a1 ws.length n1), (.int .i64 v'), (.slice a3 ws'.length n3), (.string s), (.bool false)] CT) = W6 := ⟨_, rfl⟩
                   have hyl : wr.heap.size ≤ w5.heap.size := hb5.size
                   rw [hW6] at hy6 hB6 ⊢
                   have L1 := hide (show Lies W6 ienc a1 ws ∧ ∀ g o, a1 = some ⟨g, o, none⟩ → wr.heap.size ≤ g from ⟨by rw [← hW6]; exact hat5.out.1.below (below_alloc1 _ _), fun g o ha => hat5.out.2.2.1 g o ha⟩)
                   have L2 := hide (show Lies W6 ienc a3 ws' ∧ ∀ g o, a3 = some ⟨g, o, none⟩ → wr.heap.size ≤ g from ⟨by rw [← hW6]; exact hat5.out.2.1.below (below_alloc1 _ _), fun g o ha => hat5.out.2.2.2 g o ha⟩)
                   generalize w5.heap.size = y at hy6 hyl ⊢
                   clear hW6)
            all_goals
              have hB7 : RowKit.Below w.heap.size w W6 := hB.trans (hB6.mono hB.size)
              have HX6 := hide (show Ch.Box _ CT bx W6 from ⟨(hB6.block bx hbx).trans HXB.out.blk⟩)
              have k4 := HX6.out.c4; have k5 := HX6.out.c5
              dsimp only at k4 k5
              have c6 := (hB6.cell (p := ⟨bk, off + k, none⟩) hbl).trans hS.2.2.2.2.2.2.1
              have HA6 := hide (HXA.out.below hB6)
              have HY6 := hide hy6
              clear hb5 hTo hS hy6 hat5
              have hlt1 := HLT.out.trans hb1
              have h64' : ¬ (64 : Int) < (s.size : Int) := by omega
              go_wp2_with fail
              refine wp_region_quiet_lit (by kernel_rfl) (by kernel_rfl) ?_
              refine QW.out ?_
              repeat (refine QW.step (fun K hK => ?_); go_simp; refine hK _ ?_; clear hK K)
              refine QW.nil ?_
              rintro w7 ⟨nq, rfl⟩
              have hd := below_draws W6.heap.size W6 nq
              have HYb := hide (show Ch.Box ⟨⟨v, a1, n1, ws⟩, ⟨v', a3, n3, ws'⟩, s, false⟩ CT y (W6.drewN nq) from ⟨(hd.block y (Array.getElem?_eq_some_iff.1 HY6.out).1).trans HY6.out⟩)
              replace HX6 := hide (show Ch.Box _ CT bx (W6.drewN nq) from ⟨(hd.block bx HX6.out.lt).trans HX6.out.blk⟩)
              replace HA6 := hide (HA6.out.below hd)
              replace L1 := hide (show _ ∧ _ from ⟨L1.out.1.below hd, L1.out.2⟩)
              replace L2 := hide (show _ ∧ _ from ⟨L2.out.1.below hd, L2.out.2⟩)
              have c7 := (hd.cell (p := ⟨bk, off + k, none⟩) (Nat.lt_of_lt_of_le hbl hB6.size)).trans c6
              replace hB7 := hB7.trans (hd.mono hB7.size)
              have hyx : bx ≠ y := by omega
              generalize W6.drewN nq = W7 at HYb HX6 HA6 L1 L2 c7 hB7 ⊢
              clear hd k4 k5 c6 HY6 hB6 hlt1
              have HYA := hide (show Ch.At W7 ⟨⟨v, a1, n1, ws⟩, ⟨v', a3, n3, ws'⟩, s, false⟩ from ⟨⟨L1.out.1, HA6.out.h1.len⟩, ⟨L2.out.1, HA6.out.h2.len⟩⟩)
              have HYM := hide (show Ch.may ⟨⟨v, a1, n1, ws⟩, ⟨v', a3, n3, ws'⟩, s, false⟩ = true from may_like HXM.out ⟨rfl, rfl, rfl, rfl⟩ (by dsimp only; omega) rfl)
              have hq1 : EqC W7 (.agg #[.int .i64 v, .slice a1 ws.length n1]) (.agg #[.int .i64 v, .slice a ws.length n]) := fun m os => by
                have h := equal_any ⟨v, a1, n1, ws⟩ ⟨v, a, n, ws⟩ (grow (W7.drewN m) os) (HYA.out.h1.below (Gr.grow (Gr.refl W7) m os).below) (HA6.out.h1.below (Gr.grow (Gr.refl W7) m os).below)
                simpa using h
              have hq2 : EqC W7 (.agg #[.int .i64 v', .slice a3 ws'.length n3]) (.agg #[.int .i64 v', .slice a2 ws'.length n2]) := fun m os => by
                have h := equal_any ⟨v', a3, n3, ws'⟩ ⟨v', a2, n2, ws'⟩ (grow (W7.drewN m) os) (HYA.out.h2.below (Gr.grow (Gr.refl W7) m os).below) (HA6.out.h2.below (Gr.grow (Gr.refl W7) m os).below)
                simpa using h
              have hq3 : ∀ m os, Calls Tryd.prog 13 #[.agg #[.int .i64 v, .slice a1 ws.length n1, .int .i64 v', .slice a3 ws'.length n3, .string s, .bool false]] (grow (W7.drewN m) os) fun e w' => e = .returned (.int .i64 0) ∧ ∃ q os', w' = grow ((grow (W7.drewN m) os).drewN q) os' := fun m os => by
                have h := check_any ⟨⟨v, a1, n1, ws⟩, ⟨v', a3, n3, ws'⟩, s, false⟩ (grow (W7.drewN m) os) (HYA.out.below (Gr.grow (Gr.refl W7) m os).below) (by dsimp only; omega)
                rw [Ch.chk, if_pos HYM.out] at h
                exact h
              have hlx' := HX6.out.lt
              have hly' := HYb.out.lt
              have hlk' := World.block_lt_of_cell? W7 _ c7
              have g0 := fun m os => cell_grown (w := W7) hlx' HX6.out.c0 m os; have g1 := fun m os => cell_grown (w := W7) hlx' HX6.out.c1 m os; have g2 := fun m os => cell_grown (w := W7) hlx' HX6.out.c2 m os; have g3 := fun m os => cell_grown (w := W7) hlx' HX6.out.c3 m os
              have y0 := fun m os => cell_grown (w := W7) hly' HYb.out.c0 m os; have y1 := fun m os => cell_grown (w := W7) hly' HYb.out.c1 m os; have y2 := fun m os => cell_grown (w := W7) hly' HYb.out.c2 m os; have y3 := fun m os => cell_grown (w := W7) hly' HYb.out.c3 m os; have y4 := fun m os => cell_grown (w := W7) hly' HYb.out.c4 m os; have y5 := fun m os => cell_grown (w := W7) hly' HYb.out.c5 m os
              have g7 := fun m os => cell_grown (w := W7) hlk' c7 m os
              dsimp only at g0 g1 g2 g3 y0 y1 y2 y3 y4 y5
              go_wp2_with fail
              refine wp_region_quiet_grown (by kernel_rfl) (by kernel_rfl) ?_
              refine QW.out ?_
              repeat (refine QW.step (fun K hK => ?_); go_simp; first | (refine hK _ ?_; clear hK K) | (apply Exists.intro; refine ⟨fun _ => ?_, hK _ ?_⟩; (first | (go_at_call 18; with_reducible refine Calls.grown_of (EqC.use (by assumption) _ _)) | (go_at_call 13; refine Calls.grown_of (hq3 _ _))); clear hK K))
              refine QW.nil ?_
              rintro w8 ⟨⟨nq2, osq⟩, rfl⟩
              have hG := Gr.grow (Gr.refl W7) nq2 osq
              have HX8 := HX6.out.gr hG
              have HY8 := HYb.out.gr hG
              have hB8 := hB7.trans (hG.below.mono hB7.size)
              have L8 := hide (show Lies (grow (W7.drewN nq2) osq) ienc a1 ws ∧ Lies (grow (W7.drewN nq2) osq) ienc a3 ws' from ⟨L1.out.1.below hG.below, L2.out.1.below hG.below⟩)
              generalize grow (W7.drewN nq2) osq = W8 at HX8 HY8 hB8 L8 ⊢
              clear g0 g1 g2 g3 y0 y1 y2 y3 y4 y5 g7 hq1 hq2 hq3 hlx' hly' hlk' c7 hG HX6 HYb
              have x0 := HX8.c0; have x1 := HX8.c1; have x2 := HX8.c2; have x3 := HX8.c3; have x4 := HX8.c4; have x5 := HX8.c5
              have y0 := HY8.c0; have y1 := HY8.c1; have y2 := HY8.c2; have y3 := HY8.c3; have y4 := HY8.c4; have y5 := HY8.c5
              dsimp only at x0 x1 x2 x3 x4 x5 y0 y1 y2 y3 y4 y5
              have f0 := unfrozen_of_block HX8.blk 0; have f1 := unfrozen_of_block HX8.blk 1; have f2 := unfrozen_of_block HX8.blk 2; have f3 := unfrozen_of_block HX8.blk 3; have f4 := unfrozen_of_block HX8.blk 4; have f5 := unfrozen_of_block HX8.blk 5
              have HZ9 := hide (set6_blk (W := W8) (b := bx) HX8.blk (.int .i64 v) (.slice a1 ws.length n1) (.int .i64 v') (.slice a3 ws'.length n3) (.string s) (.bool false))
              have HB9 := hide (set6_below (b := bx) hB8 hlx (.int .i64 v) (.slice a1 ws.length n1) (.int .i64 v') (.slice a3 ws'.length n3) (.string s) (.bool false))
              have HA9 := hide (show Lies (set6 W8 bx (.int .i64 v) (.slice a1 ws.length n1) (.int .i64 v') (.slice a3 ws'.length n3) (.string s) (.bool false)) ienc a1 ws ∧ Lies (set6 W8 bx (.int .i64 v) (.slice a1 ws.length n1) (.int .i64 v') (.slice a3 ws'.length n3) (.string s) (.bool false)) ienc a3 ws' from
                ⟨L8.out.1.later (fun g o ha _ => set6_other _ _ g (by have := L1.out.2 g o ha; omega) _ _ _ _ _ _) (by simp), L8.out.2.later (fun g o ha _ => set6_other _ _ g (by have := L2.out.2 g o ha; omega) _ _ _ _ _ _) (by simp)⟩)
              go_wp2
              go_roundw
              case rel => exact ⟨k + 1, ⟨⟨v, a1, n1, ws⟩, ⟨v', a3, n3, ws'⟩, s, false⟩, by omega, by go_num, ⟨HZ9.out⟩, ⟨⟨HA9.out.1, HA6.out.h1.len⟩, ⟨HA9.out.2, HA6.out.h2.len⟩⟩, HYM.out, HB9.out⟩
              case measure => simp [intOf]; omega
          · have hTo := fun W (hb : RowKit.Below wr.heap.size wr W) => to_no X s W (hXA.below hb) (by have := may_cur hXM; omega) hz hXM hno
            have HNO := hide hno
            obtain ⟨C2, hC2⟩ : ∃ C2 : Ch, C2 = X := ⟨_, rfl⟩
            have HC2 := hide hC2
            clear hC2 hXB hXA hXM hno c0
            obtain ⟨⟨v, a, n, ws⟩, ⟨v', a2, n2, ws'⟩, t, d⟩ := X
            dsimp only [Ch.val] at hTo hS HMD HLT
            have hbx := HXB.out.lt
            go_wp2_with fail
            go_region_held3 (CurS wr bx bk (off + k) s (.int .i64 v) (.slice a ws.length n) (.int .i64 v') (.slice a2 ws'.length n2) (.string t) (.bool d)) (first | with_reducible assumption | with_reducible exact CurS.drew (by assumption) | with_reducible exact CurS.call (by assumption) (by assumption) | with_reducible exact CurS.alloc (by assumption) _ | with_reducible exact CurS.drew (CurS.alloc (by assumption) _) | with_reducible exact CurS.put6 (by assumption) (Nat.le_refl _) hbx hbl _ _ _ _ _ _)
              (first | (go_at_call 14; refine (hTo _ (CurS.low (by assumption))).mono ?_; rintro e w5 ⟨rfl, hb5⟩; try (have hnb : w5.heap[wr.heap.size]? = some (.cells zcells CT (0, 0)) := (hb5.block wr.heap.size (by simp)).trans (heap_alloc_new wr _); have e0 : w5.cell? ⟨wr.heap.size, 0, none⟩ = some (.int .i64 0) := cell6 hnb 0 rfl; have e1 : w5.cell? ⟨wr.heap.size, 1, none⟩ = some (.slice none 0 0) := cell6 hnb 1 rfl; have e2 : w5.cell? ⟨wr.heap.size, 2, none⟩ = some (.int .i64 0) := cell6 hnb 2 rfl; have e3 : w5.cell? ⟨wr.heap.size, 3, none⟩ = some (.slice none 0 0) := cell6 hnb 3 rfl; have e4 : w5.cell? ⟨wr.heap.size, 4, none⟩ = some (.string ⟨#[]⟩) := cell6 hnb 4 rfl; have e5 : w5.cell? ⟨wr.heap.size, 5, none⟩ = some (.bool false) := cell6 hnb 5 rfl; have f0 := unfrozen_of_block hnb 0; have f1 := unfrozen_of_block hnb 1; have f2 := unfrozen_of_block hnb 2; have f3 := unfrozen_of_block hnb 3; have f4 := unfrozen_of_block hnb 4; have f5 := unfrozen_of_block hnb 5)))
            all_goals
              first
                | (have hy0 : w5.heap[wr.heap.size]? = some (.cells zcells CT (0, 0)) := (hb5.block wr.heap.size (by simp)).trans (heap_alloc_new wr _)
                   have hy6 := set6_blk hy0 (.int .i64 0) (.slice none 0 0) (.int .i64 0) (.slice none 0 0) (.string ⟨#[]⟩) (.bool false)
                   have hB6 := set6_below (n := wr.heap.size) (((RowKit.Below.refl wr.heap.size wr).alloc (Nat.le_refl _) (.cells zcells CT)).drew.trans (hb5.mono (by simp))) (Nat.le_refl _) (.int .i64 0) (.slice none 0 0) (.int .i64 0) (.slice none 0 0) (.string ⟨#[]⟩) (.bool false)
                   obtain ⟨W6, hW6⟩ : ∃ W6, set6 w5 wr.heap.size (.int .i64 0) (.slice none 0 0) (.int .i64 0) (.slice none 0 0) (.string ⟨#[]⟩) (.bool false) = W6 := ⟨_, rfl⟩
                   have hyl : wr.heap.size ≤ wr.heap.size := Nat.le_refl _
                   rw [hW6] at hy6 hB6
                   rw [show (((((w5.setCell ⟨wr.heap.size, 0, none⟩ (.int .i64 0)).setCell ⟨wr.heap.size, 1, none⟩ (.slice none 0 0)).setCell ⟨wr.heap.size, 2, none⟩ (.int .i64 0)).setCell ⟨wr.heap.size, 3, none⟩ (.slice none 0 0)).setCell ⟨wr.heap.size, 4, none⟩ (.string ⟨#[]⟩)).setCell ⟨wr.heap.size, 5, none⟩ (.bool false) = W6 from hW6]
                   obtain ⟨y, hy⟩ : ∃ y, wr.heap.size = y := ⟨_, rfl⟩
                   rw [hy] at hy6
                   rw [show (Value.pointer (some ⟨wr.heap.size, 0, none⟩)) = .pointer (some ⟨y, 0, none⟩) by rw [hy]]
                   replace hyl : wr.heap.size ≤ y := by omega
                   clear hy hW6 hy0)
                | (have hy6 := heap_alloc_new w5 (.cells #[(.int .i64 0), (.slice none 0 0), (.int .i64 0), (.slice none 0 0), (.string ⟨#[]⟩), (.bool false)] CT)
                   have hB6 : RowKit.Below wr.heap.size wr (w5.alloc (.cells #[(.int .i64 0), (.slice none 0 0), (.int .i64 0), (.slice none 0 0), (.string ⟨#[]⟩), (.bool false)] CT)) := ((RowKit.Below.refl wr.heap.size wr).drew.trans hb5).alloc hb5.size _
                   obtain ⟨W6, hW6⟩ : ∃ W6, w5.alloc (.cells #[(.int .i64 0), (.slice none 0 0), (.int .i64 0), (.slice none 0 0), (.string ⟨#[]⟩), (.bool false)] CT) = W6 := ⟨_, rfl⟩
                   have hyl : wr.heap.size ≤ w5.heap.size := hb5.size
                   rw [hW6] at hy6 hB6 ⊢
                   generalize w5.heap.size = y at hy6 hyl ⊢
                   clear hW6)
            all_goals
              have hB7 : RowKit.Below w.heap.size w W6 := hB.trans (hB6.mono hB.size)
              have HX6 := hide (show Ch.Box _ CT bx W6 from ⟨(hB6.block bx hbx).trans HXB.out.blk⟩)
              have k4 := HX6.out.c4; have k5 := HX6.out.c5
              dsimp only at k4 k5
              have c6 := (hB6.cell (p := ⟨bk, off + k, none⟩) hbl).trans hS.2.2.2.2.2.2.1
              have HA6 := hide (HXA.out.below hB6)
              clear hb5 hTo hS hy6
              have hcase : d = true ∨ (d = false ∧ bl s t = true) ∨ (d = false ∧ bl s t = false ∧ 64 < s.size) := by
                have h1 := HNO.out
                rw [toNo] at h1
                dsimp only at h1
                rw [HMD.out] at h1
                cases d
                · cases hbl' : bl s t
                  · rw [hbl'] at h1; exact Or.inr (Or.inr ⟨rfl, rfl, by simpa using h1⟩)
                  · exact Or.inr (Or.inl ⟨rfl, rfl⟩)
                · exact Or.inl rfl
              rcases hcase with rfl | ⟨rfl, hb1⟩ | ⟨rfl, hb1, h64⟩
              · go_wp2_with fail
                refine wp_region_quiet_lit (by kernel_rfl) (by kernel_rfl) ?_
                refine QW.out ?_
                repeat (refine QW.step (fun K hK => ?_); go_simp; refine hK _ ?_; clear hK K)
                refine QW.nil ?_
                rintro w7 ⟨nq, rfl⟩
                have hd := below_draws W6.heap.size W6 nq
                go_wp2
                go_roundw
                case rel => exact ⟨k + 1, _, by omega, by go_num, ⟨(hd.block bx HX6.out.lt).trans HX6.out.blk⟩, HA6.out.below hd, HXM.out, hB7.trans (hd.mono hB7.size)⟩
                case measure => simp [intOf]; omega
              · have hlt1 := HLT.out.trans hb1
                go_wp2_with fail
                refine wp_region_quiet_lit (by kernel_rfl) (by kernel_rfl) ?_
                refine QW.out ?_
                repeat (refine QW.step (fun K hK => ?_); go_simp; refine hK _ ?_; clear hK K)
                refine QW.nil ?_
                rintro w7 ⟨nq, rfl⟩
                have hd := below_draws W6.heap.size W6 nq
                go_wp2
                go_roundw
                case rel => exact ⟨k + 1, _, by omega, by go_num, ⟨(hd.block bx HX6.out.lt).trans HX6.out.blk⟩, HA6.out.below hd, HXM.out, hB7.trans (hd.mono hB7.size)⟩
                case measure => simp [intOf]; omega
              · have hlt1 := HLT.out.trans hb1
                have h64' : (64 : Int) < (s.size : Int) := by omega
                go_wp2_with fail
                refine wp_region_quiet_lit (by kernel_rfl) (by kernel_rfl) ?_
                refine QW.out ?_
                repeat (refine QW.step (fun K hK => ?_); go_simp; refine hK _ ?_; clear hK K)
                refine QW.nil ?_
                rintro w7 ⟨nq, rfl⟩
                have hd := below_draws W6.heap.size W6 nq
                go_wp2
                go_roundw
                case rel => exact ⟨k + 1, _, by omega, by go_num, ⟨(hd.block bx HX6.out.lt).trans HX6.out.blk⟩, HA6.out.below hd, HXM.out, hB7.trans (hd.mono hB7.size)⟩
                case measure => simp [intOf]; omega
        · have i1 : (k : Int) < (ks.length : Int) := by omega
          have i2 : ¬ (k : Int) < 50 := by omega
          have hEnd := fun W (hb : RowKit.Below wr.heap.size wr W) => end_call X W (hXA.below hb) (by have := may_cur hXM; omega)
          have HXB := hide hXB
          have HMD := hide (may_done hXM)
          have HXM := hide hXM
          clear hXA hXB hXM
          obtain ⟨⟨v, a, n, ws⟩, ⟨v', a2, n2, ws'⟩, t, d⟩ := X
          dsimp only [Ch.val] at hEnd HMD
          have k0 := HXB.out.c0; have k1 := HXB.out.c1; have k2 := HXB.out.c2; have k3 := HXB.out.c3; have k4 := HXB.out.c4; have k5 := HXB.out.c5
          dsimp only at k0 k1 k2 k3 k4 k5
          go_wp2_with fail
          refine (hEnd wr (RowKit.Below.refl _ _)).mono ?_
          rintro e w5 ⟨hb5, ⟨hm, _⟩ | ⟨_, hi, rfl⟩ | ⟨_, hi, ⟨yv, ya, yc, yws⟩, rfl, _, _, _⟩⟩
          · exact absurd (HXM.out.symm.trans hm) (by simp)
          · have hd : d = false := HMD.out.symm.trans hi
            subst hd
            have q := fun o => (below_alloc1 w5 o).cell (p := ⟨bx, 5, none⟩) (Nat.lt_of_lt_of_le HXB.out.lt hb5.size)
            have k6 := fun o => (q o).trans ((hb5.cell (p := ⟨bx, 5, none⟩) HXB.out.lt).trans k5)
            clear k0 k1 k2 k3 k4 k5 q
            have hB5 := hB.trans (hb5.mono hB.size)
            go_wp2
            go_ret
            exact ⟨rfl, hB5.alloc hB5.size _⟩
          · have hd : d = true := HMD.out.symm.trans hi
            subst hd
            have q := fun o => (below_alloc1 w5 o).cell (p := ⟨bx, 5, none⟩) (Nat.lt_of_lt_of_le HXB.out.lt hb5.size)
            have k6 := fun o => (q o).trans ((hb5.cell (p := ⟨bx, 5, none⟩) HXB.out.lt).trans k5)
            clear k0 k1 k2 k3 k4 k5 q
            have hB5 := hB.trans (hb5.mono hB.size)
            go_wp2
            go_ret
            exact ⟨rfl, hB5.alloc hB5.size _⟩
      · have i1 : ¬ (k : Int) < (ks.length : Int) := by omega
        have hEnd := fun W (hb : RowKit.Below wr.heap.size wr W) => end_call X W (hXA.below hb) (by have := may_cur hXM; omega)
        have HXB := hide hXB
        have HMD := hide (may_done hXM)
        have HXM := hide hXM
        clear hXA hXB hXM
        obtain ⟨⟨v, a, n, ws⟩, ⟨v', a2, n2, ws'⟩, t, d⟩ := X
        dsimp only [Ch.val] at hEnd HMD
        have k0 := HXB.out.c0; have k1 := HXB.out.c1; have k2 := HXB.out.c2; have k3 := HXB.out.c3; have k4 := HXB.out.c4; have k5 := HXB.out.c5
        dsimp only at k0 k1 k2 k3 k4 k5
        go_wp2_with fail
        refine (hEnd wr (RowKit.Below.refl _ _)).mono ?_
        rintro e w5 ⟨hb5, ⟨hm, _⟩ | ⟨_, hi, rfl⟩ | ⟨_, hi, ⟨yv, ya, yc, yws⟩, rfl, _, _, _⟩⟩
        · exact absurd (HXM.out.symm.trans hm) (by simp)
        · have hd : d = false := HMD.out.symm.trans hi
          subst hd
          have q := fun o => (below_alloc1 w5 o).cell (p := ⟨bx, 5, none⟩) (Nat.lt_of_lt_of_le HXB.out.lt hb5.size)
          have k6 := fun o => (q o).trans ((hb5.cell (p := ⟨bx, 5, none⟩) HXB.out.lt).trans k5)
          clear k0 k1 k2 k3 k4 k5 q
          have hB5 := hB.trans (hb5.mono hB.size)
          go_wp2
          go_ret
          exact ⟨rfl, hB5.alloc hB5.size _⟩
        · have hd : d = true := HMD.out.symm.trans hi
          subst hd
          have q := fun o => (below_alloc1 w5 o).cell (p := ⟨bx, 5, none⟩) (Nat.lt_of_lt_of_le HXB.out.lt hb5.size)
          have k6 := fun o => (q o).trans ((hb5.cell (p := ⟨bx, 5, none⟩) HXB.out.lt).trans k5)
          clear k0 k1 k2 k3 k4 k5 q
          have hB5 := hB.trans (hb5.mono hB.size)
          go_wp2
          go_ret
          exact ⟨rfl, hB5.alloc hB5.size _⟩
end Go.Proofs.YtpefdccbfocmoabDoor.Ly
