/- Walks over layout.go: why a change may not be. -/
import Derived.Test.YtcmdglmcmifflaaDoorLyMay
namespace Go.Proofs.YtcmdglmcmifflaaDoor.Ly
open Go.RowKit Go.Joins Go.Sort Gk Rg

abbrev Ch.cells (c : Ch) : Array Value := #[.int .i64 c.was.v, .slice c.was.a c.was.ws.length c.was.c, .int .i64 c.will.v, .slice c.will.a c.will.ws.length c.will.c, .string c.cur, .bool c.done]
/-- a change in a block of its own, in every world that has grown since -/
structure Ch.Box (c : Ch) (T : TypeId) (b : Nat) (W : World) : Prop where
  blk : W.heap[b]? = some (.cells c.cells T (0, 0))
theorem Ch.Box.lt {c : Ch} {T b : Nat} {W : World} (h : c.Box T b W) : b < W.heap.size := (Array.getElem?_eq_some_iff.1 h.blk).1
theorem Ch.Box.gr {c : Ch} {T b : Nat} {W W' : World} (h : c.Box T b W) (hg : Gr W W') : c.Box T b W' := ⟨(hg.below.block b h.lt).trans h.blk⟩
theorem Ch.Box.new (c : Ch) (T : TypeId) (w : World) : c.Box T w.heap.size (w.alloc (.cells c.cells T)) := ⟨heap_alloc_new w _⟩
section
variable {c : Ch} {T b : Nat} {W : World} (h : c.Box T b W)
include h
theorem Ch.Box.c0 : W.cell? ⟨b, 0, none⟩ = some (.int .i64 c.was.v) := by rw [cell_of_block h.blk]; rfl
theorem Ch.Box.c1 : W.cell? ⟨b, 1, none⟩ = some (.slice c.was.a c.was.ws.length c.was.c) := by rw [cell_of_block h.blk]; rfl
theorem Ch.Box.c2 : W.cell? ⟨b, 2, none⟩ = some (.int .i64 c.will.v) := by rw [cell_of_block h.blk]; rfl
theorem Ch.Box.c3 : W.cell? ⟨b, 3, none⟩ = some (.slice c.will.a c.will.ws.length c.will.c) := by rw [cell_of_block h.blk]; rfl
theorem Ch.Box.c4 : W.cell? ⟨b, 4, none⟩ = some (.string c.cur) := by rw [cell_of_block h.blk]; rfl
theorem Ch.Box.c5 : W.cell? ⟨b, 5, none⟩ = some (.bool c.done) := by rw [cell_of_block h.blk]; rfl
end

def Ch.may (c : Ch) : Bool := c.was.may && (c.will.may && (decide (c.will.v = c.was.v + 1) && (decide (c.was.ws.length ≤ c.will.ws.length) && mayS c.cur c.done)))
def Ch.chk (c : Ch) : Int := if c.may then 0 else 70
theorem follow_eq {x y : La} (h : x.may = true) : (decide (y.v = wrap64 (x.v + 1)) && decide (x.ws.length ≤ y.ws.length)) = (decide (y.v = x.v + 1) && decide (x.ws.length ≤ y.ws.length)) := by
  have := La.may_iff.1 h
  rw [show wrap64 (x.v + 1) = x.v + 1 by unfold wrap64; omega]

set_option maxHeartbeats 3200000 in
theorem check_any (c : Ch) (w : World) (h : c.At w) (hs : c.cur.size ≤ 9223372036854775807) :
    Calls Tryd.prog 21 #[c.val] w fun e w' => e = .returned (.int .i64 c.chk) ∧ Gr w w' := by
  have mixed : Tryd.prog.follows .mixedOrders = true := by kernel_rfl
  have hC1 := fun (W : World) (hg : Gr w W) => layCheck_any c.was W (h.h1.below hg.below)
  have hC2 := fun (W : World) (hg : Gr w W) => layCheck_any c.will W (h.h2.below hg.below)
  have hF := fun (W : World) => follows_any c.was c.will W h.h1.len h.h2.len
  have hS := fun (W : World) => stands_any c W
  have hM := fun (W : World) => mayBe_any c.cur c.done W hs
  have HB := hide (Ch.Box.new c 37 w)
  have hG0 : Gr w (w.alloc (.cells c.cells 37)) := Gr.alloc1 _ _
  obtain ⟨W0, hW0⟩ : ∃ W0, w.alloc (.cells c.cells 37) = W0 := ⟨_, rfl⟩
  have HW := hide hW0
  rw [hW0] at HB hG0
  clear hW0
  have HE := hide (show c.chk = if c.was.may = true then (if c.will.may = true then (if (decide (c.will.v = wrap64 (c.was.v + 1)) && decide (c.was.ws.length ≤ c.will.ws.length)) = true then (if mayS c.cur c.done = true then 0 else 70) else 70) else 70) else 70 by
    rw [Ch.chk, Ch.may]
    by_cases h1 : c.was.may = true
    · rw [if_pos h1, follow_eq h1, h1]
      by_cases h2 : c.will.may = true
      · rw [if_pos h2, h2]
        cases decide (c.will.v = c.was.v + 1) <;> cases decide (c.was.ws.length ≤ c.will.ws.length) <;> cases mayS c.cur c.done <;> rfl
      · rw [if_neg h2]; simp [h2]
    · rw [if_neg h1]; simp [h1])
  obtain ⟨z, hz⟩ : ∃ z, c.chk = z := ⟨_, rfl⟩
  rw [hz] at HE ⊢
  clear hz
  generalize (decide (c.will.v = wrap64 (c.was.v + 1)) && decide (c.was.ws.length ≤ c.will.ws.length)) = f at HE hF
  generalize mayS c.cur c.done = m at HE hM
  unfold La.chk at hC1 hC2
  generalize c.was.may = p at HE hC1
  generalize c.will.may = q at HE hC2
  obtain ⟨b, hb⟩ : ∃ b, w.heap.size = b := ⟨_, rfl⟩
  have HBb := hide hb
  rw [hb] at HB
  clear hb
  obtain ⟨⟨v, a, n, ws⟩, ⟨v', a', n', ws'⟩, s, d⟩ := c
  dsimp only [Ch.val, La.val, Ch.cells] at *
  clear h
  go_enter Tryd.func21, Tryd.ntmps21
  go_wp2_with fail
  rw [HW.out, HBb.out]
  refine (hC1 W0 hG0).mono ?_
  rintro e w1 ⟨rfl, hg1⟩
  have hG1 := hG0.trans hg1
  replace HB := hide (HB.out.gr hg1)
  clear hg1 HW
  cases p
  · go_wp2
    go_ret
    exact ⟨ret_int (by simpa using HE.out.symm), hG1⟩
  · have c2 := HB.out.c2
    have c3 := HB.out.c3
    dsimp only at c2 c3
    go_wp2_with fail
    refine (hC2 w1 hG1).mono ?_
    rintro e w2 ⟨rfl, hg2⟩
    have hG2 := hG1.trans hg2
    replace HB := hide (HB.out.gr hg2)
    clear hg2 c2 c3
    cases q
    · go_wp2
      go_ret
      exact ⟨ret_int (by simpa using HE.out.symm), hG2⟩
    · have c0 := HB.out.c0
      have c1 := HB.out.c1
      have c2 := HB.out.c2
      have c3 := HB.out.c3
      dsimp only at c0 c1 c2 c3
      go_wp2_with fail
      refine (hF w2).mono ?_
      rintro e w3 ⟨rfl, hg3⟩
      have hG3 := hG2.trans hg3
      replace HB := hide (HB.out.gr hg3)
      clear hg3 c0 c1 c2 c3
      cases f
      · go_wp2
        go_ret
        exact ⟨ret_int (by simpa using HE.out.symm), hG3⟩
      · have c0 := HB.out.c0
        have c1 := HB.out.c1
        have c2 := HB.out.c2
        have c3 := HB.out.c3
        have c4 := HB.out.c4
        have c5 := HB.out.c5
        dsimp only at c0 c1 c2 c3 c4 c5
        go_wp2_with fail
        refine (hS w3).mono ?_
        rintro e w4 ⟨rfl, hg4⟩
        have hG4 := hG3.trans hg4
        clear hg4 c0 c1 c2 c3 c4 c5
        go_wp2_with fail
        refine (hM w4).mono ?_
        rintro e w5 ⟨rfl, hg5⟩
        have hG5 := hG4.trans hg5
        cases m
        · go_wp2
          go_ret
          exact ⟨ret_int (by simpa using HE.out.symm), hG5⟩
        · go_wp2
          go_ret
          exact ⟨ret_int (by simpa using HE.out.symm), hG5⟩

end Go.Proofs.YtcmdglmcmifflaaDoor.Ly
