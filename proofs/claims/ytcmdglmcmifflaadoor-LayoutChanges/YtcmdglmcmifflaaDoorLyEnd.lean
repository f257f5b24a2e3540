/- Walks over layout.go: End. -/
import Derived.Test.YtcmdglmcmifflaaDoorLyEq
namespace Go.Proofs.YtcmdglmcmifflaaDoor.Ly
open Go.RowKit Go.Joins Go.Sort Gk Rg

abbrev zl : Value := .agg #[.int .i64 0, .slice none 0 0]
/-- what End answers -/
def EndPost (w : World) (c : Ch) (e : Ending) (w' : World) : Prop := Below w.heap.size w w' ∧
  ((c.may = false ∧ e = .returned (.tuple #[zl, .int .i64 70])) ∨ (c.may = true ∧ isEnd c.cur c.done = false ∧ e = .returned (.tuple #[zl, .int .i64 1])) ∨
   (c.may = true ∧ isEnd c.cur c.done = true ∧ ∃ y : La, e = .returned (.tuple #[y.val, .int .i64 0]) ∧ y.v = c.will.v ∧ y.ws = c.will.ws ∧ y.At w'))

set_option maxHeartbeats 6400000 in
set_option maxRecDepth 100000 in
theorem end_call (c : Ch) (w : World) (h : c.At w) (hs : c.cur.size ≤ 9223372036854775807) :
    Calls Tryd.prog 17 #[c.val] w fun e w' => EndPost w c e w' := by
  have hK := fun (W : World) (hg : Below w.heap.size w W) => check_any c W (h.below hg) hs
  have hS := fun (W : World) => stands_any c W
  have hE := fun (W : World) => end_any W
  have hP2 : ∀ W : World, Below w.heap.size w W → c.may = true → Calls Tryd.prog 39 #[c.will.val] W fun e w' => ∃ a1 c1, e = .returned (.agg #[.int .i64 c.will.v, .slice a1 c.will.ws.length c1]) ∧ Below W.heap.size W w' ∧ Hid (Lies w' ienc a1 c.will.ws ∧ ∀ g o, a1 = some ⟨g, o, none⟩ → W.heap.size ≤ g) := fun W hg hm => by
    refine (copied_any c.will W (h.h2.below hg) (La.may_iff.1 (by rw [Ch.may] at hm; simp only [Bool.and_eq_true] at hm; exact hm.2.1)).2.2).mono ?_
    rintro e w' ⟨⟨_, a1, c1, _⟩, rfl, rfl, rfl, hat, hf, hb⟩
    exact ⟨a1, c1, rfl, hb, hat.lies, hf⟩
  have hlen2 := h.h2.len
  have HBX : CS w c w.heap.size (((w.alloc (.cells c.cells CT))).alloc (.cells #[.int .i64 0, .slice none 0 0] LT)) := ⟨(Ch.Box.new c CT w).gr (Gr.alloc1 _ _), below_alloc2 _ _ _, Nat.le_refl _⟩
  have hbr : (((w.alloc (.cells c.cells CT))).alloc (.cells #[.int .i64 0, .slice none 0 0] LT)).heap[w.heap.size + 1]? = some (.cells #[.int .i64 0, .slice none 0 0] LT (0, 0)) := by
    have := heap_alloc_new (w.alloc (.cells c.cells CT)) (.cells #[.int .i64 0, .slice none 0 0] LT); rwa [World.size_alloc] at this
  obtain ⟨W0, hW0⟩ : ∃ W0, ((w.alloc (.cells c.cells CT))).alloc (.cells #[.int .i64 0, .slice none 0 0] LT) = W0 := ⟨_, rfl⟩
  have HW := hide hW0
  rw [hW0] at HBX hbr
  clear hW0 h
  obtain ⟨b, hb⟩ : ∃ b, w.heap.size = b := ⟨_, rfl⟩
  have HBb := hide hb
  rw [hb] at hbr
  have HX : CS w c b W0 := by rw [← hb]; exact HBX
  clear hb HBX
  have HE := hide (show c.chk = if c.may = true then 0 else 70 from rfl)
  obtain ⟨z, hz⟩ : ∃ z, c.chk = z := ⟨_, rfl⟩
  rw [hz] at HE hK
  clear hz
  obtain ⟨m, hm⟩ : ∃ m, c.may = m := ⟨_, rfl⟩
  have HM := hide hm
  rw [hm] at HE hP2
  clear hm
  obtain ⟨PP, hPP⟩ : ∃ PP, EndPost w c = PP := ⟨_, rfl⟩
  have HPP := hide hPP
  rw [hPP]
  clear hPP
  obtain ⟨⟨v, a, n, ws⟩, ⟨v', a', n', ws'⟩, t, d⟩ := c
  dsimp only [Ch.val, La.val, Ch.cells] at *
  go_enter Tryd.func17, Tryd.ntmps17
  go_wp2_with fail
  rw [HW.out, HBb.out]
  refine (hK W0 HX.low).mono ?_
  rintro e w1 ⟨rfl, hg1⟩
  replace hbr := (hg1.below.block (b + 1) (Array.getElem?_eq_some_iff.1 hbr).1).trans hbr
  replace HX := HX.call hg1.below
  have HX' := hide HX
  have HR := hide hbr
  have r0 : w1.cell? ⟨b + 1, 0, none⟩ = some (.int .i64 0) := cell6 hbr 0 rfl
  have r1 : w1.cell? ⟨b + 1, 1, none⟩ = some (.slice none 0 0) := cell6 hbr 1 rfl
  have f0 := unfrozen_of_block hbr 0; have f1 := unfrozen_of_block hbr 1
  clear hbr hg1 HW HX
  have hres : ∀ (u0 u1 : Value) (W : World), W.heap[b + 1]? = some (.cells #[.int .i64 0, .slice none 0 0] LT (0, 0)) → ((W.setCell ⟨b + 1, 0, none⟩ u0).setCell ⟨b + 1, 1, none⟩ u1).heap[b + 1]? = some (.cells #[u0, u1] LT (0, 0)) := fun u0 u1 W h => block_setCell (block_setCell h (i := 0) u0) (i := 1) u1
  have hlow : ∀ (u0 u1 : Value) (W : World), Below w.heap.size w W → Below w.heap.size w ((W.setCell ⟨b + 1, 0, none⟩ u0).setCell ⟨b + 1, 1, none⟩ u1) := fun u0 u1 W h => (h.setCell (p := ⟨b + 1, 0, none⟩) (by have := HBb.out; show w.heap.size ≤ b + 1; omega) _).setCell (p := ⟨b + 1, 1, none⟩) (by have := HBb.out; show w.heap.size ≤ b + 1; omega) _
  cases m
  · have hz70 : z = 70 := HE.out
    subst hz70
    go_wp2
    have hz := hres (.int .i64 0) (.slice none 0 0) w1 HR.out
    refine bodyPost_ret (v := .tuple #[zl, .int .i64 70]) (by simp [results, Tryd.results17, go_sem, (cell6 hz 0 rfl), (cell6 hz 1 rfl)]) rfl ?_
    rw [← HPP.out]
    exact ⟨hlow _ _ _ HX'.out.low, Or.inl ⟨HM.out, rfl⟩⟩
  · have hz0 : z = 0 := HE.out
    replace hP2 := fun W h => hP2 W h rfl
    subst hz0
    have k0 := HX'.out.c0; have k1 := HX'.out.c1; have k2 := HX'.out.c2; have k3 := HX'.out.c3; have k4 := HX'.out.c4; have k5 := HX'.out.c5
    dsimp only at k0 k1 k2 k3 k4 k5
    clear r0 r1 f0 f1
    go_wp2_with fail
    refine (hS w1).mono ?_
    rintro e w2 ⟨rfl, hg2⟩
    go_wp2_with fail
    refine (hE w2).mono ?_
    rintro e w3 ⟨rfl, hg3⟩
    replace HR := hide (((hg2.trans hg3).below.block (b + 1) (Array.getElem?_eq_some_iff.1 HR.out).1).trans HR.out)
    replace HX' := hide (HX'.out.call (hg2.trans hg3).below)
    clear hg2 hg3 k0 k1 k2 k3 k4 k5
    have hbr := HR.out
    have r0 : w3.cell? ⟨b + 1, 0, none⟩ = some (.int .i64 0) := cell6 hbr 0 rfl
    have r1 : w3.cell? ⟨b + 1, 1, none⟩ = some (.slice none 0 0) := cell6 hbr 1 rfl
    have f0 := unfrozen_of_block hbr 0; have f1 := unfrozen_of_block hbr 1
    have k2 := HX'.out.c2; have k3 := HX'.out.c3
    dsimp only at k2 k3
    clear hbr
    have hcase : (d = true ∧ t.toList = []) ∨ (isEnd t d = false ∧ ((d = false) ∨ (d = true ∧ ¬ t.toList = []))) := by
      cases d
      · exact Or.inr ⟨by simp [isEnd], Or.inl rfl⟩
      · by_cases ht : t.toList = []
        · exact Or.inl ⟨rfl, ht⟩
        · exact Or.inr ⟨by simp [isEnd, ht], Or.inr ⟨rfl, ht⟩⟩
    rcases hcase with ⟨rfl, ht⟩ | ⟨hno, hc⟩
    · have TN := hide (show isEnd t true = true by simp [isEnd, ht])
      clear r0 r1 f0 f1
      go_wp2_with fail
      refine (hP2 w3 HX'.out.low).mono ?_
      rintro e w4 ⟨a1, n1, rfl, hb4, hat1⟩
      have hbr := (hb4.block (b + 1) (Array.getElem?_eq_some_iff.1 HR.out).1).trans HR.out
      have HR4 := hide hbr
      have hlr := (Array.getElem?_eq_some_iff.1 HR.out).1
      have r0 : w4.cell? ⟨b + 1, 0, none⟩ = some (.int .i64 0) := cell6 hbr 0 rfl
      have r1 : w4.cell? ⟨b + 1, 1, none⟩ = some (.slice none 0 0) := cell6 hbr 1 rfl
      have f0 := unfrozen_of_block hbr 0; have f1 := unfrozen_of_block hbr 1
      clear hbr k2 k3
      go_wp2
      have hz := hres (.int .i64 v') (.slice a1 ws'.length n1) w4 HR4.out
      refine bodyPost_ret (v := .tuple #[.agg #[.int .i64 v', .slice a1 ws'.length n1], .int .i64 0]) (by simp [results, Tryd.results17, go_sem, (cell6 hz 0 rfl), (cell6 hz 1 rfl)]) rfl ?_
      rw [← HPP.out]
      refine ⟨hlow _ _ _ (HX'.out.low.trans (hb4.mono HX'.out.low.size)), Or.inr (Or.inr ⟨HM.out, TN.out, ⟨v', a1, n1, ws'⟩, rfl, rfl, rfl, ⟨?_, hlen2⟩⟩)⟩
      refine hat1.out.1.later (fun g o ha _ => ?_) (by simp)
      have : w3.heap.size ≤ g := hat1.out.2 g o ha
      rw [Below.heap_setCell _ _ _ g (by show g ≠ b + 1; omega), Below.heap_setCell _ _ _ g (by show g ≠ b + 1; omega)]
    · have TN := hide hno
      clear hno
      rcases hc with rfl | ⟨rfl, ht⟩
      · go_wp2
        have hz := hres (.int .i64 0) (.slice none 0 0) w3 HR.out
        refine bodyPost_ret (v := .tuple #[zl, .int .i64 1]) (by simp [results, Tryd.results17, go_sem, (cell6 hz 0 rfl), (cell6 hz 1 rfl)]) rfl ?_
        rw [← HPP.out]
        exact ⟨hlow _ _ _ HX'.out.low, Or.inr (Or.inl ⟨HM.out, TN.out, rfl⟩)⟩
      · go_wp2
        have hz := hres (.int .i64 0) (.slice none 0 0) w3 HR.out
        refine bodyPost_ret (v := .tuple #[zl, .int .i64 1]) (by simp [results, Tryd.results17, go_sem, (cell6 hz 0 rfl), (cell6 hz 1 rfl)]) rfl ?_
        rw [← HPP.out]
        exact ⟨hlow _ _ _ HX'.out.low, Or.inr (Or.inl ⟨HM.out, TN.out, rfl⟩)⟩

end Go.Proofs.YtcmdglmcmifflaaDoor.Ly
