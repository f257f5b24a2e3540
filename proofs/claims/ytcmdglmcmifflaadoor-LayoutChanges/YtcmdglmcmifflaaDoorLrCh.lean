/- Layer 7, the document's answer: changes: May, Owner, To, End. -/
import Derived.Test.YtcmdglmcmifflaaDoorLrMay
namespace Go.Proofs.YtcmdglmcmifflaaDoor.Ly
open Go.RowKit Go.Joins Go.Sort Gk Rg

abbrev RCT : TypeId := 39

set_option maxRecDepth 100000 in
set_option maxHeartbeats 1600000 in
theorem cmay_ref (c : Ch) (w : World) (h : c.At w) (hs : c.cur.size ≤ 9223372036854775807) :
    Calls Tryd.prog 22 #[c.val] w fun e w' => e = .returned (.bool c.may) ∧ RowKit.Below w.heap.size w w' := by
  have hb0 := below_b1 w (.cells c.cells RCT)
  have hx0 := Ch.Box.new c RCT w
  have hl1 := h.h1.len
  have hl2 := h.h2.len
  have hM1 := lmay_ref c.was _ (h.h1.below hb0)
  unfold Ch.may
  cases hw : c.was.may
  · rw [hw] at hM1
    go_enter Tryd.func22, Tryd.ntmps22
    go_wp2_with fail
    refine hM1.mono ?_
    rintro e w1 ⟨rfl, hb1⟩
    have hb2 := hb0.trans (hb1.mono hb0.size)
    go_wp2
    go_ret
    exact ⟨rfl, hb2⟩
  · rw [hw] at hM1
    have hwr : wrap64 (c.was.v + 1) = c.was.v + 1 := by have := La.may_iff.1 hw; unfold wrap64; omega
    go_enter Tryd.func22, Tryd.ntmps22
    go_wp2_with fail
    refine hM1.mono ?_
    rintro e w1 ⟨rfl, hb1⟩
    have hb2 := hb0.trans (hb1.mono hb0.size)
    have hx1 : c.Box RCT w.heap.size w1 := ⟨(hb1.block _ hx0.lt).trans hx0.blk⟩
    have c0 := hx1.c0
    have c1 := hx1.c1
    have c2 := hx1.c2
    have c3 := hx1.c3
    have c4 := hx1.c4
    have c5 := hx1.c5
    have hM2 := lmay_ref c.will w1 (h.h2.below hb2)
    clear hb1 hM1 hx0
    cases hv : c.will.may
    · rw [hv] at hM2
      go_wp2_with fail
      refine hM2.mono ?_
      rintro e w2 ⟨rfl, hb3⟩
      have hb4 := hb2.trans (hb3.mono hb2.size)
      go_wp2
      go_ret
      rw [hv]
      exact ⟨rfl, hb4⟩
    · rw [hv] at hM2
      go_wp2_with fail
      refine hM2.mono ?_
      rintro e w2 ⟨rfl, hb3⟩
      have hb4 := hb2.trans (hb3.mono hb2.size)
      have hx2 : c.Box RCT w.heap.size w2 := ⟨(hb3.block _ hx1.lt).trans hx1.blk⟩
      clear c0 c1 c2 c3 c4 c5
      have c0 := hx2.c0
      have c1 := hx2.c1
      have c2 := hx2.c2
      have c3 := hx2.c3
      have c4 := hx2.c4
      have c5 := hx2.c5
      have HB4 := hide hb4
      have HV := hide hv
      clear hb4 hb3 hx1 hx2 hM2 hb2 hb0 hw hv h
      go_wp2
      all_goals
        go_ret
        refine ⟨?_, HB4.out⟩
        rw [HV.out]
        unfold mayS isEnd
        clear c0 c1 c2 c3 c4 c5
        first
          | (simp_all; done)
          | (simp_all; omega)
          | (trace_state; sorry)

end Go.Proofs.YtcmdglmcmifflaaDoor.Ly
