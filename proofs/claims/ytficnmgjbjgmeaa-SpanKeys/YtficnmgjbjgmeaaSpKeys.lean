/- SpanKeys: whether a text is in a union, a meet, what is left, is as it is in the two lists; any text. Proved: for every two lists and every text, no condition. -/
import Derived.Test.YtficnmgjbjgmeaaSpSound
namespace Go.Proofs.Ytficnmgjbjgmeaa.Sp
open Go.RowKit Go.Joins Gk

set_option maxHeartbeats 6400000 in
set_option maxRecDepth 100000 in
theorem keys_law (a : Option Addr) (ca : Nat) (la : List Sp) (b : Option Addr) (cb : Nat) (lb : List Sp) (key : ByteArray) (w : World) (ha : SpansAt w a ca la) (hb : SpansAt w b cb lb) (_ : key.size ≤ 140737488351232) :
    Calls Try.prog 5 #[.slice a la.length ca, .slice b lb.length cb, .string key] w fun e w' => e = .returned (.bool true) ∧ Below w.heap.size w w' := by
  have hna : la.length ≤ 9223372036854775807 := Nat.le_trans ha.room ha.max
  have hnb : lb.length ≤ 9223372036854775807 := Nat.le_trans hb.room hb.max
  have LA := fun W (h : Below w.heap.size w W) => ha.lies.below h
  have LB := fun W (h : Below w.heap.size w W) => hb.lies.below h
  clear ha hb
  go_enter Try.func5, Try.ntmps5
  go_wp2_with fail
  refine (works_any w).mono ?_
  rintro e w1 ⟨rfl, hb1⟩
  have sA := sound_any a ca la w1 (LA _ hb1) hna
  cases hsa : sndL la with
  | false =>
    rw [hsa] at sA
    clear LA LB
    go_wp2_with fail
    refine sA.mono ?_
    rintro e w2 ⟨rfl, hb2⟩
    have hb2' := hb1.trans (hb2.mono hb1.size)
    clear sA
    go_wp2
    go_ret
    exact ⟨rfl, hb2'⟩
  | true =>
    rw [hsa] at sA
    go_wp2_with fail
    refine sA.mono ?_
    rintro e w2 ⟨rfl, hb2⟩
    have hb2' := hb1.trans (hb2.mono hb1.size)
    clear sA hb1 hb2
    have sB := sound_any b cb lb w2 (LB _ hb2') hnb
    cases hsb : sndL lb with
    | false =>
      rw [hsb] at sB
      clear LA LB
      go_wp2_with fail
      refine sB.mono ?_
      rintro e w3 ⟨rfl, hb3⟩
      have hb3' := hb2'.trans (hb3.mono hb2'.size)
      clear sB
      go_wp2
      go_ret
      exact ⟨rfl, hb3'⟩
    | true =>
      rw [hsb] at sB
      go_wp2_with fail
      refine sB.mono ?_
      rintro e w3 ⟨rfl, hb3⟩
      have hb3' := hb2'.trans (hb3.mono hb2'.size)
      clear sB hb2' hb3
      obtain ⟨na, ma⟩ := sndL_may hsa
      obtain ⟨nb, mb⟩ := sndL_may hsb
      have mU := nrm_made (K := kOr) rfl ma mb
      have mM := nrm_made (K := kAnd) rfl ma mb
      have mD := nrm_made (K := kNot) rfl ma mb
      have mN := nrm_made (K := kOr) rfl ma MayL.nil
      have hU := Union_ok a b ca cb la lb w3 (LA _ hb3') (LB _ hb3') ma mb (by omega)
      have xU := mU.2.1 key
      have xM := mM.2.1 key
      have xD := mD.2.1 key
      have xN := mN.2.1 key
      have yU := mU.2.2.2
      have yM := mM.2.2.2
      have yD := mD.2.2.2
      have yN := mN.2.2.2
      clear mU mM mD mN
      go_wp2_with fail
      refine hU.mono ?_
      rintro e w4 ⟨v4, rfl, hr4, hb4⟩
      obtain ⟨a4, c4, rfl, hl4⟩ := own_lies hr4
      have hb4' := hb3'.trans (hb4.mono hb3'.size)
      clear hU hr4 hb4
      have hM := Meet_ok a b ca cb la lb w4 (LA _ hb4') (LB _ hb4') ma mb (by omega)
      go_wp2_with fail
      refine hM.mono ?_
      rintro e w5 ⟨v5, rfl, hr5, hb5⟩
      obtain ⟨a5, c5, rfl, hl5⟩ := own_lies hr5
      have hb5' := hb4'.trans (hb5.mono hb4'.size)
      have hl4 := hl4.below hb5
      clear hM hr5 hb5
      have hD := Minus_ok a b ca cb la lb w5 (LA _ hb5') (LB _ hb5') ma mb (by omega)
      go_wp2_with fail
      refine hD.mono ?_
      rintro e w6 ⟨v6, rfl, hr6, hb6⟩
      obtain ⟨a6, c6, rfl, hl6⟩ := own_lies hr6
      have hb6' := hb5'.trans (hb6.mono hb5'.size)
      have hl4 := hl4.below hb6
      have hl5 := hl5.below hb6
      clear hD hr6 hb6
      have hN := Normal_ok a ca la w6 (LA _ hb6') ma (by omega)
      go_wp2_with fail
      refine hN.mono ?_
      rintro e w7 ⟨v7, rfl, hr7, hb7⟩
      obtain ⟨a7, c7, rfl, hl7⟩ := own_lies hr7
      have hb7' := hb6'.trans (hb7.mono hb6'.size)
      have hl4 := hl4.below hb7
      have hl5 := hl5.below hb7
      have hl6 := hl6.below hb7
      clear hN hr7 hb7
      have P1 := fun W (h : Below w7.heap.size w7 W) => has_any key a ca la W (LA _ (hb7'.trans (h.mono hb7'.size))) hna
      have P2 := fun W (h : Below w7.heap.size w7 W) => has_any key b cb lb W (LB _ (hb7'.trans (h.mono hb7'.size))) hnb
      have P4 := fun W (h : Below w7.heap.size w7 W) => has_any key a4 c4 _ W (hl4.below h) (by omega)
      have P5 := fun W (h : Below w7.heap.size w7 W) => has_any key a5 c5 _ W (hl5.below h) (by omega)
      have P6 := fun W (h : Below w7.heap.size w7 W) => has_any key a6 c6 _ W (hl6.below h) (by omega)
      have P7 := fun W (h : Below w7.heap.size w7 W) => has_any key a7 c7 _ W (hl7.below h) (by simp at yN; omega)
      rw [xU] at P4
      rw [xM] at P5
      rw [xD] at P6
      rw [xN] at P7
      clear xU xM xD xN yU yM yD yN hl4 hl5 hl6 hl7 LA LB hsa hsb ma mb
      generalize (nrm kOr la lb).length = n4 at *
      generalize (nrm kAnd la lb).length = n5 at *
      generalize (nrm kNot la lb).length = n6 at *
      generalize (nrm kOr la []).length = n7 at *
      generalize hasL la key = x at *
      generalize hasL lb key = y at *
      go_wp2_with fail
      refine (P1 _ (Below.refl _ _)).mono ?_
      rintro e w8 ⟨rfl, hb8⟩
      go_wp2_with fail
      refine (P2 _ hb8).mono ?_
      rintro e w9 ⟨rfl, hb9⟩
      have hb9' := hb8.trans (hb9.mono hb8.size)
      clear P1 P2 hb8 hb9
      have hE : hasL [] key = false := rfl
      rw [hE] at P7
      cases x <;> cases y
      all_goals
        simp only [kOr, kAnd, kNot, Bool.or_self, Bool.and_self, Bool.or_true, Bool.and_false, Bool.and_true, Bool.or_false, Bool.not_true, Bool.not_false] at P4 P5 P6 P7
        go_wp2_with fail
        refine (P4 _ hb9').mono ?_
        rintro e w10 ⟨rfl, hb10⟩
        have hb10' := hb9'.trans (hb10.mono hb9'.size)
        go_wp2_with fail
        refine (P5 _ hb10').mono ?_
        rintro e w11 ⟨rfl, hb11⟩
        have hb11' := hb10'.trans (hb11.mono hb10'.size)
        go_wp2_with fail
        refine (P6 _ hb11').mono ?_
        rintro e w12 ⟨rfl, hb12⟩
        have hb12' := hb11'.trans (hb12.mono hb11'.size)
        go_wp2_with fail
        refine (P7 _ hb12').mono ?_
        rintro e w13 ⟨rfl, hb13⟩
        have hb13' := hb12'.trans (hb13.mono hb12'.size)
        have hfin := hb7'.trans (hb13'.mono hb7'.size)
        clear P4 P5 P6 P7 hb10 hb11 hb12 hb13 hb9' hb10' hb11' hb12' hb13'
        go_wp2
        go_ret
        exact ⟨rfl, hfin⟩

end Go.Proofs.Ytficnmgjbjgmeaa.Sp
