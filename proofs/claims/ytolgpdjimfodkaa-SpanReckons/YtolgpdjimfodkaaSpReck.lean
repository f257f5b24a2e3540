/- SpanReckons: normal lists, unions, meets and what is left are those of the document, of any lists, which stay as they are. Proved: for all lists, no condition (of lists of 61 to 4096 spans the law itself asks nothing but its fixed beginning). -/
import Derived.Test.YtolgpdjimfodkaaSpBook
namespace Go.Proofs.Ytolgpdjimfodkaa.Sp
open Go.RowKit Go.Joins Gk

/-- a list that was lent -/
def Lent (w : World) (B g c : Nat) (l : List Sp) : Prop := w.ownsRow B SpT 2 (.slice (some ⟨g, 0, none⟩) (l.length + 1) c) (l.length + 1) (rc senc (l ++ [⟨markT, nix⟩]))
theorem Lent.below {w w' : World} {B g c : Nat} {l : List Sp} (h : Lent w B g c l) (hb : Below w.heap.size w w') : Lent w' B g c l := own_below h hb
theorem own_lies' {w : World} {B : Nat} {v : Value} {l : List Sp} (h : w.ownsRow B SpT 2 v l.length (rc senc l)) : ∃ a c, v = .slice a l.length c ∧ Lies w senc a l ∧ l.length ≤ 9223372036854775807 := by
  obtain ⟨a, c, rfl⟩ := own_slice h
  have hr := own_mono h (Nat.zero_le _)
  have := own_room hr
  exact ⟨a, c, rfl, Row.lies hr, by omega⟩

set_option maxHeartbeats 12800000 in
set_option maxRecDepth 100000 in
theorem reckons_law (aa : Option Addr) (ca : Nat) (la : List Sp) (ab : Option Addr) (cb : Nat) (lb : List Sp) (w : World) (ha : SpansAt w aa ca la ∧ la.length * 32 ≤ 140737488351232) (hb : SpansAt w ab cb lb ∧ lb.length * 32 ≤ 140737488351232) :
    Calls Try.prog 3 #[.slice aa la.length ca, .slice ab lb.length cb] w fun e w' => e = .returned (.bool true) ∧ Below w.heap.size w w' := by
  obtain ⟨ha, na⟩ := ha
  obtain ⟨hb, nb⟩ := hb
  have hla := ha.lies
  have hlb := hb.lies
  have za := ha.nil
  have zb := hb.nil
  clear ha hb
  by_cases hmid : (60 < la.length ∧ la.length ≤ 4096) ∨ (60 < lb.length ∧ lb.length ≤ 4096)
  · have hW := works_any w
    by_cases h1 : 60 < la.length ∧ la.length ≤ 4096
    · have a1 : (60 : Int) < (la.length : Int) := by omega
      have a2 : (la.length : Int) ≤ 4096 := by omega
      go_enter Try.func3, Try.ntmps3
      go_wp2_with (go_at_call 8; refine hW.mono ?_; rintro e w1 ⟨rfl, hb1⟩)
      go_ret
      exact ⟨rfl, hb1⟩
    · have h2 : 60 < lb.length ∧ lb.length ≤ 4096 := by rcases hmid with h | h; exact (h1 h).elim; exact h
      have a1 : (60 : Int) < (lb.length : Int) := by omega
      have a2 : (lb.length : Int) ≤ 4096 := by omega
      by_cases h3 : 60 < la.length
      · have a3 : (60 : Int) < (la.length : Int) := by omega
        have a4 : ¬ (la.length : Int) ≤ 4096 := by omega
        go_enter Try.func3, Try.ntmps3
        go_wp2_with (go_at_call 8; refine hW.mono ?_; rintro e w1 ⟨rfl, hb1⟩)
        go_ret
        exact ⟨rfl, hb1⟩
      · have a3 : ¬ (60 : Int) < (la.length : Int) := by omega
        go_enter Try.func3, Try.ntmps3
        go_wp2_with (go_at_call 8; refine hW.mono ?_; rintro e w1 ⟨rfl, hb1⟩)
        go_ret
        exact ⟨rfl, hb1⟩
  · have fa : Fit la := by unfold Fit; omega
    have fb : Fit lb := by unfold Fit; omega
    have hLa := lend_any aa ca la w hla za na
    have hLb := fun W (hb : Below w.heap.size w W) => lend_any ab cb lb W (hlb.below hb) zb nb
    by_cases hA : 60 < la.length
    · have a1 :  (60 : Int) < (la.length : Int) := by omega
      have a2 : ¬ (la.length : Int) ≤ 4096 := by omega
      by_cases hBb : 60 < lb.length
      · have a3 :  (60 : Int) < (lb.length : Int) := by omega
        have a4 : ¬ (lb.length : Int) ≤ 4096 := by omega
        go_enter Try.func3, Try.ntmps3
        go_wp2_with fail
        refine hLa.mono ?_
        rintro e w1 ⟨g1, c1, rfl, hO1, hb1⟩
        have L1 : Lent w1 w.heap.size g1 c1 la := hO1
        have q := hLb _ hb1
        clear hO1 hLa hLb
        go_wp2_with fail
        refine q.mono ?_
        rintro e w2 ⟨g2, c2, rfl, hO2, hb2⟩
        have L2 : Lent w2 w1.heap.size g2 c2 lb := hO2
        replace L1 := L1.below hb2
        have hB := hb1.trans (hb2.mono hb1.size)
        clear hO2 hb1 hb2 q
        have q := Normal_any (some ⟨g1, 0, none⟩) c1 la w2 (lent_lies L1 rfl) (by omega) fa
        have q' := fun W (h : Below w.heap.size w W) => rNormal_any aa ca la W (hla.below h) (by omega) fa
        generalize reck kOr la [] = R at q q'
        obtain ⟨R1, R2⟩ := R
        dsimp only at q q'
        go_wp2_with fail
        refine q.mono ?_
        rintro e w3 ⟨v3, rfl, ho3, hb3⟩
        obtain ⟨a3, d3, rfl, hl3, n3⟩ := own_lies' ho3
        replace hB := hB.trans (hb3.mono hB.size)
        replace L1 := L1.below hb3
        replace L2 := L2.below hb3
        clear q ho3 hb3
        have q := q' _ hB
        clear q'
        go_wp2_with fail
        refine q.mono ?_
        rintro e w4 ⟨v4, rfl, ho4, hb4⟩
        obtain ⟨a4, d4, rfl, hl4, -⟩ := own_lies' ho4
        replace hB := hB.trans (hb4.mono hB.size)
        replace L1 := L1.below hb4
        replace L2 := L2.below hb4
        replace hl3 := hl3.below hb4
        clear q ho4 hb4
        have q := same_any a3 a4 d3 d4 R1 w4 hl3 hl4 n3
        go_wp2_with fail
        refine q.mono ?_
        rintro e w5 ⟨rfl, hb5⟩
        replace hB := hB.trans (hb5.mono hB.size)
        replace L1 := L1.below hb5
        replace L2 := L2.below hb5
        clear q hb5 hl3 hl4 n3
        go_wp2
        go_loopw [11] (fun i wr => ∃ k : Nat, k ≤ 3 ∧ i = .int .i64 k ∧ Below w.heap.size w wr ∧ Lent wr w.heap.size g1 c1 la ∧ Lent wr w1.heap.size g2 c2 lb) (fun i _ => 3 - (intOf i).toNat)
        case atStart => exact ⟨0, by omega, rfl, hB, L1, L2⟩
        case round =>
          clear hB L1 L2
          obtain ⟨k, hk, rfl, hB, L1, L2⟩ := hrel
          obtain rfl | rfl | rfl | rfl : k = 0 ∨ k = 1 ∨ k = 2 ∨ k = 3 := by omega
          · have q := fun W (h : Below wr.heap.size wr W) => Union_any (some ⟨g1, 0, none⟩) (some ⟨g2, 0, none⟩) c1 c2 la lb W (lent_lies (L1.below h) rfl) (lent_lies (L2.below h) rfl) (by omega) (by omega) fa fb
            have q' := fun W (h : Below w.heap.size w W) => rOf_any (K := kOr) rfl 0 aa ab ca cb la lb W (hla.below h) (hlb.below h) (by omega) (by omega) fa fb (fun key V hV h1 h2 => in_kOr aa ab ca cb la lb key V ((hla.below h).below hV) ((hlb.below h).below hV) h1 h2)
            generalize reck kOr la lb = R at q q'
            obtain ⟨R1, R2⟩ := R
            dsimp only at q q'
            go_wp2_with fail
            refine (q _ (below_alloc1 wr _)).mono ?_
            rintro e w6 ⟨v6, rfl, ho6, hb6⟩
            have hz6 := below_alloc1 wr (.cells #[.func (.func 13) #[] #[], .func (.func 14) #[] #[], .func (.func 15) #[] #[]] 29)
            have hX : Below wr.heap.size wr w6 := hz6.trans (hb6.mono hz6.size)
            replace ho6 := own_mono ho6 hz6.size
            have HO6 := hide ho6
            obtain ⟨a6, d6, rfl, hl6, n6⟩ := own_lies' ho6
            clear q ho6 hb6 hz6
            have q := q' _ (hB.trans (hX.mono hB.size))
            clear q'
            go_wp2_with fail
            refine q.mono ?_
            rintro e w7 ⟨v7, rfl, ho7, hb7⟩
            obtain ⟨a7, d7, rfl, hl7, -⟩ := own_lies' ho7
            replace hX := hX.trans (hb7.mono hX.size)
            replace hl6 := hl6.below hb7
            replace HO6 := hide (own_below HO6.out hb7)
            clear q ho7 hb7
            have q := same_any a6 a7 d6 d7 R1 w7 hl6 hl7 n6
            go_wp2_with fail
            refine q.mono ?_
            rintro e w8 ⟨rfl, hb8⟩
            replace hX := hX.trans (hb8.mono hX.size)
            have q' := spoil_any _ _ _ w8 (own_below HO6.out hb8)
            clear q hb8 HO6 hl6 hl7 n6
            go_wp2_with fail
            refine q'.mono ?_
            rintro e w9 ⟨rfl, hb9⟩
            replace hX := hX.trans hb9
            clear q' hb9
            go_wp2
            go_roundw
            case rel => exact ⟨1, by omega, by first | rfl | go_num, hB.trans (hX.mono hB.size), L1.below hX, L2.below hX⟩
            case measure => simp [intOf]
          · have q := fun W (h : Below wr.heap.size wr W) => Meet_any (some ⟨g1, 0, none⟩) (some ⟨g2, 0, none⟩) c1 c2 la lb W (lent_lies (L1.below h) rfl) (lent_lies (L2.below h) rfl) (by omega) (by omega) fa fb
            have q' := fun W (h : Below w.heap.size w W) => rOf_any (K := kAnd) rfl 1 aa ab ca cb la lb W (hla.below h) (hlb.below h) (by omega) (by omega) fa fb (fun key V hV h1 h2 => in_kAnd aa ab ca cb la lb key V ((hla.below h).below hV) ((hlb.below h).below hV) h1 h2)
            generalize reck kAnd la lb = R at q q'
            obtain ⟨R1, R2⟩ := R
            dsimp only at q q'
            go_wp2_with fail
            refine (q _ (below_alloc1 wr _)).mono ?_
            rintro e w6 ⟨v6, rfl, ho6, hb6⟩
            have hz6 := below_alloc1 wr (.cells #[.func (.func 13) #[] #[], .func (.func 14) #[] #[], .func (.func 15) #[] #[]] 29)
            have hX : Below wr.heap.size wr w6 := hz6.trans (hb6.mono hz6.size)
            replace ho6 := own_mono ho6 hz6.size
            have HO6 := hide ho6
            obtain ⟨a6, d6, rfl, hl6, n6⟩ := own_lies' ho6
            clear q ho6 hb6 hz6
            have q := q' _ (hB.trans (hX.mono hB.size))
            clear q'
            go_wp2_with fail
            refine q.mono ?_
            rintro e w7 ⟨v7, rfl, ho7, hb7⟩
            obtain ⟨a7, d7, rfl, hl7, -⟩ := own_lies' ho7
            replace hX := hX.trans (hb7.mono hX.size)
            replace hl6 := hl6.below hb7
            replace HO6 := hide (own_below HO6.out hb7)
            clear q ho7 hb7
            have q := same_any a6 a7 d6 d7 R1 w7 hl6 hl7 n6
            go_wp2_with fail
            refine q.mono ?_
            rintro e w8 ⟨rfl, hb8⟩
            replace hX := hX.trans (hb8.mono hX.size)
            have q' := spoil_any _ _ _ w8 (own_below HO6.out hb8)
            clear q hb8 HO6 hl6 hl7 n6
            go_wp2_with fail
            refine q'.mono ?_
            rintro e w9 ⟨rfl, hb9⟩
            replace hX := hX.trans hb9
            clear q' hb9
            go_wp2
            go_roundw
            case rel => exact ⟨2, by omega, by first | rfl | go_num, hB.trans (hX.mono hB.size), L1.below hX, L2.below hX⟩
            case measure => simp [intOf]
          · have q := fun W (h : Below wr.heap.size wr W) => Minus_any (some ⟨g1, 0, none⟩) (some ⟨g2, 0, none⟩) c1 c2 la lb W (lent_lies (L1.below h) rfl) (lent_lies (L2.below h) rfl) (by omega) (by omega) fa fb
            have q' := fun W (h : Below w.heap.size w W) => rOf_any (K := kNot) rfl 2 aa ab ca cb la lb W (hla.below h) (hlb.below h) (by omega) (by omega) fa fb (fun key V hV h1 h2 => in_kNot aa ab ca cb la lb key V ((hla.below h).below hV) ((hlb.below h).below hV) h1 h2)
            generalize reck kNot la lb = R at q q'
            obtain ⟨R1, R2⟩ := R
            dsimp only at q q'
            go_wp2_with fail
            refine (q _ (below_alloc1 wr _)).mono ?_
            rintro e w6 ⟨v6, rfl, ho6, hb6⟩
            have hz6 := below_alloc1 wr (.cells #[.func (.func 13) #[] #[], .func (.func 14) #[] #[], .func (.func 15) #[] #[]] 29)
            have hX : Below wr.heap.size wr w6 := hz6.trans (hb6.mono hz6.size)
            replace ho6 := own_mono ho6 hz6.size
            have HO6 := hide ho6
            obtain ⟨a6, d6, rfl, hl6, n6⟩ := own_lies' ho6
            clear q ho6 hb6 hz6
            have q := q' _ (hB.trans (hX.mono hB.size))
            clear q'
            go_wp2_with fail
            refine q.mono ?_
            rintro e w7 ⟨v7, rfl, ho7, hb7⟩
            obtain ⟨a7, d7, rfl, hl7, -⟩ := own_lies' ho7
            replace hX := hX.trans (hb7.mono hX.size)
            replace hl6 := hl6.below hb7
            replace HO6 := hide (own_below HO6.out hb7)
            clear q ho7 hb7
            have q := same_any a6 a7 d6 d7 R1 w7 hl6 hl7 n6
            go_wp2_with fail
            refine q.mono ?_
            rintro e w8 ⟨rfl, hb8⟩
            replace hX := hX.trans (hb8.mono hX.size)
            have q' := spoil_any _ _ _ w8 (own_below HO6.out hb8)
            clear q hb8 HO6 hl6 hl7 n6
            go_wp2_with fail
            refine q'.mono ?_
            rintro e w9 ⟨rfl, hb9⟩
            replace hX := hX.trans hb9
            clear q' hb9
            go_wp2
            go_roundw
            case rel => exact ⟨3, by omega, by first | rfl | go_num, hB.trans (hX.mono hB.size), L1.below hX, L2.below hX⟩
            case measure => simp [intOf]
          · have q := kept_spans g1 c1 aa ca la wr L1 (hla.below hB) (by omega)
            go_wp2_with fail
            refine q.mono ?_
            rintro e w6 ⟨rfl, hb6⟩
            replace hB := hB.trans (hb6.mono hB.size)
            replace L2 := L2.below hb6
            clear q hb6
            have q := kept_spans g2 c2 ab cb lb w6 L2 (hlb.below hB) (by omega)
            go_wp2_with fail
            refine q.mono ?_
            rintro e w7 ⟨rfl, hb7⟩
            replace hB := hB.trans (hb7.mono hB.size)
            clear q hb7
            have q := works_any w7
            go_wp2_with fail
            refine q.mono ?_
            rintro e w8 ⟨rfl, hb8⟩
            replace hB := hB.trans (hb8.mono hB.size)
            clear q hb8
            go_wp2
            go_ret
            exact ⟨rfl, hB⟩
      · have a3 : ¬ (60 : Int) < (lb.length : Int) := by omega
        go_enter Try.func3, Try.ntmps3
        go_wp2_with fail
        refine hLa.mono ?_
        rintro e w1 ⟨g1, c1, rfl, hO1, hb1⟩
        have L1 : Lent w1 w.heap.size g1 c1 la := hO1
        have q := hLb _ hb1
        clear hO1 hLa hLb
        go_wp2_with fail
        refine q.mono ?_
        rintro e w2 ⟨g2, c2, rfl, hO2, hb2⟩
        have L2 : Lent w2 w1.heap.size g2 c2 lb := hO2
        replace L1 := L1.below hb2
        have hB := hb1.trans (hb2.mono hb1.size)
        clear hO2 hb1 hb2 q
        have q := Normal_any (some ⟨g1, 0, none⟩) c1 la w2 (lent_lies L1 rfl) (by omega) fa
        have q' := fun W (h : Below w.heap.size w W) => rNormal_any aa ca la W (hla.below h) (by omega) fa
        generalize reck kOr la [] = R at q q'
        obtain ⟨R1, R2⟩ := R
        dsimp only at q q'
        go_wp2_with fail
        refine q.mono ?_
        rintro e w3 ⟨v3, rfl, ho3, hb3⟩
        obtain ⟨a3, d3, rfl, hl3, n3⟩ := own_lies' ho3
        replace hB := hB.trans (hb3.mono hB.size)
        replace L1 := L1.below hb3
        replace L2 := L2.below hb3
        clear q ho3 hb3
        have q := q' _ hB
        clear q'
        go_wp2_with fail
        refine q.mono ?_
        rintro e w4 ⟨v4, rfl, ho4, hb4⟩
        obtain ⟨a4, d4, rfl, hl4, -⟩ := own_lies' ho4
        replace hB := hB.trans (hb4.mono hB.size)
        replace L1 := L1.below hb4
        replace L2 := L2.below hb4
        replace hl3 := hl3.below hb4
        clear q ho4 hb4
        have q := same_any a3 a4 d3 d4 R1 w4 hl3 hl4 n3
        go_wp2_with fail
        refine q.mono ?_
        rintro e w5 ⟨rfl, hb5⟩
        replace hB := hB.trans (hb5.mono hB.size)
        replace L1 := L1.below hb5
        replace L2 := L2.below hb5
        clear q hb5 hl3 hl4 n3
        go_wp2
        go_loopw [11] (fun i wr => ∃ k : Nat, k ≤ 3 ∧ i = .int .i64 k ∧ Below w.heap.size w wr ∧ Lent wr w.heap.size g1 c1 la ∧ Lent wr w1.heap.size g2 c2 lb) (fun i _ => 3 - (intOf i).toNat)
        case atStart => exact ⟨0, by omega, rfl, hB, L1, L2⟩
        case round =>
          clear hB L1 L2
          obtain ⟨k, hk, rfl, hB, L1, L2⟩ := hrel
          obtain rfl | rfl | rfl | rfl : k = 0 ∨ k = 1 ∨ k = 2 ∨ k = 3 := by omega
          · have q := fun W (h : Below wr.heap.size wr W) => Union_any (some ⟨g1, 0, none⟩) (some ⟨g2, 0, none⟩) c1 c2 la lb W (lent_lies (L1.below h) rfl) (lent_lies (L2.below h) rfl) (by omega) (by omega) fa fb
            have q' := fun W (h : Below w.heap.size w W) => rOf_any (K := kOr) rfl 0 aa ab ca cb la lb W (hla.below h) (hlb.below h) (by omega) (by omega) fa fb (fun key V hV h1 h2 => in_kOr aa ab ca cb la lb key V ((hla.below h).below hV) ((hlb.below h).below hV) h1 h2)
            generalize reck kOr la lb = R at q q'
            obtain ⟨R1, R2⟩ := R
            dsimp only at q q'
            go_wp2_with fail
            refine (q _ (below_alloc1 wr _)).mono ?_
            rintro e w6 ⟨v6, rfl, ho6, hb6⟩
            have hz6 := below_alloc1 wr (.cells #[.func (.func 13) #[] #[], .func (.func 14) #[] #[], .func (.func 15) #[] #[]] 29)
            have hX : Below wr.heap.size wr w6 := hz6.trans (hb6.mono hz6.size)
            replace ho6 := own_mono ho6 hz6.size
            have HO6 := hide ho6
            obtain ⟨a6, d6, rfl, hl6, n6⟩ := own_lies' ho6
            clear q ho6 hb6 hz6
            have q := q' _ (hB.trans (hX.mono hB.size))
            clear q'
            go_wp2_with fail
            refine q.mono ?_
            rintro e w7 ⟨v7, rfl, ho7, hb7⟩
            obtain ⟨a7, d7, rfl, hl7, -⟩ := own_lies' ho7
            replace hX := hX.trans (hb7.mono hX.size)
            replace hl6 := hl6.below hb7
            replace HO6 := hide (own_below HO6.out hb7)
            clear q ho7 hb7
            have q := same_any a6 a7 d6 d7 R1 w7 hl6 hl7 n6
            go_wp2_with fail
            refine q.mono ?_
            rintro e w8 ⟨rfl, hb8⟩
            replace hX := hX.trans (hb8.mono hX.size)
            have q' := spoil_any _ _ _ w8 (own_below HO6.out hb8)
            clear q hb8 HO6 hl6 hl7 n6
            go_wp2_with fail
            refine q'.mono ?_
            rintro e w9 ⟨rfl, hb9⟩
            replace hX := hX.trans hb9
            clear q' hb9
            go_wp2
            go_roundw
            case rel => exact ⟨1, by omega, by first | rfl | go_num, hB.trans (hX.mono hB.size), L1.below hX, L2.below hX⟩
            case measure => simp [intOf]
          · have q := fun W (h : Below wr.heap.size wr W) => Meet_any (some ⟨g1, 0, none⟩) (some ⟨g2, 0, none⟩) c1 c2 la lb W (lent_lies (L1.below h) rfl) (lent_lies (L2.below h) rfl) (by omega) (by omega) fa fb
            have q' := fun W (h : Below w.heap.size w W) => rOf_any (K := kAnd) rfl 1 aa ab ca cb la lb W (hla.below h) (hlb.below h) (by omega) (by omega) fa fb (fun key V hV h1 h2 => in_kAnd aa ab ca cb la lb key V ((hla.below h).below hV) ((hlb.below h).below hV) h1 h2)
            generalize reck kAnd la lb = R at q q'
            obtain ⟨R1, R2⟩ := R
            dsimp only at q q'
            go_wp2_with fail
            refine (q _ (below_alloc1 wr _)).mono ?_
            rintro e w6 ⟨v6, rfl, ho6, hb6⟩
            have hz6 := below_alloc1 wr (.cells #[.func (.func 13) #[] #[], .func (.func 14) #[] #[], .func (.func 15) #[] #[]] 29)
            have hX : Below wr.heap.size wr w6 := hz6.trans (hb6.mono hz6.size)
            replace ho6 := own_mono ho6 hz6.size
            have HO6 := hide ho6
            obtain ⟨a6, d6, rfl, hl6, n6⟩ := own_lies' ho6
            clear q ho6 hb6 hz6
            have q := q' _ (hB.trans (hX.mono hB.size))
            clear q'
            go_wp2_with fail
            refine q.mono ?_
            rintro e w7 ⟨v7, rfl, ho7, hb7⟩
            obtain ⟨a7, d7, rfl, hl7, -⟩ := own_lies' ho7
            replace hX := hX.trans (hb7.mono hX.size)
            replace hl6 := hl6.below hb7
            replace HO6 := hide (own_below HO6.out hb7)
            clear q ho7 hb7
            have q := same_any a6 a7 d6 d7 R1 w7 hl6 hl7 n6
            go_wp2_with fail
            refine q.mono ?_
            rintro e w8 ⟨rfl, hb8⟩
            replace hX := hX.trans (hb8.mono hX.size)
            have q' := spoil_any _ _ _ w8 (own_below HO6.out hb8)
            clear q hb8 HO6 hl6 hl7 n6
            go_wp2_with fail
            refine q'.mono ?_
            rintro e w9 ⟨rfl, hb9⟩
            replace hX := hX.trans hb9
            clear q' hb9
            go_wp2
            go_roundw
            case rel => exact ⟨2, by omega, by first | rfl | go_num, hB.trans (hX.mono hB.size), L1.below hX, L2.below hX⟩
            case measure => simp [intOf]
          · have q := fun W (h : Below wr.heap.size wr W) => Minus_any (some ⟨g1, 0, none⟩) (some ⟨g2, 0, none⟩) c1 c2 la lb W (lent_lies (L1.below h) rfl) (lent_lies (L2.below h) rfl) (by omega) (by omega) fa fb
            have q' := fun W (h : Below w.heap.size w W) => rOf_any (K := kNot) rfl 2 aa ab ca cb la lb W (hla.below h) (hlb.below h) (by omega) (by omega) fa fb (fun key V hV h1 h2 => in_kNot aa ab ca cb la lb key V ((hla.below h).below hV) ((hlb.below h).below hV) h1 h2)
            generalize reck kNot la lb = R at q q'
            obtain ⟨R1, R2⟩ := R
            dsimp only at q q'
            go_wp2_with fail
            refine (q _ (below_alloc1 wr _)).mono ?_
            rintro e w6 ⟨v6, rfl, ho6, hb6⟩
            have hz6 := below_alloc1 wr (.cells #[.func (.func 13) #[] #[], .func (.func 14) #[] #[], .func (.func 15) #[] #[]] 29)
            have hX : Below wr.heap.size wr w6 := hz6.trans (hb6.mono hz6.size)
            replace ho6 := own_mono ho6 hz6.size
            have HO6 := hide ho6
            obtain ⟨a6, d6, rfl, hl6, n6⟩ := own_lies' ho6
            clear q ho6 hb6 hz6
            have q := q' _ (hB.trans (hX.mono hB.size))
            clear q'
            go_wp2_with fail
            refine q.mono ?_
            rintro e w7 ⟨v7, rfl, ho7, hb7⟩
            obtain ⟨a7, d7, rfl, hl7, -⟩ := own_lies' ho7
            replace hX := hX.trans (hb7.mono hX.size)
            replace hl6 := hl6.below hb7
            replace HO6 := hide (own_below HO6.out hb7)
            clear q ho7 hb7
            have q := same_any a6 a7 d6 d7 R1 w7 hl6 hl7 n6
            go_wp2_with fail
            refine q.mono ?_
            rintro e w8 ⟨rfl, hb8⟩
            replace hX := hX.trans (hb8.mono hX.size)
            have q' := spoil_any _ _ _ w8 (own_below HO6.out hb8)
            clear q hb8 HO6 hl6 hl7 n6
            go_wp2_with fail
            refine q'.mono ?_
            rintro e w9 ⟨rfl, hb9⟩
            replace hX := hX.trans hb9
            clear q' hb9
            go_wp2
            go_roundw
            case rel => exact ⟨3, by omega, by first | rfl | go_num, hB.trans (hX.mono hB.size), L1.below hX, L2.below hX⟩
            case measure => simp [intOf]
          · have q := kept_spans g1 c1 aa ca la wr L1 (hla.below hB) (by omega)
            go_wp2_with fail
            refine q.mono ?_
            rintro e w6 ⟨rfl, hb6⟩
            replace hB := hB.trans (hb6.mono hB.size)
            replace L2 := L2.below hb6
            clear q hb6
            have q := kept_spans g2 c2 ab cb lb w6 L2 (hlb.below hB) (by omega)
            go_wp2_with fail
            refine q.mono ?_
            rintro e w7 ⟨rfl, hb7⟩
            replace hB := hB.trans (hb7.mono hB.size)
            clear q hb7
            have q := works_any w7
            go_wp2_with fail
            refine q.mono ?_
            rintro e w8 ⟨rfl, hb8⟩
            replace hB := hB.trans (hb8.mono hB.size)
            clear q hb8
            go_wp2
            go_ret
            exact ⟨rfl, hB⟩
    · have a1 : ¬ (60 : Int) < (la.length : Int) := by omega
      by_cases hBb : 60 < lb.length
      · have a3 :  (60 : Int) < (lb.length : Int) := by omega
        have a4 : ¬ (lb.length : Int) ≤ 4096 := by omega
        go_enter Try.func3, Try.ntmps3
        go_wp2_with fail
        refine hLa.mono ?_
        rintro e w1 ⟨g1, c1, rfl, hO1, hb1⟩
        have L1 : Lent w1 w.heap.size g1 c1 la := hO1
        have q := hLb _ hb1
        clear hO1 hLa hLb
        go_wp2_with fail
        refine q.mono ?_
        rintro e w2 ⟨g2, c2, rfl, hO2, hb2⟩
        have L2 : Lent w2 w1.heap.size g2 c2 lb := hO2
        replace L1 := L1.below hb2
        have hB := hb1.trans (hb2.mono hb1.size)
        clear hO2 hb1 hb2 q
        have q := Normal_any (some ⟨g1, 0, none⟩) c1 la w2 (lent_lies L1 rfl) (by omega) fa
        have q' := fun W (h : Below w.heap.size w W) => rNormal_any aa ca la W (hla.below h) (by omega) fa
        generalize reck kOr la [] = R at q q'
        obtain ⟨R1, R2⟩ := R
        dsimp only at q q'
        go_wp2_with fail
        refine q.mono ?_
        rintro e w3 ⟨v3, rfl, ho3, hb3⟩
        obtain ⟨a3, d3, rfl, hl3, n3⟩ := own_lies' ho3
        replace hB := hB.trans (hb3.mono hB.size)
        replace L1 := L1.below hb3
        replace L2 := L2.below hb3
        clear q ho3 hb3
        have q := q' _ hB
        clear q'
        go_wp2_with fail
        refine q.mono ?_
        rintro e w4 ⟨v4, rfl, ho4, hb4⟩
        obtain ⟨a4, d4, rfl, hl4, -⟩ := own_lies' ho4
        replace hB := hB.trans (hb4.mono hB.size)
        replace L1 := L1.below hb4
        replace L2 := L2.below hb4
        replace hl3 := hl3.below hb4
        clear q ho4 hb4
        have q := same_any a3 a4 d3 d4 R1 w4 hl3 hl4 n3
        go_wp2_with fail
        refine q.mono ?_
        rintro e w5 ⟨rfl, hb5⟩
        replace hB := hB.trans (hb5.mono hB.size)
        replace L1 := L1.below hb5
        replace L2 := L2.below hb5
        clear q hb5 hl3 hl4 n3
        go_wp2
        go_loopw [11] (fun i wr => ∃ k : Nat, k ≤ 3 ∧ i = .int .i64 k ∧ Below w.heap.size w wr ∧ Lent wr w.heap.size g1 c1 la ∧ Lent wr w1.heap.size g2 c2 lb) (fun i _ => 3 - (intOf i).toNat)
        case atStart => exact ⟨0, by omega, rfl, hB, L1, L2⟩
        case round =>
          clear hB L1 L2
          obtain ⟨k, hk, rfl, hB, L1, L2⟩ := hrel
          obtain rfl | rfl | rfl | rfl : k = 0 ∨ k = 1 ∨ k = 2 ∨ k = 3 := by omega
          · have q := fun W (h : Below wr.heap.size wr W) => Union_any (some ⟨g1, 0, none⟩) (some ⟨g2, 0, none⟩) c1 c2 la lb W (lent_lies (L1.below h) rfl) (lent_lies (L2.below h) rfl) (by omega) (by omega) fa fb
            have q' := fun W (h : Below w.heap.size w W) => rOf_any (K := kOr) rfl 0 aa ab ca cb la lb W (hla.below h) (hlb.below h) (by omega) (by omega) fa fb (fun key V hV h1 h2 => in_kOr aa ab ca cb la lb key V ((hla.below h).below hV) ((hlb.below h).below hV) h1 h2)
            generalize reck kOr la lb = R at q q'
            obtain ⟨R1, R2⟩ := R
            dsimp only at q q'
            go_wp2_with fail
            refine (q _ (below_alloc1 wr _)).mono ?_
            rintro e w6 ⟨v6, rfl, ho6, hb6⟩
            have hz6 := below_alloc1 wr (.cells #[.func (.func 13) #[] #[], .func (.func 14) #[] #[], .func (.func 15) #[] #[]] 29)
            have hX : Below wr.heap.size wr w6 := hz6.trans (hb6.mono hz6.size)
            replace ho6 := own_mono ho6 hz6.size
            have HO6 := hide ho6
            obtain ⟨a6, d6, rfl, hl6, n6⟩ := own_lies' ho6
            clear q ho6 hb6 hz6
            have q := q' _ (hB.trans (hX.mono hB.size))
            clear q'
            go_wp2_with fail
            refine q.mono ?_
            rintro e w7 ⟨v7, rfl, ho7, hb7⟩
            obtain ⟨a7, d7, rfl, hl7, -⟩ := own_lies' ho7
            replace hX := hX.trans (hb7.mono hX.size)
            replace hl6 := hl6.below hb7
            replace HO6 := hide (own_below HO6.out hb7)
            clear q ho7 hb7
            have q := same_any a6 a7 d6 d7 R1 w7 hl6 hl7 n6
            go_wp2_with fail
            refine q.mono ?_
            rintro e w8 ⟨rfl, hb8⟩
            replace hX := hX.trans (hb8.mono hX.size)
            have q' := spoil_any _ _ _ w8 (own_below HO6.out hb8)
            clear q hb8 HO6 hl6 hl7 n6
            go_wp2_with fail
            refine q'.mono ?_
            rintro e w9 ⟨rfl, hb9⟩
            replace hX := hX.trans hb9
            clear q' hb9
            go_wp2
            go_roundw
            case rel => exact ⟨1, by omega, by first | rfl | go_num, hB.trans (hX.mono hB.size), L1.below hX, L2.below hX⟩
            case measure => simp [intOf]
          · have q := fun W (h : Below wr.heap.size wr W) => Meet_any (some ⟨g1, 0, none⟩) (some ⟨g2, 0, none⟩) c1 c2 la lb W (lent_lies (L1.below h) rfl) (lent_lies (L2.below h) rfl) (by omega) (by omega) fa fb
            have q' := fun W (h : Below w.heap.size w W) => rOf_any (K := kAnd) rfl 1 aa ab ca cb la lb W (hla.below h) (hlb.below h) (by omega) (by omega) fa fb (fun key V hV h1 h2 => in_kAnd aa ab ca cb la lb key V ((hla.below h).below hV) ((hlb.below h).below hV) h1 h2)
            generalize reck kAnd la lb = R at q q'
            obtain ⟨R1, R2⟩ := R
            dsimp only at q q'
            go_wp2_with fail
            refine (q _ (below_alloc1 wr _)).mono ?_
            rintro e w6 ⟨v6, rfl, ho6, hb6⟩
            have hz6 := below_alloc1 wr (.cells #[.func (.func 13) #[] #[], .func (.func 14) #[] #[], .func (.func 15) #[] #[]] 29)
            have hX : Below wr.heap.size wr w6 := hz6.trans (hb6.mono hz6.size)
            replace ho6 := own_mono ho6 hz6.size
            have HO6 := hide ho6
            obtain ⟨a6, d6, rfl, hl6, n6⟩ := own_lies' ho6
            clear q ho6 hb6 hz6
            have q := q' _ (hB.trans (hX.mono hB.size))
            clear q'
            go_wp2_with fail
            refine q.mono ?_
            rintro e w7 ⟨v7, rfl, ho7, hb7⟩
            obtain ⟨a7, d7, rfl, hl7, -⟩ := own_lies' ho7
            replace hX := hX.trans (hb7.mono hX.size)
            replace hl6 := hl6.below hb7
            replace HO6 := hide (own_below HO6.out hb7)
            clear q ho7 hb7
            have q := same_any a6 a7 d6 d7 R1 w7 hl6 hl7 n6
            go_wp2_with fail
            refine q.mono ?_
            rintro e w8 ⟨rfl, hb8⟩
            replace hX := hX.trans (hb8.mono hX.size)
            have q' := spoil_any _ _ _ w8 (own_below HO6.out hb8)
            clear q hb8 HO6 hl6 hl7 n6
            go_wp2_with fail
            refine q'.mono ?_
            rintro e w9 ⟨rfl, hb9⟩
            replace hX := hX.trans hb9
            clear q' hb9
            go_wp2
            go_roundw
            case rel => exact ⟨2, by omega, by first | rfl | go_num, hB.trans (hX.mono hB.size), L1.below hX, L2.below hX⟩
            case measure => simp [intOf]
          · have q := fun W (h : Below wr.heap.size wr W) => Minus_any (some ⟨g1, 0, none⟩) (some ⟨g2, 0, none⟩) c1 c2 la lb W (lent_lies (L1.below h) rfl) (lent_lies (L2.below h) rfl) (by omega) (by omega) fa fb
            have q' := fun W (h : Below w.heap.size w W) => rOf_any (K := kNot) rfl 2 aa ab ca cb la lb W (hla.below h) (hlb.below h) (by omega) (by omega) fa fb (fun key V hV h1 h2 => in_kNot aa ab ca cb la lb key V ((hla.below h).below hV) ((hlb.below h).below hV) h1 h2)
            generalize reck kNot la lb = R at q q'
            obtain ⟨R1, R2⟩ := R
            dsimp only at q q'
            go_wp2_with fail
            refine (q _ (below_alloc1 wr _)).mono ?_
            rintro e w6 ⟨v6, rfl, ho6, hb6⟩
            have hz6 := below_alloc1 wr (.cells #[.func (.func 13) #[] #[], .func (.func 14) #[] #[], .func (.func 15) #[] #[]] 29)
            have hX : Below wr.heap.size wr w6 := hz6.trans (hb6.mono hz6.size)
            replace ho6 := own_mono ho6 hz6.size
            have HO6 := hide ho6
            obtain ⟨a6, d6, rfl, hl6, n6⟩ := own_lies' ho6
            clear q ho6 hb6 hz6
            have q := q' _ (hB.trans (hX.mono hB.size))
            clear q'
            go_wp2_with fail
            refine q.mono ?_
            rintro e w7 ⟨v7, rfl, ho7, hb7⟩
            obtain ⟨a7, d7, rfl, hl7, -⟩ := own_lies' ho7
            replace hX := hX.trans (hb7.mono hX.size)
            replace hl6 := hl6.below hb7
            replace HO6 := hide (own_below HO6.out hb7)
            clear q ho7 hb7
            have q := same_any a6 a7 d6 d7 R1 w7 hl6 hl7 n6
            go_wp2_with fail
            refine q.mono ?_
            rintro e w8 ⟨rfl, hb8⟩
            replace hX := hX.trans (hb8.mono hX.size)
            have q' := spoil_any _ _ _ w8 (own_below HO6.out hb8)
            clear q hb8 HO6 hl6 hl7 n6
            go_wp2_with fail
            refine q'.mono ?_
            rintro e w9 ⟨rfl, hb9⟩
            replace hX := hX.trans hb9
            clear q' hb9
            go_wp2
            go_roundw
            case rel => exact ⟨3, by omega, by first | rfl | go_num, hB.trans (hX.mono hB.size), L1.below hX, L2.below hX⟩
            case measure => simp [intOf]
          · have q := kept_spans g1 c1 aa ca la wr L1 (hla.below hB) (by omega)
            go_wp2_with fail
            refine q.mono ?_
            rintro e w6 ⟨rfl, hb6⟩
            replace hB := hB.trans (hb6.mono hB.size)
            replace L2 := L2.below hb6
            clear q hb6
            have q := kept_spans g2 c2 ab cb lb w6 L2 (hlb.below hB) (by omega)
            go_wp2_with fail
            refine q.mono ?_
            rintro e w7 ⟨rfl, hb7⟩
            replace hB := hB.trans (hb7.mono hB.size)
            clear q hb7
            have q := works_any w7
            go_wp2_with fail
            refine q.mono ?_
            rintro e w8 ⟨rfl, hb8⟩
            replace hB := hB.trans (hb8.mono hB.size)
            clear q hb8
            go_wp2
            go_ret
            exact ⟨rfl, hB⟩
      · have a3 : ¬ (60 : Int) < (lb.length : Int) := by omega
        go_enter Try.func3, Try.ntmps3
        go_wp2_with fail
        refine hLa.mono ?_
        rintro e w1 ⟨g1, c1, rfl, hO1, hb1⟩
        have L1 : Lent w1 w.heap.size g1 c1 la := hO1
        have q := hLb _ hb1
        clear hO1 hLa hLb
        go_wp2_with fail
        refine q.mono ?_
        rintro e w2 ⟨g2, c2, rfl, hO2, hb2⟩
        have L2 : Lent w2 w1.heap.size g2 c2 lb := hO2
        replace L1 := L1.below hb2
        have hB := hb1.trans (hb2.mono hb1.size)
        clear hO2 hb1 hb2 q
        have q := Normal_any (some ⟨g1, 0, none⟩) c1 la w2 (lent_lies L1 rfl) (by omega) fa
        have q' := fun W (h : Below w.heap.size w W) => rNormal_any aa ca la W (hla.below h) (by omega) fa
        generalize reck kOr la [] = R at q q'
        obtain ⟨R1, R2⟩ := R
        dsimp only at q q'
        go_wp2_with fail
        refine q.mono ?_
        rintro e w3 ⟨v3, rfl, ho3, hb3⟩
        obtain ⟨a3, d3, rfl, hl3, n3⟩ := own_lies' ho3
        replace hB := hB.trans (hb3.mono hB.size)
        replace L1 := L1.below hb3
        replace L2 := L2.below hb3
        clear q ho3 hb3
        have q := q' _ hB
        clear q'
        go_wp2_with fail
        refine q.mono ?_
        rintro e w4 ⟨v4, rfl, ho4, hb4⟩
        obtain ⟨a4, d4, rfl, hl4, -⟩ := own_lies' ho4
        replace hB := hB.trans (hb4.mono hB.size)
        replace L1 := L1.below hb4
        replace L2 := L2.below hb4
        replace hl3 := hl3.below hb4
        clear q ho4 hb4
        have q := same_any a3 a4 d3 d4 R1 w4 hl3 hl4 n3
        go_wp2_with fail
        refine q.mono ?_
        rintro e w5 ⟨rfl, hb5⟩
        replace hB := hB.trans (hb5.mono hB.size)
        replace L1 := L1.below hb5
        replace L2 := L2.below hb5
        clear q hb5 hl3 hl4 n3
        go_wp2
        go_loopw [11] (fun i wr => ∃ k : Nat, k ≤ 3 ∧ i = .int .i64 k ∧ Below w.heap.size w wr ∧ Lent wr w.heap.size g1 c1 la ∧ Lent wr w1.heap.size g2 c2 lb) (fun i _ => 3 - (intOf i).toNat)
        case atStart => exact ⟨0, by omega, rfl, hB, L1, L2⟩
        case round =>
          clear hB L1 L2
          obtain ⟨k, hk, rfl, hB, L1, L2⟩ := hrel
          obtain rfl | rfl | rfl | rfl : k = 0 ∨ k = 1 ∨ k = 2 ∨ k = 3 := by omega
          · have q := fun W (h : Below wr.heap.size wr W) => Union_any (some ⟨g1, 0, none⟩) (some ⟨g2, 0, none⟩) c1 c2 la lb W (lent_lies (L1.below h) rfl) (lent_lies (L2.below h) rfl) (by omega) (by omega) fa fb
            have q' := fun W (h : Below w.heap.size w W) => rOf_any (K := kOr) rfl 0 aa ab ca cb la lb W (hla.below h) (hlb.below h) (by omega) (by omega) fa fb (fun key V hV h1 h2 => in_kOr aa ab ca cb la lb key V ((hla.below h).below hV) ((hlb.below h).below hV) h1 h2)
            generalize reck kOr la lb = R at q q'
            obtain ⟨R1, R2⟩ := R
            dsimp only at q q'
            go_wp2_with fail
            refine (q _ (below_alloc1 wr _)).mono ?_
            rintro e w6 ⟨v6, rfl, ho6, hb6⟩
            have hz6 := below_alloc1 wr (.cells #[.func (.func 13) #[] #[], .func (.func 14) #[] #[], .func (.func 15) #[] #[]] 29)
            have hX : Below wr.heap.size wr w6 := hz6.trans (hb6.mono hz6.size)
            replace ho6 := own_mono ho6 hz6.size
            have HO6 := hide ho6
            obtain ⟨a6, d6, rfl, hl6, n6⟩ := own_lies' ho6
            clear q ho6 hb6 hz6
            have q := q' _ (hB.trans (hX.mono hB.size))
            clear q'
            go_wp2_with fail
            refine q.mono ?_
            rintro e w7 ⟨v7, rfl, ho7, hb7⟩
            obtain ⟨a7, d7, rfl, hl7, -⟩ := own_lies' ho7
            replace hX := hX.trans (hb7.mono hX.size)
            replace hl6 := hl6.below hb7
            replace HO6 := hide (own_below HO6.out hb7)
            clear q ho7 hb7
            have q := same_any a6 a7 d6 d7 R1 w7 hl6 hl7 n6
            go_wp2_with fail
            refine q.mono ?_
            rintro e w8 ⟨rfl, hb8⟩
            replace hX := hX.trans (hb8.mono hX.size)
            have q' := spoil_any _ _ _ w8 (own_below HO6.out hb8)
            clear q hb8 HO6 hl6 hl7 n6
            go_wp2_with fail
            refine q'.mono ?_
            rintro e w9 ⟨rfl, hb9⟩
            replace hX := hX.trans hb9
            clear q' hb9
            go_wp2
            go_roundw
            case rel => exact ⟨1, by omega, by first | rfl | go_num, hB.trans (hX.mono hB.size), L1.below hX, L2.below hX⟩
            case measure => simp [intOf]
          · have q := fun W (h : Below wr.heap.size wr W) => Meet_any (some ⟨g1, 0, none⟩) (some ⟨g2, 0, none⟩) c1 c2 la lb W (lent_lies (L1.below h) rfl) (lent_lies (L2.below h) rfl) (by omega) (by omega) fa fb
            have q' := fun W (h : Below w.heap.size w W) => rOf_any (K := kAnd) rfl 1 aa ab ca cb la lb W (hla.below h) (hlb.below h) (by omega) (by omega) fa fb (fun key V hV h1 h2 => in_kAnd aa ab ca cb la lb key V ((hla.below h).below hV) ((hlb.below h).below hV) h1 h2)
            generalize reck kAnd la lb = R at q q'
            obtain ⟨R1, R2⟩ := R
            dsimp only at q q'
            go_wp2_with fail
            refine (q _ (below_alloc1 wr _)).mono ?_
            rintro e w6 ⟨v6, rfl, ho6, hb6⟩
            have hz6 := below_alloc1 wr (.cells #[.func (.func 13) #[] #[], .func (.func 14) #[] #[], .func (.func 15) #[] #[]] 29)
            have hX : Below wr.heap.size wr w6 := hz6.trans (hb6.mono hz6.size)
            replace ho6 := own_mono ho6 hz6.size
            have HO6 := hide ho6
            obtain ⟨a6, d6, rfl, hl6, n6⟩ := own_lies' ho6
            clear q ho6 hb6 hz6
            have q := q' _ (hB.trans (hX.mono hB.size))
            clear q'
            go_wp2_with fail
            refine q.mono ?_
            rintro e w7 ⟨v7, rfl, ho7, hb7⟩
            obtain ⟨a7, d7, rfl, hl7, -⟩ := own_lies' ho7
            replace hX := hX.trans (hb7.mono hX.size)
            replace hl6 := hl6.below hb7
            replace HO6 := hide (own_below HO6.out hb7)
            clear q ho7 hb7
            have q := same_any a6 a7 d6 d7 R1 w7 hl6 hl7 n6
            go_wp2_with fail
            refine q.mono ?_
            rintro e w8 ⟨rfl, hb8⟩
            replace hX := hX.trans (hb8.mono hX.size)
            have q' := spoil_any _ _ _ w8 (own_below HO6.out hb8)
            clear q hb8 HO6 hl6 hl7 n6
            go_wp2_with fail
            refine q'.mono ?_
            rintro e w9 ⟨rfl, hb9⟩
            replace hX := hX.trans hb9
            clear q' hb9
            go_wp2
            go_roundw
            case rel => exact ⟨2, by omega, by first | rfl | go_num, hB.trans (hX.mono hB.size), L1.below hX, L2.below hX⟩
            case measure => simp [intOf]
          · have q := fun W (h : Below wr.heap.size wr W) => Minus_any (some ⟨g1, 0, none⟩) (some ⟨g2, 0, none⟩) c1 c2 la lb W (lent_lies (L1.below h) rfl) (lent_lies (L2.below h) rfl) (by omega) (by omega) fa fb
            have q' := fun W (h : Below w.heap.size w W) => rOf_any (K := kNot) rfl 2 aa ab ca cb la lb W (hla.below h) (hlb.below h) (by omega) (by omega) fa fb (fun key V hV h1 h2 => in_kNot aa ab ca cb la lb key V ((hla.below h).below hV) ((hlb.below h).below hV) h1 h2)
            generalize reck kNot la lb = R at q q'
            obtain ⟨R1, R2⟩ := R
            dsimp only at q q'
            go_wp2_with fail
            refine (q _ (below_alloc1 wr _)).mono ?_
            rintro e w6 ⟨v6, rfl, ho6, hb6⟩
            have hz6 := below_alloc1 wr (.cells #[.func (.func 13) #[] #[], .func (.func 14) #[] #[], .func (.func 15) #[] #[]] 29)
            have hX : Below wr.heap.size wr w6 := hz6.trans (hb6.mono hz6.size)
            replace ho6 := own_mono ho6 hz6.size
            have HO6 := hide ho6
            obtain ⟨a6, d6, rfl, hl6, n6⟩ := own_lies' ho6
            clear q ho6 hb6 hz6
            have q := q' _ (hB.trans (hX.mono hB.size))
            clear q'
            go_wp2_with fail
            refine q.mono ?_
            rintro e w7 ⟨v7, rfl, ho7, hb7⟩
            obtain ⟨a7, d7, rfl, hl7, -⟩ := own_lies' ho7
            replace hX := hX.trans (hb7.mono hX.size)
            replace hl6 := hl6.below hb7
            replace HO6 := hide (own_below HO6.out hb7)
            clear q ho7 hb7
            have q := same_any a6 a7 d6 d7 R1 w7 hl6 hl7 n6
            go_wp2_with fail
            refine q.mono ?_
            rintro e w8 ⟨rfl, hb8⟩
            replace hX := hX.trans (hb8.mono hX.size)
            have q' := spoil_any _ _ _ w8 (own_below HO6.out hb8)
            clear q hb8 HO6 hl6 hl7 n6
            go_wp2_with fail
            refine q'.mono ?_
            rintro e w9 ⟨rfl, hb9⟩
            replace hX := hX.trans hb9
            clear q' hb9
            go_wp2
            go_roundw
            case rel => exact ⟨3, by omega, by first | rfl | go_num, hB.trans (hX.mono hB.size), L1.below hX, L2.below hX⟩
            case measure => simp [intOf]
          · have q := kept_spans g1 c1 aa ca la wr L1 (hla.below hB) (by omega)
            go_wp2_with fail
            refine q.mono ?_
            rintro e w6 ⟨rfl, hb6⟩
            replace hB := hB.trans (hb6.mono hB.size)
            replace L2 := L2.below hb6
            clear q hb6
            have q := kept_spans g2 c2 ab cb lb w6 L2 (hlb.below hB) (by omega)
            go_wp2_with fail
            refine q.mono ?_
            rintro e w7 ⟨rfl, hb7⟩
            replace hB := hB.trans (hb7.mono hB.size)
            clear q hb7
            have q := works_any w7
            go_wp2_with fail
            refine q.mono ?_
            rintro e w8 ⟨rfl, hb8⟩
            replace hB := hB.trans (hb8.mono hB.size)
            clear q hb8
            go_wp2
            go_ret
            exact ⟨rfl, hB⟩

end Go.Proofs.Ytolgpdjimfodkaa.Sp
