/- Walks over the library's sort by a comparison that is a method's value: choosePivot. -/
import Derived.Test.YtcmdglmcmifflaaDoorRsPiv
namespace Go.Proofs.YtcmdglmcmifflaaDoor.Rs
open Go.RowKit Go.Joins Go.Sort Gk
variable {N : Nat}

/-- a hint's number -/
def hcode : Hint → Int
  | .unknown => 0
  | .increasing => 1
  | .decreasing => 2
theorem adjacent_range (lt : Pl N → Pl N → Bool) (d : Array (Pl N)) (i s : Nat) (h : 1 ≤ i) : i ≤ (medianAdjacent lt d i s).1 + 1 ∧ (medianAdjacent lt d i s).1 ≤ i + 1 ∧ (medianAdjacent lt d i s).2 ≤ s + 3 := by
  have := median_range lt d (i - 1) i (i + 1) s
  unfold medianAdjacent
  omega
set_option maxHeartbeats 6400000 in
set_option maxRecDepth 1000000 in
theorem choose_any (r : Value) (cf : Pl N → Pl N → Int) (blk cap : Nat) (d0 d : Array (Pl N)) (w0 w : World) (hcmp : CL r cf blk d0.size w0) (R : Row1 ec w0 blk 0 d0) (hs : d0.size = d.size) (S : SP w0 blk d w) (hsz : d.size < 4611686018427387904) (a b : Nat) (hab : a < b) (hb : b ≤ d.size) :
    Calls Tryd.prog 81 #[.slice (some ⟨blk, 0, none⟩) d.size cap, .int .i64 a, .int .i64 b, fv r] w fun e w' => e = .returned (.tuple #[.int .i64 ((choosePivot (ltOf cf) d a b).1 : Int), .int .i64 (hcode (choosePivot (ltOf cf) d a b).2)]) ∧ SP w0 blk d w' := by
  obtain ⟨L, hL⟩ : ∃ L, b = a + L := ⟨b - a, by omega⟩
  have zL : (b : Int) - (a : Int) = (L : Int) := by omega
  obtain ⟨Q, hQ⟩ : ∃ Q, Q = L / 4 := ⟨_, rfl⟩
  have z1 : (L : Int) / 4 = (Q : Int) := by omega
  have z2 : (L : Int).tdiv 4 = (Q : Int) := by rw [Int.tdiv_eq_ediv_of_nonneg (by omega)]; exact z1
  have z3 : (Q : Int) ≤ 1152921504606846976 := by omega
  have z4 : (a : Int) ≤ 4611686018427387904 := by omega
  have z5 : (L : Int) ≤ 4611686018427387904 := by omega
  have e0 : IntKind.i64.wrap (L : Int) = (L : Int) := by rw [IntKind.wrap_i64]; omega
  have e1 : IntKind.i64.wrap (Q : Int) = (Q : Int) := by rw [IntKind.wrap_i64]; omega
  have e2 : IntKind.i64.wrap ((Q : Int) * 2) = (Q : Int) * 2 := by rw [IntKind.wrap_i64]; omega
  have e3 : IntKind.i64.wrap ((Q : Int) * 3) = (Q : Int) * 3 := by rw [IntKind.wrap_i64]; omega
  have e4 : IntKind.i64.wrap ((a : Int) + (Q : Int)) = (a : Int) + (Q : Int) := by rw [IntKind.wrap_i64]; omega
  have e5 : IntKind.i64.wrap ((a : Int) + (Q : Int) * 2) = (a : Int) + (Q : Int) * 2 := by rw [IntKind.wrap_i64]; omega
  have e6 : IntKind.i64.wrap ((a : Int) + (Q : Int) * 3) = (a : Int) + (Q : Int) * 3 := by rw [IntKind.wrap_i64]; omega
  have y1 := hide (show ((a + Q : Nat) : Int) = (a : Int) + (Q : Int) by omega)
  have y2 := hide (show ((a + Q * 2 : Nat) : Int) = (a : Int) + (Q : Int) * 2 by omega)
  have y3 := hide (show ((a + Q * 3 : Nat) : Int) = (a : Int) + (Q : Int) * 3 by omega)
  have C0 := Cnt1.start S 3
  have hA := fun W s (C : CP w0 blk d w.heap.size s W) h i h1 h2 => adjacent_any r cf blk cap d0 d w0 W hcmp R hs w.heap.size s C hsz h i h1 h2
  have hM := fun W s (C : CP w0 blk d w.heap.size s W) h i j k hi hj hk => median_any r cf blk cap d0 d w0 W hcmp R hs w.heap.size s C hsz h i j k hi hj hk
  have hP : choosePivot (ltOf cf) d a b = (let r : Nat × Nat := if 8 ≤ L then (if 50 ≤ L then (let ri := medianAdjacent (ltOf cf) d (a + Q) 0; let rj := medianAdjacent (ltOf cf) d (a + Q * 2) ri.2; let rk := medianAdjacent (ltOf cf) d (a + Q * 3) rj.2; median (ltOf cf) d ri.1 rj.1 rk.1 rk.2) else median (ltOf cf) d (a + Q) (a + Q * 2) (a + Q * 3) 0) else (a + Q * 2, 0); (r.1, if r.2 = 0 then Hint.increasing else if r.2 = 12 then .decreasing else .unknown)) := by
    rw [hL]
    unfold choosePivot
    dsimp only
    rw [Nat.add_sub_cancel_left, ← hQ, Nat.mul_one]
  dsimp only at hP
  rw [hP]
  have q1 : 4 * Q ≤ L := by omega
  have q2 : L < 4 * Q + 4 := by omega
  have q3 : a + L ≤ d.size := by omega
  clear hP hcmp S hQ hL
  by_cases h8 : 8 ≤ L
  · have g1 : (8 : Int) ≤ (L : Int) := by omega
    rw [if_pos h8]
    by_cases h50 : 50 ≤ L
    · have g2 : (50 : Int) ≤ (L : Int) := by omega
      rw [if_pos h50]
      have k1 := hA _ 0 C0 (by omega) (a + Q) (by omega) (by omega)
      have u1 := adjacent_range (ltOf cf) d (a + Q) 0 (by omega)
      obtain ⟨x1, s1, hX1⟩ : ∃ x s, medianAdjacent (ltOf cf) d (a + Q) 0 = (x, s) := ⟨_, _, rfl⟩
      rw [hX1] at k1 u1 ⊢
      dsimp only at k1 u1 ⊢
      clear hX1
      have k2 := fun W C => hA W s1 C (by omega) (a + Q * 2) (by omega) (by omega)
      have u2 := adjacent_range (ltOf cf) d (a + Q * 2) s1 (by omega)
      obtain ⟨x2, s2, hX2⟩ : ∃ x s, medianAdjacent (ltOf cf) d (a + Q * 2) s1 = (x, s) := ⟨_, _, rfl⟩
      rw [hX2] at k2 u2 ⊢
      dsimp only at k2 u2 ⊢
      clear hX2
      have k3 := fun W C => hA W s2 C (by omega) (a + Q * 3) (by omega) (by omega)
      have u3 := adjacent_range (ltOf cf) d (a + Q * 3) s2 (by omega)
      obtain ⟨x3, s3, hX3⟩ : ∃ x s, medianAdjacent (ltOf cf) d (a + Q * 3) s2 = (x, s) := ⟨_, _, rfl⟩
      rw [hX3] at k3 u3 ⊢
      dsimp only at k3 u3 ⊢
      clear hX3
      have k4 := fun W C => hM W s3 C (by omega) x1 x2 x3 (by omega) (by omega) (by omega)
      have u4 := median_range (ltOf cf) d x1 x2 x3 s3
      obtain ⟨x4, s4, hX4⟩ : ∃ x s, median (ltOf cf) d x1 x2 x3 s3 = (x, s) := ⟨_, _, rfl⟩
      rw [hX4] at k4 u4 ⊢
      dsimp only at k4 u4 ⊢
      clear hX4
      have v4 : s4 ≤ 12 := by omega
      clear hA hM C0 u4
      rw [y1.out] at k1
      go_enter Tryd.func81, Tryd.ntmps81
      go_wp2_with fail
      refine k1.mono ?_
      rintro e w1 ⟨rfl, C1⟩
      have p2 := k2 w1 C1
      rw [y2.out] at p2
      clear k1 k2 C1
      go_wp2_with fail
      refine p2.mono ?_
      rintro e w2 ⟨rfl, C2⟩
      have p3 := k3 w2 C2
      rw [y3.out] at p3
      clear k3 p2 C2
      go_wp2_with fail
      refine p3.mono ?_
      rintro e w3 ⟨rfl, C3⟩
      have p4 := k4 w3 C3
      clear k4 p3 C3
      go_wp2_with fail
      refine p4.mono ?_
      rintro e w4 ⟨rfl, C4⟩
      have d1 := C4.2.1
      have HS := hide C4.1
      clear p4 C4
      by_cases hz : s4 = 0
      · subst hz
        go_wp2
        go_ret2
        exact ⟨rfl, HS.out⟩
      · by_cases ht : s4 = 12
        · subst ht
          go_wp2
          go_ret2
          exact ⟨rfl, HS.out⟩
        · have m1 : ¬ (s4 : Int) = 0 := by omega
          have m2 : ¬ (s4 : Int) = 12 := by omega
          go_wp2
          go_ret2
          exact ⟨rfl, HS.out⟩
    · have g2 : ¬ (50 : Int) ≤ (L : Int) := by omega
      rw [if_neg h50]
      have k4 := hM _ 0 C0 (by omega) (a + Q) (a + Q * 2) (a + Q * 3) (by omega) (by omega) (by omega)
      have u4 := median_range (ltOf cf) d (a + Q) (a + Q * 2) (a + Q * 3) 0
      obtain ⟨x4, s4, hX4⟩ : ∃ x s, median (ltOf cf) d (a + Q) (a + Q * 2) (a + Q * 3) 0 = (x, s) := ⟨_, _, rfl⟩
      rw [hX4] at k4 u4 ⊢
      dsimp only at k4 u4 ⊢
      clear hX4
      have v4 : s4 ≤ 3 := by omega
      clear hA hM C0 u4
      rw [y1.out, y2.out, y3.out] at k4
      go_enter Tryd.func81, Tryd.ntmps81
      go_wp2_with fail
      refine k4.mono ?_
      rintro e w4 ⟨rfl, C4⟩
      have d1 := C4.2.1
      have HS := hide C4.1
      clear k4 C4
      by_cases hz : s4 = 0
      · subst hz
        go_wp2
        go_ret2
        exact ⟨rfl, HS.out⟩
      · have m1 : ¬ (s4 : Int) = 0 := by omega
        have m2 : ¬ (s4 : Int) = 12 := by omega
        go_wp2
        go_ret2
        exact ⟨rfl, HS.out⟩
  · have g1 : ¬ (8 : Int) ≤ (L : Int) := by omega
    rw [if_neg h8]
    have d1 := C0.2.1
    have HS := hide C0.1
    clear hA hM C0
    dsimp only
    rw [y2.out]
    go_enter Tryd.func81, Tryd.ntmps81
    go_wp2
    go_ret2
    exact ⟨rfl, HS.out⟩

end Go.Proofs.YtcmdglmcmifflaaDoor.Rs
