/- Walks over the library's sort by a comparison that is a method's value: order2, median, medianAdjacent, choosePivot. -/
import Derived.Test.YtcmdglmcmifflaaDoorRsKit
namespace Go.Proofs.YtcmdglmcmifflaaDoor.Rs
open Go.RowKit Go.Joins Go.Sort Gk
variable {N : Nat}

abbrev CP (w0 : World) (blk : Nat) (dk : Array (Pl N)) (c s : Nat) (W : World) : Prop := Cnt1 ec w0 blk 0 dk c s W
theorem order2_range (lt : Pl N → Pl N → Bool) (d : Array (Pl N)) (a b s : Nat) : ((order2 lt d a b s).1 = a ∧ (order2 lt d a b s).2.1 = b ∨ (order2 lt d a b s).1 = b ∧ (order2 lt d a b s).2.1 = a) ∧ (order2 lt d a b s).2.2 ≤ s + 1 := by
  unfold order2; split <;> simp

set_option maxHeartbeats 3200000 in
set_option maxRecDepth 1000000 in
theorem order2_any (r : Value) (cf : Pl N → Pl N → Int) (blk cap : Nat) (d0 d : Array (Pl N)) (w0 w : World) (hcmp : CL r cf blk d0.size w0) (R : Row1 ec w0 blk 0 d0) (hs : d0.size = d.size) (c s : Nat) (C : CP w0 blk d c s w) (_ : d.size < 4611686018427387904) (hss : s < 4611686018427387904) (a b : Nat) (ha : a < d.size) (hb : b < d.size) :
    Calls Tryd.prog 105 #[.slice (some ⟨blk, 0, none⟩) d.size cap, .int .i64 a, .int .i64 b, .pointer (some ⟨c, 0, none⟩), fv r] w fun e w' => e = .returned (.tuple #[.int .i64 ((order2 (ltOf cf) d a b s).1 : Int), .int .i64 ((order2 (ltOf cf) d a b s).2.1 : Int)]) ∧ CP w0 blk d c (order2 (ltOf cf) d a b s).2.2 w' := by
  have mixed : Tryd.prog.follows .mixedOrders = true := by kernel_rfl
  have lx := fun n os => SP.cells C.1 R (by omega) b hb n os
  have ly := fun n os => SP.cells C.1 R (by omega) a ha n os
  have hc := fun n os => SP.cmp (d0 := d0) C.1 hcmp (by omega) d[b]! d[a]! n os
  have hE := fun n os => Cnt1.grown C n os
  have i0 : (0 : Int) ≤ (a : Int) := by omega
  have i1 : (a : Int) < (d.size : Int) := by omega
  have i2 : (0 : Int) ≤ (b : Int) := by omega
  have i3 : (b : Int) < (d.size : Int) := by omega
  cases hlv : (ltOf cf) d[b]! d[a]! with
  | true =>
    rw [show order2 (ltOf cf) d a b s = (b, a, s + 1) by unfold order2; rw [hlv]; rfl]
    have hv : cf d[b]! d[a]! < 0 := of_decide_eq_true hlv
    generalize d[b]! = x at lx hc hv
    generalize d[a]! = y at ly hc hv
    have hd : decide (cf x y < 0) = true := decide_eq_true hv
    clear hcmp C hlv
    go_enter Tryd.func105, Tryd.ntmps105
    go_wp2_with fail
    go_quiet_grown (first | (go_at_call 63; refine Calls.grown_of (hc _ _)))
    have hE' := hE nq osq
    have c1 := hE'.2.1
    have c2 := hE'.2.2.1
    have HE := hide hE'
    clear lx ly hc hE hE'
    generalize grow (w.drewN nq) osq = w2 at c1 c2 HE ⊢
    go_wp2
    go_ret2
    exact ⟨rfl, Cnt1.bump HE.out (s + 1)⟩
  | false =>
    rw [show order2 (ltOf cf) d a b s = (a, b, s) by unfold order2; rw [hlv]; rfl]
    have hv : ¬ cf d[b]! d[a]! < 0 := of_decide_eq_false hlv
    generalize d[b]! = x at lx hc hv
    generalize d[a]! = y at ly hc hv
    have hd : decide (cf x y < 0) = false := decide_eq_false hv
    clear hcmp C hlv
    go_enter Tryd.func105, Tryd.ntmps105
    go_wp2_with fail
    go_quiet_grown (first | (go_at_call 63; refine Calls.grown_of (hc _ _)))
    have HE := hide (hE nq osq)
    clear lx ly hc hE
    generalize grow (w.drewN nq) osq = w2 at HE ⊢
    go_wp2
    go_ret2
    exact ⟨rfl, HE.out⟩

theorem median_range (lt : Pl N → Pl N → Bool) (d : Array (Pl N)) (a b c s : Nat) : ((median lt d a b c s).1 = a ∨ (median lt d a b c s).1 = b ∨ (median lt d a b c s).1 = c) ∧ (median lt d a b c s).2 ≤ s + 3 := by
  unfold median
  have h1 := order2_range lt d a b s
  have h2 := order2_range lt d (order2 lt d a b s).2.1 c (order2 lt d a b s).2.2
  have h3 := order2_range lt d (order2 lt d a b s).1 (order2 lt d (order2 lt d a b s).2.1 c (order2 lt d a b s).2.2).1 (order2 lt d (order2 lt d a b s).2.1 c (order2 lt d a b s).2.2).2.2
  dsimp only
  omega

set_option maxHeartbeats 3200000 in
theorem median_any (r : Value) (cf : Pl N → Pl N → Int) (blk cap : Nat) (d0 d : Array (Pl N)) (w0 w : World) (hcmp : CL r cf blk d0.size w0) (R : Row1 ec w0 blk 0 d0) (hs : d0.size = d.size) (c s : Nat) (C : CP w0 blk d c s w) (hsz : d.size < 4611686018427387904) (hss : s + 3 < 4611686018427387904) (i j k : Nat) (hi : i < d.size) (hj : j < d.size) (hk : k < d.size) :
    Calls Tryd.prog 100 #[.slice (some ⟨blk, 0, none⟩) d.size cap, .int .i64 i, .int .i64 j, .int .i64 k, .pointer (some ⟨c, 0, none⟩), fv r] w fun e w' => e = .returned (.int .i64 ((median (ltOf cf) d i j k s).1 : Int)) ∧ CP w0 blk d c (median (ltOf cf) d i j k s).2 w' := by
  have q1 := order2_any r cf blk cap d0 d w0 w hcmp R hs c s C hsz (by omega) i j hi hj
  have g1 := order2_range (ltOf cf) d i j s
  have q2 := fun W s' (C' : CP w0 blk d c s' W) h b hb => order2_any r cf blk cap d0 d w0 W hcmp R hs c s' C' hsz h b k hb hk
  have q3 := fun W s' (C' : CP w0 blk d c s' W) h a b ha hb => order2_any r cf blk cap d0 d w0 W hcmp R hs c s' C' hsz h a b ha hb
  have g2 := order2_range (ltOf cf) d (order2 (ltOf cf) d i j s).2.1 k (order2 (ltOf cf) d i j s).2.2
  unfold median
  dsimp only
  generalize hX : order2 (ltOf cf) d i j s = X at *
  obtain ⟨x1, x2, x3⟩ := X
  dsimp only at *
  generalize hY : order2 (ltOf cf) d x2 k x3 = Y at *
  obtain ⟨y1, y2, y3⟩ := Y
  dsimp only at *
  generalize hZ : order2 (ltOf cf) d x1 y1 y3 = Z at *
  obtain ⟨z1, z2, z3⟩ := Z
  dsimp only at *
  have HY := hide hY
  have HZ := hide hZ
  clear hX hY hZ hcmp C
  go_enter Tryd.func100, Tryd.ntmps100
  go_wp2_with fail
  refine q1.mono ?_
  rintro e w1 ⟨rfl, C1⟩
  have p2 := q2 w1 x3 C1 (by omega) x2 (by omega)
  rw [HY.out] at p2
  clear q1 q2 C1
  go_wp2_with fail
  refine p2.mono ?_
  rintro e w2 ⟨rfl, C2⟩
  have p3 := q3 w2 y3 C2 (by omega) x1 y1 (by omega) (by omega)
  rw [HZ.out] at p3
  dsimp only at p3
  clear p2 q3 C2
  go_wp2_with fail
  refine p3.mono ?_
  rintro e w3 ⟨rfl, C3⟩
  have HC3 := hide C3
  clear p3 C3
  go_wp2
  go_ret
  exact ⟨rfl, HC3.out⟩

set_option maxHeartbeats 3200000 in
theorem adjacent_any (r : Value) (cf : Pl N → Pl N → Int) (blk cap : Nat) (d0 d : Array (Pl N)) (w0 w : World) (hcmp : CL r cf blk d0.size w0) (R : Row1 ec w0 blk 0 d0) (hs : d0.size = d.size) (c s : Nat) (C : CP w0 blk d c s w) (hsz : d.size < 4611686018427387904) (hss : s + 3 < 4611686018427387904) (i : Nat) (h1 : 1 ≤ i) (h2 : i + 1 < d.size) :
    Calls Tryd.prog 99 #[.slice (some ⟨blk, 0, none⟩) d.size cap, .int .i64 i, .pointer (some ⟨c, 0, none⟩), fv r] w fun e w' => e = .returned (.int .i64 ((medianAdjacent (ltOf cf) d i s).1 : Int)) ∧ CP w0 blk d c (medianAdjacent (ltOf cf) d i s).2 w' := by
  obtain ⟨q, rfl⟩ : ∃ q, i = q + 1 := ⟨i - 1, by omega⟩
  have p := median_any r cf blk cap d0 d w0 w hcmp R hs c s C hsz hss q (q + 1) (q + 1 + 1) (by omega) (by omega) (by omega)
  rw [show medianAdjacent (ltOf cf) d (q + 1) s = median (ltOf cf) d q (q + 1) (q + 1 + 1) s from rfl]
  generalize median (ltOf cf) d q (q + 1) (q + 1 + 1) s = X at *
  have e1 : IntKind.i64.wrap (q : Int) = (q : Int) := by rw [IntKind.wrap_i64]; omega
  have e2 : IntKind.i64.wrap ((q : Int) + 1 + 1) = (q : Int) + 1 + 1 := by rw [IntKind.wrap_i64]; omega
  have b1 : (q : Int) ≤ 4611686018427387904 := by omega
  clear C hcmp
  go_enter Tryd.func99, Tryd.ntmps99
  go_wp2_with fail
  refine p.mono ?_
  rintro e w1 ⟨rfl, C1⟩
  go_wp2
  go_ret
  exact ⟨rfl, C1⟩

end Go.Proofs.YtcmdglmcmifflaaDoor.Rs
