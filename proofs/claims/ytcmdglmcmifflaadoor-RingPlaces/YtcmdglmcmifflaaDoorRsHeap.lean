/- Walks over the library's sort by a comparison that is a method's value: heapSort, reverseRange. -/
import Derived.Test.YtcmdglmcmifflaaDoorRsKit
import Derived.Test.YtcmdglmcmifflaaDoorRsSift
import Derived.Sort.WalkB3
namespace Go.Proofs.YtcmdglmcmifflaaDoor.Rs
open Go.RowKit Go.Joins Go.Sort Gk
variable {N : Nat}

set_option maxHeartbeats 6400000 in
set_option maxRecDepth 1000000 in
theorem heap_any (r : Value) (cf : Pl N → Pl N → Int) (blk cap : Nat) (d0 d : Array (Pl N)) (w0 w : World) (hcmp : CL r cf blk d0.size w0) (R : Row1 ec w0 blk 0 d0) (hs : d0.size = d.size) (S : SP w0 blk d w) (hsz : d.size < 4611686018427387904) (a b : Nat) (hab : a < b) (hb : b ≤ d.size) :
    Calls Tryd.prog 79 #[.slice (some ⟨blk, 0, none⟩) d.size cap, .int .i64 a, .int .i64 b, fv r] w fun e w' => e = .returned (.tuple #[]) ∧ SP w0 blk (heapSort (ltOf cf) d a b) w' := by
  have mixed : Tryd.prog.follows .mixedOrders = true := by kernel_rfl
  obtain ⟨H, hH⟩ : ∃ H, H = b - a := ⟨_, rfl⟩
  obtain ⟨M, hM⟩ : ∃ M, M = (H - 1) / 2 := ⟨_, rfl⟩
  have hR : heapSort (ltOf cf) d a b = heapPop (ltOf cf) a H (heapBuild (ltOf cf) H a (M + 1) d) := by unfold heapSort; rw [← hH, ← hM]
  rw [hR]
  have zH : (b : Int) - (a : Int) = (H : Int) := by omega
  have zM : ((H : Int) - 1) / 2 = (M : Int) := by omega
  have h1 : 1 ≤ (H : Int) := by omega
  have h2 : (H : Int) ≤ 4611686018427387904 := by omega
  have hMH : M ≤ H := by omega
  have haH : a + H ≤ d.size := by omega
  have hsift := fun (dk : Array (Pl N)) W (hk : dk.size = d.size) (S : SP w0 blk dk W) lo hi (h1 : lo ≤ hi) (h2 : a + hi ≤ d.size) => sift_any r cf blk cap d0 dk w0 W hcmp R (by omega) S (by omega) lo hi a h1 (by omega)
  have S0 := hide S
  clear hcmp S hR hH hM
  go_enter Tryd.func79, Tryd.ntmps79
  go_wp2
  rw [zM]
  clear zM zH
  go_loopw [11] (fun vi wr => ∃ (k : Nat) (v : Int) (dk : Array (Pl N)), vi = .int .i64 v ∧ Hid (v = (k : Int) - 1) ∧ k ≤ M + 1 ∧ dk.size = d.size ∧ Hid (SP w0 blk dk wr) ∧ Hid (heapBuild (ltOf cf) H a k dk = heapBuild (ltOf cf) H a (M + 1) d)) (fun vi _ => (intOf vi + 1).toNat)
  case atStart => exact ⟨M + 1, (M : Int), d, rfl, (by show (M : Int) = _; omega), Nat.le_refl _, rfl, S0, rfl⟩
  case round =>
    clear S0
    obtain ⟨k, v, dk, rfl, HV, hk, hsk, S1, HO⟩ := hrel
    cases k with
    | succ q =>
      obtain rfl : v = (q : Int) := by have := HV.out; omega
      have e1 : (0 : Int) ≤ (q : Int) := by omega
      have e2 : (q : Int) ≤ 4611686018427387904 := by omega
      have p := hsift dk wr hsk S1.out q H (by omega) haH
      rw [hsk] at p
      go_wp2_with (go_at_call 96; refine p.mono ?_; rintro e w2 ⟨rfl, S2⟩)
      go_roundw
      case rel => exact ⟨q, (q : Int) - 1, _, by first | rfl | go_num, rfl, by omega, by rw [size_siftDown _ _ _ H _ _ (by omega)]; exact hsk, S2, (show Hid _ from by rw [← HO.out]; exact rfl)⟩
      case measure => simp [intOf]
    | zero =>
      obtain rfl : v = -1 := by have := HV.out; omega
      have HO' := hide (show dk = heapBuild (ltOf cf) H a (M + 1) d from by rw [← HO.out]; rfl)
      clear HO
      go_wp2
      go_loopw [12] (fun vi wr => ∃ (k : Nat) (v : Int) (dj : Array (Pl N)), vi = .int .i64 v ∧ Hid (v = (k : Int) - 1) ∧ k ≤ H ∧ dj.size = d.size ∧ Hid (SP w0 blk dj wr) ∧ Hid (heapPop (ltOf cf) a k dj = heapPop (ltOf cf) a H dk)) (fun vi _ => (intOf vi + 1).toNat)
      case atStart => exact ⟨H, (H : Int) - 1, dk, rfl, rfl, Nat.le_refl _, hsk, S1, rfl⟩
      case round =>
        clear S1
        obtain ⟨k, v, dj, rfl, HV2, hk2, hsj, SJ, HP⟩ := hrel
        cases k with
        | succ q =>
          obtain rfl : v = (q : Int) := by have := HV2.out; omega
          have e1 : (0 : Int) ≤ (q : Int) := by omega
          have e2 : (q : Int) ≤ 4611686018427387904 := by omega
          have fw : IntKind.i64.wrap ((a : Int) + (q : Int)) = (a : Int) + (q : Int) := by rw [IntKind.wrap_i64]; omega
          have f0 : (0 : Int) ≤ (a : Int) + (q : Int) := by omega
          have f1 : (a : Int) + (q : Int) < (d.size : Int) := by omega
          have f2 : ((a : Int) + (q : Int)).toNat = a + q := by omega
          have gw : IntKind.i64.wrap ((a : Int)) = (a : Int) := by rw [IntKind.wrap_i64]; omega
          have g0 : (0 : Int) ≤ (a : Int) := by omega
          have g1 : (a : Int) < (d.size : Int) := by omega
          have g2 : ((a : Int)).toNat = a := by omega
          have ca := SP.cell SJ.out R (by omega) (a) (by omega)
          have cb := SP.cell SJ.out R (by omega) (a + q) (by omega)
          have fa := SP.free SJ.out R (by omega) (a) (by omega)
          have fb := SP.free SJ.out R (by omega) (a + q) (by omega)
          obtain ⟨u, cc⟩ := SP.other SJ.out R (by omega) (a) (a + q) (by omega) (by omega) (.int .i64 (dj[a + q]!.val : Int))
          have hE := SP.swap SJ.out R (a) (a + q) (by omega) (by omega)
          generalize dj[a]! = x at ca cb cc hE
          generalize dj[a + q]! = y at ca cb cc hE
          go_wp2_with fail
          go_big_region_o
          replace SJ := hide hE
          clear ca cb cc fa fb hE
          generalize ((wr.setCell ⟨blk, a, none⟩ (.int .i64 (y.val : Int))).setCell ⟨blk, a + q, none⟩ (.int .i64 (x.val : Int))).drew = w3 at SJ ⊢
          have p := hsift (swp dj a (a + q)) w3 (by rw [size_swp]; exact hsj) SJ.out 0 q (Nat.zero_le _) (by omega)
          rw [size_swp, hsj] at p
          go_wp2_with (go_at_call 96; refine p.mono ?_; rintro e w4 ⟨rfl, S4⟩)
          go_roundw
          case rel => exact ⟨q, (q : Int) - 1, _, by first | rfl | go_num, rfl, by omega, by rw [size_siftDown _ _ _ q _ _ (by omega), size_swp]; exact hsj, S4, (show Hid _ from by rw [← HP.out]; exact rfl)⟩
          case measure => simp [intOf]
        | zero =>
          obtain rfl : v = -1 := by have := HV2.out; omega
          go_wp2
          go_end0
          exact ⟨rfl, by rw [← HO'.out, ← HP.out]; exact SJ.out⟩

theorem reverse_go (d : Array (Pl N)) {i q : Nat} (h : i < q + 1) : reverseLoop i (q + 1) d = reverseLoop (i + 1) q (swp d i (q + 1)) := by rw [reverseLoop, if_pos h]; rfl
set_option maxHeartbeats 6400000 in
set_option maxRecDepth 1000000 in
theorem reverse_any (r : Value) (blk cap : Nat) (d0 d : Array (Pl N)) (w0 w : World) (R : Row1 ec w0 blk 0 d0) (hs : d0.size = d.size) (S : SP w0 blk d w) (hsz : d.size < 4611686018427387904) (a b : Nat) (hab : a < b) (hb : b ≤ d.size) :
    Calls Tryd.prog 82 #[.slice (some ⟨blk, 0, none⟩) d.size cap, .int .i64 a, .int .i64 b, fv r] w fun e w' => e = .returned (.tuple #[]) ∧ SP w0 blk (reverseRange d a b) w' := by
  have mixed : Tryd.prog.follows .mixedOrders = true := by kernel_rfl
  obtain ⟨J, hJ⟩ : ∃ J, J = b - 1 := ⟨_, rfl⟩
  rw [show reverseRange d a b = reverseLoop a J d by unfold reverseRange; rw [← hJ]]
  have zJ : (b : Int) - 1 = (J : Int) := by omega
  have zJ' : IntKind.i64.wrap (J : Int) = (J : Int) := by rw [IntKind.wrap_i64]; omega
  have hJd : J < d.size := by omega
  have hJa : a ≤ J := by omega
  have S0 := hide S
  clear S hJ
  go_enter Tryd.func82, Tryd.ntmps82
  go_wp2
  go_loopw [8, 9] (fun vi vj wr => ∃ (i j : Nat) (dj : Array (Pl N)), vi = .int .i64 i ∧ vj = .int .i64 j ∧ i ≤ J + 1 ∧ j ≤ J ∧ dj.size = d.size ∧ Hid (SP w0 blk dj wr) ∧ Hid (reverseLoop i j dj = reverseLoop a J d)) (fun vi vj _ => (intOf vj).toNat + 1 - (intOf vi).toNat)
  case atStart => exact ⟨a, J, d, rfl, by first | rfl | go_num, by omega, Nat.le_refl _, rfl, S0, rfl⟩
  case round =>
    clear S0
    obtain ⟨i, j, dj, rfl, rfl, hi, hj, hsj, SJ, HI⟩ := hrel
    by_cases hlt : i < j
    · have g0 : (i : Int) < (j : Int) := by omega
      obtain ⟨q, rfl⟩ : ∃ q, j = q + 1 := ⟨j - 1, by omega⟩
      have HN := hide ((reverse_go dj hlt).symm.trans HI.out)
      have xw : IntKind.i64.wrap ((i : Int)) = (i : Int) := by rw [IntKind.wrap_i64]; omega
      have x0 : (0 : Int) ≤ (i : Int) := by omega
      have x1 : (i : Int) < (d.size : Int) := by omega
      have x2 : ((i : Int)).toNat = i := by omega
      have yw : IntKind.i64.wrap ((q : Int) + 1) = (q : Int) + 1 := by rw [IntKind.wrap_i64]; omega
      have y0 : (0 : Int) ≤ (q : Int) + 1 := by omega
      have y1 : (q : Int) + 1 < (d.size : Int) := by omega
      have y2 : ((q : Int) + 1).toNat = q + 1 := by omega
      have ca := SP.cell SJ.out R (by omega) (i) (by omega)
      have cb := SP.cell SJ.out R (by omega) (q + 1) (by omega)
      have fa := SP.free SJ.out R (by omega) (i) (by omega)
      have fb := SP.free SJ.out R (by omega) (q + 1) (by omega)
      obtain ⟨u, cc⟩ := SP.other SJ.out R (by omega) (i) (q + 1) (by omega) (by omega) (.int .i64 (dj[q + 1]!.val : Int))
      have hE := SP.swap SJ.out R (i) (q + 1) (by omega) (by omega)
      generalize dj[i]! = x at ca cb cc hE
      generalize dj[q + 1]! = y at ca cb cc hE
      go_wp2_with fail
      go_big_region_o
      replace SJ := hide hE
      clear ca cb cc fa fb hE
      generalize ((wr.setCell ⟨blk, i, none⟩ (.int .i64 (y.val : Int))).setCell ⟨blk, q + 1, none⟩ (.int .i64 (x.val : Int))).drew = w3 at SJ ⊢
      go_wp2
      go_roundw
      case rel => exact ⟨i + 1, q, swp dj i (q + 1), by go_num, by first | rfl | go_num, by omega, by omega, by rw [size_swp]; exact hsj, SJ, HN⟩
      case measure => simp [intOf]; omega
    · have g0 : ¬ (i : Int) < (j : Int) := by omega
      go_wp2
      go_end0
      exact ⟨rfl, by rw [← HI.out, reverseLoop, if_neg hlt]; exact SJ.out⟩

end Go.Proofs.YtcmdglmcmifflaaDoor.Rs
