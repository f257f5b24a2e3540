/- Walks over the library's sort by a comparison that is a method's value: breakPatterns. -/
import Derived.Test.YtcmdglmcmifflaaDoorRsKit
import Derived.Sort.Walk7
import Derived.Shelf.SlSortCmp.Xorshift
import Derived.Shelf.Lay
import Derived.Ground.SlsfProg
namespace Go.Proofs.YtcmdglmcmifflaaDoor
open Go.Shelf
shelf_lay SlLaysF0.n47 Slsf 47 at Tryd as Tryd.laysPow
shelf_lay SlLaysF0.n48 Slsf 48 at Tryd as Tryd.laysNext
end Go.Proofs.YtcmdglmcmifflaaDoor
namespace Go.Proofs.YtcmdglmcmifflaaDoor.Rs
open Go.RowKit Go.Joins Go.Sort Gk
variable {N : Nat}

set_option maxHeartbeats 25600000 in
set_option maxRecDepth 1000000 in
theorem brk_any (r : Value) (blk cap : Nat) (d0 d : Array (Pl N)) (w0 w : World) (R : Row1 ec w0 blk 0 d0) (hs : d0.size = d.size) (S : SP w0 blk d w) (hsz : d.size < 4611686018427387904) (a b : Nat) (hab : a ≤ b) (hb : b ≤ d.size) :
    Calls Tryd.prog 80 #[.slice (some ⟨blk, 0, none⟩) d.size cap, .int .i64 a, .int .i64 b, fv r] w fun e w' => e = .returned (.tuple #[]) ∧ SP w0 blk (breakPatterns d a b) w' := by
  have mixed : Tryd.prog.follows .mixedOrders = true := by kernel_rfl
  obtain ⟨L, hL⟩ : ∃ L, b = a + L := ⟨b - a, by omega⟩
  obtain ⟨P, hP⟩ : ∃ P, P = breakPatterns d a b := ⟨_, rfl⟩
  rw [← hP]
  have hne : w.heap.size ≠ blk := by have := S.lt R.hblk; omega
  have hle0 : w0.heap.size ≤ w.heap.size := S.le
  have SJ := hide S
  clear S
  have ab : (b : Int) - (a : Int) = (L : Int) := by omega
  have aL : a + L ≤ d.size := by omega
  have pb0 : (0 : Int) ≤ (b : Int) := by omega
  have pb2 : (b : Int) ≤ 4611686018427387904 := by omega
  by_cases h8 : 8 ≤ L
  · have h8z : (8 : Int) ≤ (L : Int) := by omega
    obtain ⟨M, hM⟩ : ∃ M : Nat, M = 1 <<< bitsLen L := ⟨_, rfl⟩
    have M1 : 1 ≤ M := by rw [hM, Nat.one_shiftLeft]; exact Nat.two_pow_pos _
    have M2 : M ≤ 2 * L := by rw [hM, Nat.one_shiftLeft]; exact two_pow_bitsLen_le (by omega)
    have hPw : ∀ w, Calls Tryd.prog 97 #[.int .i64 (L : Int)] w fun e w' => e = .returned (.int .u64 (M : Int)) ∧ w' = w := by rw [hM]; exact fun w => AnyF.nextPowerOfTwo Tryd.laysPow L (by omega) w
    have HP := hide (show bpRest a L M (a + L / 4 * 2 - 1) 3 0 (UInt64.ofNat L, d) = P by rw [hP, hL, breakPatterns_eq d a L h8, ← hM])
    clear hM hP hL hb hab
    go_enter Tryd.func80, Tryd.ntmps80
    go_wp2_with (first | (go_at_call 97; refine (hPw _).mono ?_; rintro e w' ⟨rfl, rfl⟩))
    go_loopg [11] 3 (fun g1 vi wr => ∃ (t : Nat) (rr : UInt64) (dk : Array (Pl N)), vi = .int .i64 ((a : Int) + (L : Int) / 4 * 2 - 1 + (t : Int)) ∧ t ≤ 3 ∧ 3 - t ≤ g1 ∧ dk.size = d.size ∧ Hid (SP w0 blk dk wr) ∧ wr.cell? ⟨w.heap.size, 0, none⟩ = some (.int .u64 (rr.toNat : Int)) ∧ wr.frozen? ⟨w.heap.size, 0, none⟩ = false ∧ Hid (bpRest a L M (a + L / 4 * 2 - 1) (3 - t) t (rr, dk) = P))
    case atStart =>
      refine ⟨0, UInt64.ofNat L, d, by simp, by omega, by omega, rfl, hide (SJ.out.alloc _), ?_, by simp, HP⟩
      rw [show (UInt64.ofNat L).toNat = L from by simp; omega]
      simp
    case round =>
      clear SJ HP
      obtain ⟨t, rr, dk, rfl, ht, hg1, hsk, SJ, c1, f1, HO⟩ := hrel
      by_cases ht3 : t < 3
      · have hle : (a : Int) + (L : Int) / 4 * 2 - 1 + (t : Int) ≤ (a : Int) + (L : Int) / 4 * 2 + 1 := by omega
        obtain ⟨A, hA⟩ : ∃ A : Nat, A = rr.toNat := ⟨_, rfl⟩
        have lA : A < 18446744073709551616 := by rw [hA]; exact rr.toNat_lt
        obtain ⟨A', hA'⟩ : ∃ A' : Nat, A' = xorNextN A := ⟨_, rfl⟩
        have lA' : A' < 18446744073709551616 := by rw [hA']; exact xorNextN_lt A lA
        obtain ⟨O, hO⟩ : ∃ O : Nat, O = A' &&& (M - 1) := ⟨_, rfl⟩
        have lO : O ≤ M - 1 := by rw [hO]; exact Nat.and_le_right
        have eO : bits .and .u64 (A' : Int) ((M : Int) - 1) = (O : Int) := by
          rw [show ((M : Int) - 1) = ((M - 1 : Nat) : Int) by omega, bits_and_u64_nat _ _ lA' (by omega), hO]
        rw [← hA] at c1
        have hNx : Calls Tryd.prog 98 #[.pointer (some ⟨w.heap.size, 0, none⟩)] wr fun e w' => e = .returned (.int .u64 (A' : Int)) ∧ w' = (wr.setCell ⟨w.heap.size, 0, none⟩ (.int .u64 (A' : Int))).drewN 3 := by
          rw [hA']; exact AnyF.xorshift_Next Tryd.laysNext _ _ A lA wr c1 f1
        have HN := hide (show A' = (xorNext rr).toNat ∧ O = (xorNext rr).toNat &&& (M - 1) by
          have e : A' = (xorNext rr).toNat := by rw [hA', hA, xorNext_toNat]
          exact ⟨e, by rw [hO, e]⟩)
        clear hA hA' hO
        replace SJ := hide ((SW.setCell_new SJ.out w.heap.size 0 (.int .u64 (A' : Int)) hle0).drewN 3)
        have c2 : ((wr.setCell ⟨w.heap.size, 0, none⟩ (.int .u64 (A' : Int))).drewN 3).cell? ⟨w.heap.size, 0, none⟩ = some (.int .u64 (A' : Int)) := by
          rw [World.cell?_drewN]; exact World.cell?_setCell_same _ _ _ c1
        have f2 : ((wr.setCell ⟨w.heap.size, 0, none⟩ (.int .u64 (A' : Int))).drewN 3).frozen? ⟨w.heap.size, 0, none⟩ = false := by
          rw [World.frozen?_drewN]; simpa using f1
        generalize (wr.setCell ⟨w.heap.size, 0, none⟩ (.int .u64 (A' : Int))).drewN 3 = w2 at hNx SJ c2 f2
        clear c1 f1
        by_cases hLO : L ≤ O
        · have hLz : (L : Int) ≤ (O : Int) := by omega
          go_wp2_with (first | (go_at_call 98; refine hNx.mono ?_; rintro e w' ⟨rfl, hw'⟩; obtain rfl : w2 = w' := hw'.symm))
          obtain ⟨X, hX⟩ : ∃ q, q = (a + L / 4 * 2 - 1 + t) := ⟨_, rfl⟩
          have X1 : ((a : Int) + (L : Int) / 4 * 2 - 1 + (t : Int)).toNat = X := by omega
          have X2 : (0 : Int) ≤ (a : Int) + (L : Int) / 4 * 2 - 1 + (t : Int) := by omega
          have X3 : (a : Int) + (L : Int) / 4 * 2 - 1 + (t : Int) < (d.size : Int) := by omega
          have X4 : IntKind.i64.wrap ((a : Int) + (L : Int) / 4 * 2 - 1 + (t : Int)) = (a : Int) + (L : Int) / 4 * 2 - 1 + (t : Int) := by rw [IntKind.wrap_i64]; omega
          have X5 : X < dk.size := by omega
          obtain ⟨Y, hY⟩ : ∃ q, q = (a + (O - L)) := ⟨_, rfl⟩
          have Y1 : ((a : Int) + ((O : Int) - (L : Int))).toNat = Y := by omega
          have Y2 : (0 : Int) ≤ (a : Int) + ((O : Int) - (L : Int)) := by omega
          have Y3 : (a : Int) + ((O : Int) - (L : Int)) < (d.size : Int) := by omega
          have Y4 : IntKind.i64.wrap ((a : Int) + ((O : Int) - (L : Int))) = (a : Int) + ((O : Int) - (L : Int)) := by rw [IntKind.wrap_i64]; omega
          have Y5 : Y < dk.size := by omega
          have HX := hide hX
          have HY := hide hY
          clear hX hY
          have ca := SP.cell SJ.out R (by omega) X X5
          have cb := SP.cell SJ.out R (by omega) Y Y5
          have fa := SP.free SJ.out R (by omega) X X5
          have fb := SP.free SJ.out R (by omega) Y Y5
          obtain ⟨u, cc⟩ := SP.other SJ.out R (by omega) X Y X5 Y5 (.int .i64 (dk[Y]!.val : Int))
          have hE := SP.swap SJ.out R X Y X5 Y5
          generalize dk[X]! = x at ca cb cc hE
          generalize dk[Y]! = y at ca cb cc hE
          go_wp2_with fail
          go_big_region_o
          replace SJ := hide hE
          clear ca cb cc fa fb hE
          have kept := box_kept_swap1 (W := w2) (blk := blk) hne c2 f2 X Y (.int .i64 (y.val : Int)) (.int .i64 (x.val : Int))
          generalize ((w2.setCell ⟨blk, X, none⟩ (.int .i64 (y.val : Int))).setCell ⟨blk, Y, none⟩ (.int .i64 (x.val : Int))).drew = w5 at SJ kept ⊢
          clear X1 Y1
          go_wp2
          go_roundg (3 - (t + 1))
          case measure => omega
          case rel => exact ⟨t + 1, xorNext rr, swp dk X Y, by congr 1; push_cast; omega, by omega, Nat.le_refl _, by rw [size_swp]; exact hsk, SJ, by rw [← HN.out.1]; exact kept.1, kept.2, (show Hid _ from by rw [← HO.out, bp_step a L M _ t rr dk ((O - L)) ht3 (by rw [← HN.out.2, if_pos (by omega)]), HX.out, HY.out]; exact rfl)⟩
        · have hLz : ¬ (L : Int) ≤ (O : Int) := by omega
          go_wp2_with (first | (go_at_call 98; refine hNx.mono ?_; rintro e w' ⟨rfl, hw'⟩; obtain rfl : w2 = w' := hw'.symm))
          obtain ⟨X, hX⟩ : ∃ q, q = (a + L / 4 * 2 - 1 + t) := ⟨_, rfl⟩
          have X1 : ((a : Int) + (L : Int) / 4 * 2 - 1 + (t : Int)).toNat = X := by omega
          have X2 : (0 : Int) ≤ (a : Int) + (L : Int) / 4 * 2 - 1 + (t : Int) := by omega
          have X3 : (a : Int) + (L : Int) / 4 * 2 - 1 + (t : Int) < (d.size : Int) := by omega
          have X4 : IntKind.i64.wrap ((a : Int) + (L : Int) / 4 * 2 - 1 + (t : Int)) = (a : Int) + (L : Int) / 4 * 2 - 1 + (t : Int) := by rw [IntKind.wrap_i64]; omega
          have X5 : X < dk.size := by omega
          obtain ⟨Y, hY⟩ : ∃ q, q = (a + O) := ⟨_, rfl⟩
          have Y1 : ((a : Int) + (O : Int)).toNat = Y := by omega
          have Y2 : (0 : Int) ≤ (a : Int) + (O : Int) := by omega
          have Y3 : (a : Int) + (O : Int) < (d.size : Int) := by omega
          have Y4 : IntKind.i64.wrap ((a : Int) + (O : Int)) = (a : Int) + (O : Int) := by rw [IntKind.wrap_i64]; omega
          have Y5 : Y < dk.size := by omega
          have HX := hide hX
          have HY := hide hY
          clear hX hY
          have ca := SP.cell SJ.out R (by omega) X X5
          have cb := SP.cell SJ.out R (by omega) Y Y5
          have fa := SP.free SJ.out R (by omega) X X5
          have fb := SP.free SJ.out R (by omega) Y Y5
          obtain ⟨u, cc⟩ := SP.other SJ.out R (by omega) X Y X5 Y5 (.int .i64 (dk[Y]!.val : Int))
          have hE := SP.swap SJ.out R X Y X5 Y5
          generalize dk[X]! = x at ca cb cc hE
          generalize dk[Y]! = y at ca cb cc hE
          go_wp2_with fail
          go_big_region_o
          replace SJ := hide hE
          clear ca cb cc fa fb hE
          have kept := box_kept_swap1 (W := w2) (blk := blk) hne c2 f2 X Y (.int .i64 (y.val : Int)) (.int .i64 (x.val : Int))
          generalize ((w2.setCell ⟨blk, X, none⟩ (.int .i64 (y.val : Int))).setCell ⟨blk, Y, none⟩ (.int .i64 (x.val : Int))).drew = w5 at SJ kept ⊢
          clear X1 Y1
          go_wp2
          go_roundg (3 - (t + 1))
          case measure => omega
          case rel => exact ⟨t + 1, xorNext rr, swp dk X Y, by congr 1; push_cast; omega, by omega, Nat.le_refl _, by rw [size_swp]; exact hsk, SJ, by rw [← HN.out.1]; exact kept.1, kept.2, (show Hid _ from by rw [← HO.out, bp_step a L M _ t rr dk (O) ht3 (by rw [← HN.out.2, if_neg (by omega)]), HX.out, HY.out]; exact rfl)⟩
      · obtain rfl : t = 3 := by omega
        have hle : ¬ ((a : Int) + (L : Int) / 4 * 2 - 1 + ((3 : Nat) : Int) ≤ (a : Int) + (L : Int) / 4 * 2 + 1) := by omega
        go_wp2
        go_end0
        exact ⟨rfl, by rw [← HO.out]; exact SJ.out⟩
  · have h8z : ¬ (8 : Int) ≤ (L : Int) := by omega
    have HP := hide (show P = d by rw [hP, hL]; unfold breakPatterns; simp only [Nat.add_sub_cancel_left]; rw [if_neg h8])
    clear hP hL
    go_enter Tryd.func80, Tryd.ntmps80
    go_wp2
    go_end0
    exact ⟨rfl, by rw [HP.out]; exact SJ.out⟩

end Go.Proofs.YtcmdglmcmifflaaDoor.Rs
