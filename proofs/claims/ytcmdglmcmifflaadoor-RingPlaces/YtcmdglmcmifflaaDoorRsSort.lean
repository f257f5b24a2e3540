/- slices.SortFunc over places, by a comparison that is a method's value. -/
import Derived.Test.YtcmdglmcmifflaaDoorRsPdq
import Derived.Shelf.Small.Bits
import Derived.Ground.NamesProg
namespace Go.Proofs.YtcmdglmcmifflaaDoor
open Go.Shelf
shelf_lay SlLaysF0.n15 Slsf 15 at Tryd as Tryd.laysLen
end Go.Proofs.YtcmdglmcmifflaaDoor
namespace Go.Proofs.YtcmdglmcmifflaaDoor.Rs
open Go.RowKit Go.Joins Go.Sort Gk
variable {N : Nat}

set_option maxHeartbeats 6400000 in
set_option maxRecDepth 1000000 in
theorem sort_any (r : Value) (cf : Pl N → Pl N → Int) (hO : SWO (ltOf cf)) (blk cap : Nat) (d : Array (Pl N)) (w : World) (hcmp : CL r cf blk d.size w) (hH : Holds ec w blk 0 d) (hblk : blk < w.heap.size) (hsz : d.size < 4611686018427387904) :
    Calls Tryd.prog 62 #[.slice (some ⟨blk, 0, none⟩) d.size cap, fv r] w fun e w' => e = .returned (.tuple #[]) ∧ ∃ (d' : Array (Pl N)) (n : Nat) (os : Array Obj), PermIn 0 d.size d d' ∧ SortedIn (ltOf cf) 0 d.size d' ∧ w' = sortWorld ec w blk 0 n d' os := by
  have mixed : Tryd.prog.follows .mixedOrders = true := by kernel_rfl
  have hlim : Lib.bitLen d.size < 4611686018427387904 := Nat.lt_of_le_of_lt (Lib.bitLen_le d.size 62 (by omega) (by omega)) (by omega)
  have hp := pdq_any r cf hO blk cap d w hcmp ⟨ec_one, hH, hblk⟩ (d.size + 1) 0 d.size (Lib.bitLen d.size) d w (by omega) rfl (SW.start hH) (Nat.zero_le _) (Nat.le_refl _) hsz hlim (Or.inl rfl)
  obtain ⟨p1, p2⟩ := pdq_sorts (ltOf cf) hO d 0 d.size (Lib.bitLen d.size) true true (Nat.zero_le _) (Nat.le_refl _) (Or.inl rfl)
  have hl : Calls Tryd.prog 71 #[.int .u64 (d.size : Int)] w fun e w' => e = .returned (.int .i64 (Lib.bitLen d.size : Nat)) ∧ w' = w := by
    have h := Any.bits_Len (SlLaysF0.n15.bits Tryd.laysLen) (d.size : Int) w (by omega) (by omega)
    rwa [Int.toNat_natCast] at h
  have wr : IntKind.u64.wrap (d.size : Int) = d.size := by simp [IntKind.wrap, IntKind.bits, IntKind.signed]; omega
  clear hH hcmp
  go_enter Tryd.func62, Tryd.ntmps62
  go_wp2_with (first | (go_at_call 71; refine hl.mono ?_; rintro e w' ⟨rfl, rfl⟩) | (go_at_call 70; refine hp.mono ?_; rintro e w' ⟨rfl, n, os, rfl⟩))
  go_end0
  exact ⟨rfl, _, n, os, p1, p2, rfl⟩

end Go.Proofs.YtcmdglmcmifflaaDoor.Rs
