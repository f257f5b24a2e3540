/- Walks over segment.go: nameOf, firstOf. -/
import Derived.Test.YtdlicndbdnfekaaGreatDoorWlPure
import Derived.Shelf.Strconv.Itoa3
import Derived.Shelf.Strconv.Atoi
import Derived.Shelf.Small.Wraps
import Derived.Shelf.Lay
import Derived.Lib.SmallJoins
import Derived.Lib.LaidTab
import Derived.Ground.NamesProg
namespace Go.Proofs.YtdlicndbdnfekaaGreatDoor
open Go.Shelf
shelf_lay LaysM.n171 Nm 171 at Tryz as Tryz.laysItoa
shelf_lay Lays.n172 Nm 172 at Tryz as Tryz.laysAtoi
shelf_lay Lays.n103 Nm 103 at Tryz as Tryz.laysCutP
end Go.Proofs.YtdlicndbdnfekaaGreatDoor
namespace Go.Proofs.YtdlicndbdnfekaaGreatDoor.Wl
open Go.RowKit Go.Joins

/-- the library's table of powers lies there -/
abbrev Tab (w : World) : Prop := Lib.TabIs Tryz.prog w "internal/strconv.uint64pow10" .u64 Lib.pow10Tab
theorem Tab.below {w w' : World} (h : Tab w) (hb : Below w.heap.size w w') : Tab w' := by
  obtain ⟨g, hg⟩ : ∃ g, Tryz.prog.globalNamed "internal/strconv.uint64pow10" = some g := Option.isSome_iff_exists.1 (by kernel_rfl)
  exact tab_stays hg h hb (Nat.le_refl _)
theorem below_grow (w : World) (k : Nat) (os : Array Obj) : Below w.heap.size w (Go.Sort.grow (w.drewN k) os) :=
  ⟨rfl, rfl, rfl, by simp [Go.Sort.grow], fun i hi => by simp [Go.Sort.grow, World.drewN, Array.getElem?_append, hi]⟩
theorem itoa_any (i : Nat) (hi : i ≤ 1048577) (w : World) (hT : Tab w) :
    Calls Tryz.prog 46 #[.int .i64 i] w fun e w' => e = .returned (.string ⟨(Lib.decDigits i).toArray⟩) ∧ Below w.heap.size w w' := by
  refine (Any.strconv_Itoa Tryz.laysItoa i (by omega) (by omega) w hT).mono ?_
  rintro e w' ⟨rfl, k, os, rfl⟩
  refine ⟨?_, below_grow _ _ _⟩
  have : Lib.itoa (i : Int) = Lib.decDigits i := by rw [Lib.itoa, if_neg (by omega)]; simp
  rw [this]
theorem nt_eq (n : Nat) : (⟨#[108, 111, 103, 46]⟩ : ByteArray) ++ ⟨(Lib.decDigits n).toArray⟩ = nt n := by
  apply ByteArray.ext
  simp [nt, nm, dec]
set_option maxRecDepth 100000 in
theorem nameOf_any (n : Nat) (hn : n ≤ 1048577) (w : World) (hT : Tab w) :
    Calls Tryz.prog 28 #[.int .i64 n] w fun e w' => e = .returned (.string (nt n)) ∧ Below w.heap.size w w' := by
  have hd := dec_small hn
  have hno : ¬ 9223372036854775807 < 4 + (Lib.decDigits n).length := by show ¬ _ < 4 + (dec n).length; omega
  clear hd
  go_enter Tryz.func28, Tryz.ntmps28
  go_wp2_with (first | (go_at_call 46; refine (itoa_any n hn _ hT).mono ?_; rintro e w1 ⟨rfl, hb1⟩))
  go_ret
  exact ⟨by rw [nt_eq]; rfl, hb1⟩
set_option maxRecDepth 100000 in
theorem within_any (n lo hi : Int) (w : World) :
    Calls Tryz.prog 20 #[.int .i64 n, .int .i64 lo, .int .i64 hi] w fun e w' => e = .returned (.bool (decide (lo ≤ n) && decide (n ≤ hi))) ∧ w = w' := by
  by_cases h1 : lo ≤ n
  all_goals by_cases h2 : n ≤ hi
  all_goals
    go_enter Tryz.func20, Tryz.ntmps20
    go_wp2
    go_ret
    simp [h1, h2]
set_option maxRecDepth 100000 in
theorem brick_any (n : Nat) (h : n < 16) (w : World) :
    Calls Tryz.prog 24 #[.int .i64 n] w fun e w' => e = .returned (.bool true) ∧ w = w' := by
  go_enter Tryz.func24, Tryz.ntmps24
  go_wp2_with (first | (go_at_call 20; refine (within_any _ _ _ _).mono ?_; rintro e w1 ⟨rfl, rfl⟩))
  go_ret
  have h1 : (n : Int) ≤ 15 := by omega
  simp [h1]
theorem cut_nt (n : Nat) : Lib.trimPrefix (nt n).data.toList [108, 111, 103, 46] = dec n ∧ Lib.hasPrefix (nt n).data.toList [108, 111, 103, 46] = true := by
  rw [nt_list]
  have h : Lib.hasPrefix (nm n) [108, 111, 103, 46] = true := by simp [Lib.hasPrefix, nm]
  refine ⟨?_, h⟩
  simp only [Lib.trimPrefix, h, if_true]
  simp [nm]
set_option maxRecDepth 100000 in
set_option maxHeartbeats 1600000 in
theorem firstOf_any (n : Nat) (h1 : 1 ≤ n) (hn : n ≤ 1048576) (w : World) (hT : Tab w) :
    Calls Tryz.prog 52 #[.string (nt n)] w fun e w' => e = .returned (.tuple #[.int .i64 n, .bool true]) ∧ Below w.heap.size w w' := by
  have hC : ∀ W, Calls Tryz.prog 71 #[.string (nt n), .string ⟨#[108, 111, 103, 46]⟩] W fun e w' => e = .returned (.tuple #[.string ⟨(dec n).toArray⟩, .bool true]) ∧ w' = W := fun W => by
    have := Any.strings_CutPrefix Tryz.laysCutP (nt n) ⟨#[108, 111, 103, 46]⟩ W
    rw [show (ByteArray.mk #[108, 111, 103, 46]).data.toList = [108, 111, 103, 46] from rfl, (cut_nt n).1, (cut_nt n).2] at this
    exact this
  have hl := dec_small (show n ≤ 1048577 by omega)
  have hA : ∀ W, Calls Tryz.prog 72 #[.string ⟨(dec n).toArray⟩] W fun e w' => e = .returned (.tuple #[.int .i64 n, .nilIface]) ∧ Below W.heap.size W w' := fun W => by
    refine (Any.strconv_Atoi Tryz.laysAtoi ⟨(dec n).toArray⟩ n (by show (dec n).toArray.size ≤ 18; rw [List.size_toArray]; omega) (by simpa using atoi_dec n) W).mono ?_
    rintro e w' ⟨rfl, t, rfl⟩
    exact ⟨rfl, below_bytesWorld _ _ _ _ (Nat.le_refl _)⟩
  have hW : ∀ W, Calls Tryz.prog 20 #[.int .i64 n, .int .i64 1, .int .i64 1048576] W fun e w' => e = .returned (.bool true) ∧ W = w' := fun W => by
    refine (within_any n 1 1048576 W).mono ?_
    rintro e w' ⟨rfl, rfl⟩
    have e1 : (1 : Int) ≤ (n : Int) := by omega
    have e2 : (n : Int) ≤ 1048576 := by omega
    simp [e1, e2]
  go_enter Tryz.func52, Tryz.ntmps52
  go_wp2_with (first
    | (go_at_call 71; refine (hC _).mono ?_; rintro e w1 ⟨rfl, rfl⟩)
    | (go_at_call 72; refine (hA _).mono ?_; rintro e w2 ⟨rfl, hb2⟩)
    | (go_at_call 20; refine (hW _).mono ?_; rintro e w3 ⟨rfl, rfl⟩)
    | (go_at_call 28; refine (nameOf_any n (by omega) _ (hT.below hb2)).mono ?_; rintro e w4 ⟨rfl, hb4⟩))
  go_ret2
  exact ⟨rfl, hb2.trans (hb4.mono hb2.size)⟩

end Go.Proofs.YtdlicndbdnfekaaGreatDoor.Wl
