/- The ground for sorting places by a method that is handed over as a value. -/
import Derived.Test.YtcmdglmcmifflaaDoorGCore
import Derived.Shelf.SlSortCmp.Kit1
import Derived.Sort.WalkA
import Derived.Sort.WalkB2
import Derived.Sort.WalkB12
import Derived.Deep.LoopGhost
namespace Go.Proofs.YtcmdglmcmifflaaDoor.Rs
open Go.RowKit Go.Joins Go.Sort Gk

/-- a place -/
abbrev Pl (N : Nat) : Type := Fin (N + 1)
def ec {N : Nat} (x : Pl N) : Value := .int .i64 (x.val : Int)
theorem ec_one {N : Nat} : OneCell (ec (N := N)) := fun _ => rfl
abbrev fv (r : Value) : Value := .func (.func 63) #[r] #[]
/-- the comparison's contract, while the places are sorted -/
def CL {N : Nat} (r : Value) (cf : Pl N → Pl N → Int) (blk size : Nat) (w : World) : Prop :=
  ∀ (m : Nat) (os : Array Obj) (dk : Array (Pl N)), dk.size = size → ∀ x y : Pl N,
    Calls Tryd.prog 63 #[r, .int .i64 (x.val : Int), .int .i64 (y.val : Int)] (sortWorld ec w blk 0 m dk os) fun e w' => e = .returned (.int .i64 (cf x y)) ∧ ∃ q os', w' = grow ((sortWorld ec w blk 0 m dk os).drewN q) os'
abbrev SP {N : Nat} (w0 : World) (blk : Nat) (dk : Array (Pl N)) (W : World) : Prop := SW ec w0 blk 0 dk W
section
variable {N : Nat} {r : Value} {cf : Pl N → Pl N → Int} {blk : Nat} {w0 W : World} {d0 dk : Array (Pl N)}
theorem SP.cmp (h : SP w0 blk dk W) (hC : CL r cf blk d0.size w0) (hs : dk.size = d0.size) (x y : Pl N) (n : Nat) (os : Array Obj) :
    Calls Tryd.prog 63 #[r, .int .i64 (x.val : Int), .int .i64 (y.val : Int)] (grow (W.drewN n) os) fun e w' => e = .returned (.int .i64 (cf x y)) ∧ ∃ q os', w' = grow ((grow (W.drewN n) os).drewN q) os' := by
  obtain ⟨m, os0, hw⟩ := h.grown n os
  rw [hw]
  exact hC m os0 dk hs x y
theorem SP.cell (h : SP w0 blk dk W) (R : Row1 ec w0 blk 0 d0) (hs : dk.size = d0.size) (i : Nat) (hi : i < dk.size) : W.cell? ⟨blk, i, none⟩ = some (.int .i64 (dk[i]!.val : Int)) := by
  have := h.c1 R hs i hi; rwa [Nat.zero_add] at this
theorem SP.free (h : SP w0 blk dk W) (R : Row1 ec w0 blk 0 d0) (hs : dk.size = d0.size) (i : Nat) (hi : i < dk.size) : W.frozen? ⟨blk, i, none⟩ = false := by
  have := h.f1 R hs i hi; rwa [Nat.zero_add] at this
theorem SP.cells (h : SP w0 blk dk W) (R : Row1 ec w0 blk 0 d0) (hs : dk.size = d0.size) (i : Nat) (hi : i < dk.size) (n : Nat) (os : Array Obj) : (grow (W.drewN n) os).cell? ⟨blk, i, none⟩ = some (.int .i64 (dk[i]!.val : Int)) :=
  SP.cell (h.grown n os) R hs i hi
theorem SP.other (h : SP w0 blk dk W) (R : Row1 ec w0 blk 0 d0) (hs : dk.size = d0.size) (i j : Nat) (hi : i < dk.size) (hj : j < dk.size) (v : Value) : ∃ u, (W.setCell ⟨blk, i, none⟩ v).cell? ⟨blk, j, none⟩ = some u := by
  have := h.c2 R hs i j hi hj v; rwa [Nat.zero_add, Nat.zero_add] at this
theorem SP.swap (h : SP w0 blk dk W) (R : Row1 ec w0 blk 0 d0) (i j : Nat) (hi : i < dk.size) (hj : j < dk.size) :
    SP w0 blk (swp dk i j) ((W.setCell ⟨blk, i, none⟩ (.int .i64 (dk[j]!.val : Int))).setCell ⟨blk, j, none⟩ (.int .i64 (dk[i]!.val : Int))).drew := by
  have := h.swapped R i j hi hj; rwa [Nat.zero_add, Nat.zero_add] at this
end

end Go.Proofs.YtcmdglmcmifflaaDoor.Rs
