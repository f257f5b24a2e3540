/- The walk over vals: Size, of a file that is there. -/
import Derived.Test.YtgfmnffaknmcnaaGreatDoorVlOpen
namespace Go.Proofs.YtgfmnffaknmcnaaGreatDoor.Vl
open Go.RowKit Go.Joins
open Go.Proofs.YtgfmnffaknmcnaaGreatDoor.Dk (Bs Fil Fls St St.Ok Held Only Rising named getL getL_some)

section
variable {w0 w w' : World} {own : Nat → Prop} {bd bv most top : Nat} {S : St}
set_option maxRecDepth 100000 in
set_option maxHeartbeats 1600000 in
theorem Size_yes (h : VH w0 w own bd bv most top S) {n : Nat} (hn : n ∈ nums S) :
    Calls Tryz.prog 27 #[.pointer (some ⟨bv, 0, none⟩), .int .i64 n] w fun e w' => e = .returned (.tuple #[.int .i64 (dat S n).length, .int .i64 0]) ∧ Below w.heap.size w w' := by
  have hmf := makeFunc_run
  have hb := nums_bound hn
  have hds : (ByteArray.mk (dat S n).toArray).size = (dat S n).length := by show Array.size _ = _; simp
  obtain ⟨w1, hw1⟩ : ∃ w1, w1 = w.alloc (.cells #[.int .i64 0] ErrT) := ⟨_, rfl⟩
  have hb1 : Below w.heap.size w w1 := by rw [hw1]; exact below_alloc1 _ _
  have hEB : w1.heap[w.heap.size]? = some (.cells #[.int .i64 0] ErrT (0, 0)) := by rw [hw1]; exact heap_alloc_new _ _
  have hR := read_yes (h.below hb1) hn
  rw [← hds]
  generalize (ByteArray.mk (dat S n).toArray) = D at *
  clear h hn hds
  go_enter_defers Tryz.func27, Tryz.ntmps27
  go_wp2_with fail
  rw [← hw1]
  refine hR.mono ?_
  rintro e w3 ⟨rfl, hb2⟩
  have hEB3 := keepBlk hb2 hEB
  have e0 := cell_one hEB3
  have e1 := unfrozen_of_block hEB3 0
  have hbl : Below w.heap.size w w3 := hb1.trans (hb2.mono hb1.size)
  clear hR hw1 hb1 hb2
  go_wp2
  obtain ⟨f1, f2⟩ := set_one hbl (Nat.le_refl _) hEB3 (.int .i64 0)
  refine leaves_cons (f := 67) (args := #[.pointer (some ⟨w.heap.size, 0, none⟩)]) (by simp) (by simp [go_sem]) ?_
  refine (size_idle ⟨w.heap.size, 0, none⟩ 0 _ (cell_one f2) (unfrozen_of_block f2 0)).mono ?_
  rintro e u' w9 ⟨rfl, rfl, rfl⟩
  obtain ⟨f3, f4⟩ := set_one f1 (Nat.le_refl _) f2 (.int .i64 0)
  generalize (w3.setCell ⟨w.heap.size, 0, none⟩ (.int .i64 0)).setCell ⟨w.heap.size, 0, none⟩ (.int .i64 0) = w9 at *
  have r0 := cell_one f4
  simp [Leaves, settle, results, Tryz.results27, go_sem, r0]
  exact f3
end

end Go.Proofs.YtgfmnffaknmcnaaGreatDoor.Vl
