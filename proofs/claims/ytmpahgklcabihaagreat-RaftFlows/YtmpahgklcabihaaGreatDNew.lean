/- The walk over disk.go: New. -/
import Derived.Test.YtmpahgklcabihaaGreatDTwo
namespace Go.Proofs.YtmpahgklcabihaaGreat.Dk
open Go.RowKit Go.Maps Go.Joins

def St.new (room : Nat) : St := ⟨room, [], -1, false⟩
theorem St.new_ok {room : Nat} (h : room ≤ 262144) : (St.new room).Ok := ⟨by simp [St.new, used, sumL], h, by simp [St.new], by simp [St.new, Rising], by simp [St.new], by simp [St.new], by simp [St.new]⟩

set_option maxRecDepth 100000 in
set_option maxHeartbeats 800000 in
theorem new_bad (room : Int) (w : World) (h : room < 0 ∨ 262144 < room) : Calls Tryz.prog 7 #[.int .i64 room] w fun e w' => e = .returned (.tuple #[.pointer none, .int .i64 1]) ∧ w' = w := by
  go_enter Tryz.func7, Tryz.ntmps7
  go_wp2
  all_goals
    go_ret2
    exact ⟨rfl, rfl⟩

set_option maxRecDepth 100000 in
set_option maxHeartbeats 800000 in
theorem new_ok (room : Nat) (w : World) (h : room ≤ 262144) : Calls Tryz.prog 7 #[.int .i64 room] w fun e w' => ∃ bd, e = .returned (.tuple #[.pointer (some ⟨bd, 0, none⟩), .int .i64 0]) ∧ Held w' (fun b => w.heap.size ≤ b) bd (St.new room) ∧ Below w.heap.size w w' := by
  have h0 : (0 : Int) ≤ (room : Int) := by omega
  have h1 : (room : Int) ≤ 262144 := by omega
  have hmm := @run_makeMap Tryz.prog
  go_enter Tryz.func7, Tryz.ntmps7
  go_wp2
  go_ret2
  refine ⟨w.heap.size + 1, rfl, ⟨w.heap.size, [], ⟨⟨?_, ?_, by simp, by simp⟩, by simp [RowsOk]⟩, rfl, St.new_ok h⟩, below_alloc2 _ _ _⟩
  · have := heap_alloc_new (w.alloc (.map #[] 0)) (.cells #[.int .i64 room, .map (some w.heap.size), .int .i64 (-1), .bool false] Dsk)
    simpa [St.new] using this
  · have := (World.ownsMap_made w Tryz.prog 9 RV).alloc (.cells #[.int .i64 room, .map (some w.heap.size), .int .i64 (-1), .bool false] Dsk)
    exact this

end Go.Proofs.YtmpahgklcabihaaGreat.Dk
