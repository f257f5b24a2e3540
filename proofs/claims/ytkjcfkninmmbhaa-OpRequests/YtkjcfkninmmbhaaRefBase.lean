/- The document's own answer: what several walks lean on. -/
import Derived.Test.YtkjcfkninmmbhaaDec
namespace Go.Proofs.Ytkjcfkninmmbhaa
open Go.RowKit

set_option maxRecDepth 100000 in
set_option maxHeartbeats 800000 in
theorem Fault_any (a e : Int) (w : World) :
    Calls Try.prog 88 #[.int .i64 a, .int .i64 e] w fun r w' => r = .returned (.agg #[.int .i64 a, .int .i64 e]) ∧ Below w.heap.size w w' := by
  go_enter Try.func88, Try.ntmps88
  go_wp2
  exact bodyPost_ret (v := .agg #[.int .i64 a, .int .i64 e]) (by simp [results, Try.results88, go_sem]) rfl ⟨rfl, (Below.refl _ _).alloc (Nat.le_refl _) _⟩

/-- a world in which the fault's two cells were made, and hold nothing yet -/
structure Started (w W : World) : Prop where
  below : Below w.heap.size w W
  lt : w.heap.size < W.heap.size
  c0 : W.cell? ⟨w.heap.size, 0, none⟩ = some (.int .i64 0)
  c1 : W.cell? ⟨w.heap.size, 1, none⟩ = some (.int .i64 0)
  f0 : W.frozen? ⟨w.heap.size, 0, none⟩ = false
  f1 : W.frozen? ⟨w.heap.size, 1, none⟩ = false
theorem Started.behind {w W w9 : World} (h : Started w W) (hb9 : Below W.heap.size W w9) :
    w9.cell? ⟨w.heap.size, 0, none⟩ = some (.int .i64 0) ∧ w9.cell? ⟨w.heap.size, 1, none⟩ = some (.int .i64 0) ∧ w9.frozen? ⟨w.heap.size, 0, none⟩ = false ∧ w9.frozen? ⟨w.heap.size, 1, none⟩ = false ∧ Below w.heap.size w w9 :=
  ⟨(hb9.cell (p := ⟨w.heap.size, 0, none⟩) h.lt).trans h.c0, (hb9.cell (p := ⟨w.heap.size, 1, none⟩) h.lt).trans h.c1, (hb9.frozen (p := ⟨w.heap.size, 0, none⟩) h.lt).trans h.f0, (hb9.frozen (p := ⟨w.heap.size, 1, none⟩) h.lt).trans h.f1, h.below.trans (hb9.mono (Nat.le_of_lt h.lt))⟩
theorem Started.drewN {w W : World} (h : Started w W) (n : Nat) : Started w (W.drewN n) :=
  ⟨below_drewN h.below n, by simpa using h.lt, by simpa using h.c0, by simpa using h.c1, by simpa using h.f0, by simpa using h.f1⟩
theorem started (w : World) : Started w (w.alloc (.cells #[.int .i64 0, .int .i64 0] 42)) :=
  ⟨(Below.refl _ _).alloc (Nat.le_refl _) _, by simp, by simp, by simp, by simp, by simp⟩

end Go.Proofs.Ytkjcfkninmmbhaa
