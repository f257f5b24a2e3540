/- Walks over disk.go: takes; name.go: nameMayBe. -/
import Derived.Test.YtokcknfbanpjjaaDRep
namespace Go.Proofs.Ytokcknfbanpjjaa.Dk
open Go.RowKit Go.Maps Go.Joins

theorem grown_refl (w : World) (r : Option Nat) : w.grownBy w r := ⟨rfl, rfl, rfl, Nat.le_refl _, fun _ _ _ => rfl⟩
theorem grown_set (w : World) (b i : Nat) (v : Value) : w.grownBy (w.setCell ⟨b, i, none⟩ v) (some b) := ⟨rfl, rfl, rfl, by simp, fun k _ hn => Below.heap_setCell w _ v k fun e => hn (by rw [e])⟩
theorem grown_below {w w' : World} (h : Below w.heap.size w w') (r : Option Nat) : w.grownBy w' r := ⟨h.os, h.tape, h.output, h.size, fun k hk _ => h.block k hk⟩

set_option maxHeartbeats 400000 in
theorem takes_any {own : Nat → Prop} {bd bm room : Nat} {l : List (Bs × Ent)} {fuse : Int} {down : Bool} (w : World) (h : HeldL w own bd bm room l fuse down) (f0 : -1 ≤ fuse) (f1 : fuse ≤ 9223372036854775807) :
    Calls Try.prog 32 #[.pointer (some ⟨bd, 0, none⟩)] w fun e w' => e = .returned (.bool (taken fuse down).1) ∧ HeldL w' own bd bm room l (taken fuse down).2.1 (taken fuse down).2.2 ∧ w.grownBy w' (some bd) := by
  have c2 := h.base.c2
  have c3 := h.base.c3
  have z2 := h.base.fz 2
  have z3 := h.base.fz 3
  by_cases hf : fuse = 0
  · subst hf
    go_enter Try.func32, Try.ntmps32
    go_wp2
    go_ret
    refine ⟨by simp [taken], ?_, grown_set w bd _ _⟩
    simpa [taken] using Base.set h (i := 3) (u := .bool true) (fuse' := 0) (down' := true) rfl
  · cases down
    · by_cases hn : fuse = -1
      · subst hn
        go_enter Try.func32, Try.ntmps32
        go_wp2
        go_ret
        exact ⟨by simp [taken], by simpa [taken] using h, grown_refl _ _⟩
      · have b1 : (fuse == 0) = false := by rw [beq_eq_false_iff_ne]; exact hf
        have b2 : (fuse != -1) = true := by rw [bne_iff_ne]; exact hn
        have b3 : (fuse == -1) = false := by rw [beq_eq_false_iff_ne]; exact hn
        go_enter Try.func32, Try.ntmps32
        go_wp2
        go_ret
        refine ⟨by simp [taken, hf], ?_, grown_set w bd _ _⟩
        simpa [taken, hf, hn] using Base.set h (i := 2) (u := .int .i64 (fuse - 1)) (fuse' := fuse - 1) (down' := false) rfl
    · have b1 : (fuse == 0) = false := by rw [beq_eq_false_iff_ne]; exact hf
      go_enter Try.func32, Try.ntmps32
      go_wp2
      go_ret
      exact ⟨by simp [taken], by simpa [taken] using h, grown_refl _ _⟩

end Go.Proofs.Ytokcknfbanpjjaa.Dk
