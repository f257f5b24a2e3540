/- The walk over disk.go: Fuse. -/
import Derived.Test.YtnmgiiiafefgdaaGreatDTwo
namespace Go.Proofs.YtnmgiiiafefgdaaGreat.Dk
open Go.RowKit Go.Maps Go.Joins

set_option maxRecDepth 100000 in
set_option maxHeartbeats 400000 in
theorem fuse_any {own : Nat → Prop} {bd : Nat} {S : St} (w : World) (h : Held w own bd S) (n : Int) (hn : n ≤ 9223372036854775807) :
    Calls Tryz.prog 17 #[.pointer (some ⟨bd, 0, none⟩), .int .i64 n] w fun e w' => e = .returned (.int .i64 (S.light n).1) ∧ Held w' own bd (S.light n).2 ∧ Only own w w' := by
  have hok := h.ok.light n hn
  by_cases h0 : n < 0
  · have hv : S.light n = (1, S) := by simp [St.light, h0]
    rw [hv]
    go_enter Tryz.func17, Tryz.ntmps17
    go_wp2
    go_ret
    exact ⟨rfl, h, Only.refl _ _⟩
  · have hv : S.light n = (0, { S with fuse := n }) := by simp [St.light, h0]
    rw [hv] at hok ⊢
    obtain ⟨bm, l, hL, hfl, _⟩ := h
    have c2 := hL.base.c2
    have z2 := hL.base.fz 2
    have HFL := hide hfl
    clear hfl
    go_enter Tryz.func17, Tryz.ntmps17
    go_wp2
    go_ret
    exact ⟨rfl, ⟨bm, l, Base.set hL (i := 2) (u := .int .i64 n) (fuse' := n) (down' := S.down) rfl, HFL.out, hok⟩, Only.of_set w hL.base.ownD _⟩

end Go.Proofs.YtnmgiiiafefgdaaGreat.Dk
