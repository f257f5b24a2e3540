/- Walks over net.go: apart. -/
import Derived.Test.YtmdpkkipjdpopaaNtFind
namespace Go.Proofs.Ytmdpkkipjdpopaa.Nk
open Go.RowKit Go.Joins Gk
attribute [local go_sem ↓] Go.wp_at_zero Go.wp_at_succ

/-- a cell of an old block, and what lies below -/
abbrev Sc (w : World) (b o : Nat) (c : Value) (W : World) : Prop := W.cell? ⟨b, o, none⟩ = some c ∧ Below w.heap.size w W
theorem Sc.call {w : World} {b o : Nat} {c : Value} {A B : World} (hb : Below A.heap.size A B) (hlt : b < w.heap.size) (h : Sc w b o c A) : Sc w b o c B :=
  ⟨(hb.cell (p := ⟨b, o, none⟩) (Nat.lt_of_lt_of_le hlt h.2.size)).trans h.1, h.2.trans (hb.mono h.2.size)⟩
theorem Sc.drew {w : World} {b o : Nat} {c : Value} {A : World} (h : Sc w b o c A) : Sc w b o c A.drew := ⟨by simpa using h.1, h.2.drew⟩

set_option maxHeartbeats 1600000 in
theorem apart_any {own : Nat → Prop} {bn : Nat} {S : Nst} {v u : Value} (w : World) (h : NHeldL w own bn S v u) (hl : S.ps.length ≤ 4096) (a b : Nat) :
    Calls Try.prog 38 #[.pointer (some ⟨bn, 0, none⟩), .int .i64 a, .int .i64 b] w fun e w' => e = .returned (.bool (memP (prOf a b) S.ps)) ∧ Below w.heap.size w w' := by
  obtain ⟨av, cv, rfl⟩ := h.prow.slice
  have hlt := h.lt
  have hS : Sc w bn 3 (.slice av S.ps.length cv) w := ⟨h.c3, Below.refl _ _⟩
  have hC := fun W (hb : Below w.heap.size w W) => contains_any (prOf a b) av cv S.ps W (h.below hb).prow.lies (by omega)
  generalize memP (prOf a b) S.ps = r at *
  have HC := hide hC
  clear h hC
  go_enter Try.func38, Try.ntmps38
  go_wp2_with fail
  go_region_held3 (Sc w bn 3 (.slice av S.ps.length cv)) (first | exact Sc.drew (by assumption) | exact Sc.call (by assumption) hlt (by assumption))
    (first | (go_at_call 39; refine (pairOf_any a b _).mono ?_; rintro e w1 ⟨rfl, hb1⟩) | (go_at_call 53; refine (HC.out _ (by assumption : Sc w bn 3 (.slice av S.ps.length cv) _).2).mono ?_; rintro e w2 ⟨rfl, hb2⟩))
  have hb3 : Sc w bn 3 (.slice av S.ps.length cv) w2 := by assumption
  go_wp2
  go_ret
  exact ⟨rfl, hb3.2⟩

end Go.Proofs.Ytmdpkkipjdpopaa.Nk
