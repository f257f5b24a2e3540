/- The walk of a quiet region, sealed: for frames of many slots. -/
import Derived.Test.YthdempdiibjabaaGGrow
import Derived.Deep.QuietTactic
namespace Go.Proofs.Ythdempdiibjabaa.Gk
open Go.RowKit Go.Joins Go.Sort

structure QW (P : Program) (ops : Array Oper) (C : World → Prop) (Q : Act → Prop) (l : List Oper) (a : Act) : Prop where
  out : wpQuiet P ops C Q l a
section
variable {P : Program} {ops : Array Oper} {C : World → Prop} {Q : Act → Prop} {o : Oper} {rest : List Oper} {a : Act}
theorem QW.step (h : ∀ K : Act → Prop, (∀ a, QW P ops C Q rest a → K a) → if Region.wanted o (yielded ops a.tmps) then o.quiet P a C K else K (a.put o.dst undef)) : QW P ops C Q (o :: rest) a :=
  ⟨wpQuiet_step fun K hK => h K fun a q => hK a q.out⟩
theorem QW.skip (h : Region.wanted o (yielded ops a.tmps) = false) (hr : QW P ops C Q rest (a.put o.dst undef)) : QW P ops C Q (o :: rest) a :=
  ⟨by unfold wpQuiet; rw [if_neg (by rw [h]; decide)]; exact hr.out⟩
theorem QW.nil (h : Q a) : QW P ops C Q [] a := ⟨h⟩
end

end Go.Proofs.Ythdempdiibjabaa.Gk
