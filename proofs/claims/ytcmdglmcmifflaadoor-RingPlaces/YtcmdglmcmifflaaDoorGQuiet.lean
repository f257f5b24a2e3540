/- Worlds that have only grown: some draws, some blocks behind. The walk of a quiet region, sealed: for frames of many slots. -/
import Derived.Test.YtcmdglmcmifflaaDoorGCore
import Derived.Shelf.SlSortCmp.QuietGrown
import Derived.Deep.QuietTactic
namespace Go.Proofs.YtcmdglmcmifflaaDoor.Gk
open Go.RowKit Go.Joins Go.Sort

abbrev Gr (w w' : World) : Prop := ∃ q os', w' = grow (w.drewN q) os'
theorem Gr.refl (w : World) : Gr w w := ⟨0, #[], by rw [grow_empty]; rfl⟩
theorem Gr.of_eq {w w' : World} (h : w' = w) : Gr w w' := h ▸ Gr.refl _
theorem Gr.trans {a b c : World} (h : Gr a b) (k : Gr b c) : Gr a c := by
  obtain ⟨q, os, rfl⟩ := h
  obtain ⟨r, os', rfl⟩ := k
  exact ⟨q + r, os ++ os', by show grow (grow ((a.drewN q).drewN r) os) os' = _; rw [grow_grow, World.drewN_drewN]⟩
theorem Gr.alloc {a b : World} (h : Gr a b) (o : Obj) : Gr a (b.alloc o) := h.trans ⟨0, #[o], alloc_eq_grow b o⟩
theorem Gr.drewN {a b : World} (h : Gr a b) (n : Nat) : Gr a (b.drewN n) := h.trans ⟨n, #[], by rw [grow_empty]⟩
theorem Gr.drew {a b : World} (h : Gr a b) : Gr a b.drew := h.drewN 1
theorem Gr.grow {a b : World} (h : Gr a b) (n : Nat) (os : Array Obj) : Gr a (grow (b.drewN n) os) := h.trans ⟨n, os, rfl⟩
theorem Gr.below {a b : World} (h : Gr a b) : Below a.heap.size a b := by
  obtain ⟨q, os, rfl⟩ := h
  exact ⟨rfl, rfl, rfl, by simp [Go.Sort.grow], fun i hi => by simp [Go.Sort.grow, World.drewN, Array.getElem?_append, hi]⟩
theorem Gr.alloc1 (w : World) (o : Obj) : Gr w (w.alloc o) := (Gr.refl w).alloc o
/-- a block just laid, and one that was there, in a world that has grown since -/
theorem new_grown (w : World) (o : Obj) (n : Nat) (os : Array Obj) : (grow ((w.alloc o).drewN n) os).heap[w.heap.size]? = some o := by
  have h : (w.alloc o).heap[w.heap.size]? = some o := heap_alloc_new w o
  rw [← h]
  exact (Gr.grow (Gr.refl (w.alloc o)) n os).below.block _ (by simp)

end Go.Proofs.YtcmdglmcmifflaaDoor.Gk

namespace Go.Proofs.YtcmdglmcmifflaaDoor.Gk
open Go.RowKit Go.Joins Go.Sort

structure QW (P : Program) (ops : Array Oper) (C : World → Prop) (Q : Act → Prop) (l : List Oper) (a : Act) : Prop where
  out : wpQuiet P ops C Q l a
section
variable {P : Program} {ops : Array Oper} {C : World → Prop} {Q : Act → Prop} {o : Oper} {rest : List Oper} {a : Act}
theorem QW.step (h : ∀ K : Act → Prop, (∀ a, QW P ops C Q rest a → K a) → if Region.wanted o (yielded ops a.tmps) then o.quiet P a C K else K (a.put o.dst undef)) : QW P ops C Q (o :: rest) a :=
  ⟨wpQuiet_step fun K hK => h K fun a q => hK a q.out⟩
theorem QW.skip (h : Region.wanted o (yielded ops a.tmps) = false) (hr : QW P ops C Q rest (a.put o.dst undef)) : QW P ops C Q (o :: rest) a :=
  ⟨by unfold wpQuiet; rw [if_neg (by rw [h]; decide)]; exact hr.out⟩
theorem QW.nil (h : Q a) : QW P ops C Q [] a := ⟨h⟩
end

end Go.Proofs.YtcmdglmcmifflaaDoor.Gk
