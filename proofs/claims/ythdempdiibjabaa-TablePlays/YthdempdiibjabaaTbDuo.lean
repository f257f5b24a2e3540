/- Layer 9: a table and the document's, side by side. -/
import Derived.Test.YthdempdiibjabaaTrDo
import Derived.Test.YthdempdiibjabaaTrTake
import Derived.Test.YthdempdiibjabaaTrDrop
import Derived.Test.YthdempdiibjabaaTbGot
import Derived.Test.YthdempdiibjabaaTbSpoil
import Derived.Test.YthdempdiibjabaaTbLend
import Derived.Test.YthdempdiibjabaaTbBookR
import Derived.Test.YthdempdiibjabaaTbArgA
import Derived.Test.YthdempdiibjabaaGAmong
namespace Go.Proofs.Ythdempdiibjabaa.Tr
open Go.RowKit Go.Joins Go.Proofs.Ythdempdiibjabaa.Gk Go.Proofs.Ythdempdiibjabaa.Oq Go.Proofs.Ythdempdiibjabaa.Sp Go.Proofs.Ythdempdiibjabaa.Tb

theorem ne_ref {w : World} {bt br : Nat} {l m : List Rw} (h : TH w bt l) (k : RH w br m) : bt ≠ br := by
  rintro rfl
  obtain ⟨_, a, cap, hg, _⟩ := h
  obtain ⟨_, a', cap', hg', _⟩ := k
  rw [hg] at hg'
  simp only [Option.some.injEq, Obj.cells.injEq] at hg'
  exact absurd hg'.2.1 (by decide)
theorem RH.turnT {w w' : World} {bt br : Nat} {l m : List Rw} (h : RH w br l) (ht : TH w bt m) (k : Turn bt w w') : RH w' br l := by
  have hne := ne_ref ht h
  obtain ⟨h1, a, cap, hg, hr⟩ := h
  exact ⟨h1, a, cap, (k.block br (Array.getElem?_eq_some_iff.1 hg).1 (Ne.symm hne)).trans hg, hr.turn ht k⟩
theorem TH.turnR {w w' : World} {bt br : Nat} {l m : List Rw} (h : TH w bt l) (hr : RH w br m) (k : Turn br w w') : TH w' bt l := by
  have hne := ne_ref h hr
  obtain ⟨h1, a, cap, hg, hl⟩ := h
  exact ⟨h1, a, cap, (k.block bt (Array.getElem?_eq_some_iff.1 hg).1 hne).trans hg, RL.turnR hl hr k⟩
theorem blk_turnT {w w' : World} {bt br : Nat} {l m : List Rw} (h : RH w br l) (ht : TH w bt m) (k : Turn bt w w') : tabBlk w' br = tabBlk w br := tabBlk_same (k.block br h.lt (Ne.symm (ne_ref ht h)))
theorem blk_turnR {w w' : World} {bt br : Nat} {l m : List Rw} (h : TH w bt l) (hr : RH w br m) (k : Turn br w w') : tabBlk w' bt = tabBlk w bt := tabBlk_same (k.block bt h.lt (ne_ref h hr))
theorem RH.blkLt {w : World} {bt g : Nat} {l : List Rw} (h : RH w bt l) (hg : tabBlk w bt = some g) : g < w.heap.size := by
  obtain ⟨_, a, cap, hb, hr⟩ := h
  rw [tabBlk_isR hb] at hg
  obtain ⟨cur, hc⟩ := hr.lt hg
  exact (Array.getElem?_eq_some_iff.1 hc).1
theorem TH.spl {S : Nat → Prop} {w w' : World} {b : Nat} {l : List Rw} (h : TH w b l) (k : Spl S w w') (hb : ¬ S b) (ht : ∀ g, tabBlk w b = some g → ¬ S g) : TH w' b l := by
  obtain ⟨h1, a, cap, hg, hl⟩ := h
  refine ⟨h1, a, cap, (k.only.block b (Array.getElem?_eq_some_iff.1 hg).1 hb).trans hg, hl.stay fun g hgb => ?_⟩
  obtain ⟨cur, hc⟩ := hl.lt hgb
  exact k.only.block g (Array.getElem?_eq_some_iff.1 hc).1 (ht g (by rw [tabBlk_is hg]; exact hgb))
theorem RH.spl {S : Nat → Prop} {w w' : World} {b : Nat} {l : List Rw} (h : RH w b l) (k : Spl S w w') (hb : ¬ S b) (ht : ∀ g, tabBlk w b = some g → ¬ S g) : RH w' b l := by
  obtain ⟨h1, a, cap, hg, hl⟩ := h
  refine ⟨h1, a, cap, (k.only.block b (Array.getElem?_eq_some_iff.1 hg).1 hb).trans hg, hl.stay fun g hgb => ?_⟩
  obtain ⟨cur, hc⟩ := hl.lt hgb
  exact k.only.block g (Array.getElem?_eq_some_iff.1 hc).1 (ht g (by rw [tabBlk_isR hg]; exact hgb))
theorem Got.turnR {w w' : World} {ra : Option Addr} {rcap : Nat} {rl : List RsA} {b : Nat} {m : List Rw} (h : Got w ra rcap rl) (ht : RH w b m) (k : Turn b w w') : Got w' ra rcap rl := by
  refine ⟨own_stay h.row fun g hg => k.block g (h.row.lt g hg).2 ?_, fun x hx => RL.turnR (h.rows x hx) ht k⟩
  obtain ⟨_, a, cap, hb, _⟩ := ht
  exact own_ne h.row hb (by decide) hg
/-- both, and what a call may turn -/
structure Duo (B : World) (bt br : Nat) (l : List Rw) (w : World) : Prop where
  tab : TH w bt l
  ref : RH w br l
  lt : B.heap.size ≤ bt
  lr : B.heap.size ≤ br
  bel : Below B.heap.size B w
theorem Duo.call {B w w' : World} {bt br : Nat} {l : List Rw} (h : Duo B bt br l w) (hb : Below w.heap.size w w') : Duo B bt br l w' := ⟨h.tab.below hb, h.ref.below hb, h.lt, h.lr, h.bel.trans (hb.mono h.bel.size)⟩
theorem Duo.drew {B w : World} {bt br : Nat} {l : List Rw} (h : Duo B bt br l w) : Duo B bt br l w.drew := h.call (Below.refl _ _).drew
/-- a box stays -/
theorem box_turn {w w' : World} {b g : Nat} {o : Obj} (h : w.heap[g]? = some o) (k : Turn b w w') (hne : g ≠ b) : w'.heap[g]? = some o := (k.block g (Array.getElem?_eq_some_iff.1 h).1 hne).trans h

end Go.Proofs.Ythdempdiibjabaa.Tr
