/- DiskPlays: both disks side by side. -/
import Derived.Test.YtokcknfbanpjjaaECrash
import Derived.Test.YtokcknfbanpjjaaDFuse
namespace Go.Proofs.Ytokcknfbanpjjaa.Dk
open Go.RowKit Go.Maps Go.Joins Gk

abbrev ActT : TypeId := 33
structure DuoL (w W : World) (bd br : Nat) (S R : St) (oD oR : Nat → Prop) : Prop where
  disk : Held W oD bd S
  ref : RHeld W oR br R
  below : Below w.heap.size w W
  dLo : ∀ b, oD b → w.heap.size ≤ b ∧ b < W.heap.size
  rLo : ∀ b, oR b → w.heap.size ≤ b ∧ b < W.heap.size
  apart : ∀ b, oD b → ¬ oR b
/-- both lie there, nothing of one the other's -/
def Duo (w W : World) (bd br : Nat) (S R : St) : Prop := ∃ oD oR, DuoL w W bd br S R oD oR
/-- and a call's block besides -/
def DuoB (w W : World) (bd br : Nat) (S R : St) (ba : Nat) (cs : Array Value) : Prop := ∃ oD oR, DuoL w W bd br S R oD oR ∧ W.heap[ba]? = some (.cells cs ActT (0, 0)) ∧ ¬ oD ba ∧ ¬ oR ba

section
variable {w W W' : World} {bd br : Nat} {S R S' R' : St} {oD oR : Nat → Prop} {ba : Nat} {cs : Array Value}
theorem RHeld.frame (h : RHeld W oR br S) (hs : ∀ k, k < W.heap.size → oR k → W'.heap[k]? = W.heap[k]?) : RHeld W' oR br S := let ⟨v, fu, le, h1, h2, h3⟩ := h; ⟨v, fu, le, h1.frame hs, h2, h3⟩
theorem RHeld.owns {own' : Nat → Prop} (h : RHeld W oR br S) (ho : ∀ b, b < W.heap.size → oR b → own' b) : RHeld W own' br S := let ⟨v, fu, le, h1, h2, h3⟩ := h; ⟨v, fu, le, h1.owns ho, h2, h3⟩
theorem DuoL.later (h : DuoL w W bd br S R oD oR) (hb : Below W.heap.size W W') : DuoL w W' bd br S R oD oR :=
  ⟨h.disk.below hb, h.ref.frame fun k hk _ => hb.block k hk, h.below.trans (hb.mono h.below.size), fun b hb' => ⟨(h.dLo b hb').1, Nat.lt_of_lt_of_le (h.dLo b hb').2 hb.size⟩, fun b hb' => ⟨(h.rLo b hb').1, Nat.lt_of_lt_of_le (h.rLo b hb').2 hb.size⟩, h.apart⟩
theorem Duo.later (h : Duo w W bd br S R) (hb : Below W.heap.size W W') : Duo w W' bd br S R := let ⟨a, b, h⟩ := h; ⟨a, b, h.later hb⟩
theorem DuoB.later (h : DuoB w W bd br S R ba cs) (hb : Below W.heap.size W W') : DuoB w W' bd br S R ba cs := by
  obtain ⟨a, b, h1, h2, h3⟩ := h
  exact ⟨a, b, h1.later hb, (hb.block _ (Array.getElem?_eq_some_iff.1 h2).1).trans h2, h3⟩
theorem DuoB.drew (h : DuoB w W bd br S R ba cs) : DuoB w W.drew bd br S R ba cs := h.later (Below.refl _ _).drew
theorem DuoB.toDuo (h : DuoB w W bd br S R ba cs) : Duo w W bd br S R := let ⟨a, b, h, _⟩ := h; ⟨a, b, h⟩
theorem DuoB.box (h : DuoB w W bd br S R ba cs) : W.heap[ba]? = some (.cells cs ActT (0, 0)) := let ⟨_, _, _, h, _⟩ := h; h
theorem Duo.withBox (h : Duo w W bd br S R) (cs : Array Value) : DuoB w (W.alloc (.cells cs ActT)) bd br S R W.heap.size cs := by
  obtain ⟨a, b, h⟩ := h
  exact ⟨a, b, h.later (below_alloc1 W _), heap_alloc_new W _, fun e => by have := (h.dLo _ e).2; omega, fun e => by have := (h.rLo _ e).2; omega⟩
theorem Duo.ok (h : Duo w W bd br S R) : S.Ok ∧ R.Ok := by
  obtain ⟨a, b, h⟩ := h
  obtain ⟨_, _, _, _, _, h6⟩ := h.ref
  exact ⟨h.disk.ok, h6⟩
theorem Duo.below (h : Duo w W bd br S R) : Below w.heap.size w W := let ⟨_, _, h⟩ := h; h.below

/-- a call of the disk -/
theorem DuoB.callD {f : Nat} {args : Array Value} {v : Ending} (h : DuoB w W bd br S R ba cs) (c : ∀ own, Held W own bd S → Fresh own W → (∀ b, own b → w.heap.size ≤ b) → Calls Try.prog f args W fun e w' => e = v ∧ Held w' own bd S' ∧ Only own W w') : Calls Try.prog f args W fun e w' => e = v ∧ DuoB w w' bd br S' R ba cs := by
  obtain ⟨oD, oR, h, hb, hn1, hn2⟩ := h
  have hlt := (Array.getElem?_eq_some_iff.1 hb).1
  refine (c (fun b => oD b ∨ W.heap.size ≤ b) (h.disk.own fun b _ ho => Or.inl ho) (fun b hb => Or.inr hb) (fun b hb => hb.elim (fun h1 => (h.dLo b h1).1) fun h1 => Nat.le_trans h.below.size h1)).mono ?_
  rintro e w' ⟨he, h1, h2⟩
  refine ⟨he, fun b => (oD b ∨ W.heap.size ≤ b) ∧ b < w'.heap.size, oR, ⟨h1.own fun b hb ho => ⟨ho, hb⟩, h.ref.frame fun k hk ho => h2.block k hk fun e => ?_, ?_, fun b hb => ⟨?_, hb.2⟩, fun b hb => ⟨(h.rLo b hb).1, Nat.lt_of_lt_of_le (h.rLo b hb).2 h2.size⟩, fun b hb hr => ?_⟩, ?_, fun e => ?_, hn2⟩
  · rcases e with e | e
    · exact h.apart k e ho
    · omega
  · exact h.below.trans (h2.below h.below.size fun b hb => hb.elim (fun h1 => (h.dLo b h1).1) fun h1 => Nat.le_trans h.below.size h1)
  · exact hb.1.elim (fun h1 => (h.dLo b h1).1) fun h1 => Nat.le_trans h.below.size h1
  · rcases hb.1 with e | e
    · exact h.apart b e hr
    · have := (h.rLo b hr).2; omega
  · exact (h2.block ba hlt fun e => e.elim hn1 fun e => by omega).trans hb
  · exact e.1.elim hn1 fun e => by omega
/-- a call of the document's disk -/
theorem DuoB.callR {f : Nat} {args : Array Value} {v : Ending} (h : DuoB w W bd br S R ba cs) (c : ∀ own, RHeld W own br R → Fresh own W → (∀ b, own b → w.heap.size ≤ b) → Calls Try.prog f args W fun e w' => e = v ∧ RHeld w' own br R' ∧ Only own W w') : Calls Try.prog f args W fun e w' => e = v ∧ DuoB w w' bd br S R' ba cs := by
  obtain ⟨oD, oR, h, hb, hn1, hn2⟩ := h
  have hlt := (Array.getElem?_eq_some_iff.1 hb).1
  refine (c (fun b => oR b ∨ W.heap.size ≤ b) (h.ref.owns fun b _ ho => Or.inl ho) (fun b hb => Or.inr hb) (fun b hb => hb.elim (fun h1 => (h.rLo b h1).1) fun h1 => Nat.le_trans h.below.size h1)).mono ?_
  rintro e w' ⟨he, h1, h2⟩
  refine ⟨he, oD, fun b => (oR b ∨ W.heap.size ≤ b) ∧ b < w'.heap.size, ⟨h.disk.frame fun k hk ho => h2.block k hk fun e => ?_, h1.owns fun b hb ho => ⟨ho, hb⟩, ?_, fun b hb => ⟨(h.dLo b hb).1, Nat.lt_of_lt_of_le (h.dLo b hb).2 h2.size⟩, fun b hb => ⟨?_, hb.2⟩, fun b hd hb => ?_⟩, ?_, hn1, fun e => ?_⟩
  · rcases e with e | e
    · exact h.apart k ho e
    · omega
  · exact h.below.trans (h2.below h.below.size fun b hb => hb.elim (fun h1 => (h.rLo b h1).1) fun h1 => Nat.le_trans h.below.size h1)
  · exact hb.1.elim (fun h1 => (h.rLo b h1).1) fun h1 => Nat.le_trans h.below.size h1
  · rcases hb.1 with e | e
    · exact h.apart b hd e
    · have := (h.dLo b hd).2; omega
  · exact (h2.block ba hlt fun e => e.elim hn2 fun e => by omega).trans hb
  · exact e.1.elim hn2 fun e => by omega
end

/-- a call's cells -/
abbrev SBx (ba : Nat) (c0 c1 c2 c3 c4 : Value) (W : World) : Prop := (W.cell? ⟨ba, 1, none⟩ = some c1 ∧ W.cell? ⟨ba, 2, none⟩ = some c2 ∧ W.cell? ⟨ba, 3, none⟩ = some c3 ∧ W.cell? ⟨ba, 4, none⟩ = some c4) ∧ W.heap[ba]? = some (.cells #[c0, c1, c2, c3, c4] ActT (0, 0))
theorem SBx.of {ba : Nat} {c0 c1 c2 c3 c4 : Value} {W : World} (h : W.heap[ba]? = some (.cells #[c0, c1, c2, c3, c4] ActT (0, 0))) : SBx ba c0 c1 c2 c3 c4 W := ⟨⟨cell_of_block h 1, cell_of_block h 2, cell_of_block h 3, cell_of_block h 4⟩, h⟩
theorem SBx.drew {ba : Nat} {c0 c1 c2 c3 c4 : Value} {A : World} (h : SBx ba c0 c1 c2 c3 c4 A) : SBx ba c0 c1 c2 c3 c4 A.drew := SBx.of h.2

end Go.Proofs.Ytokcknfbanpjjaa.Dk
