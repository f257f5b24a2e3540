/- Layer 15: where a disk and a ballot lie, and what stays when something turns. -/
import Derived.Test.YtmpahgklcabihaaGreatBaPure
import Derived.Test.YtmpahgklcabihaaGreatRlSlice
namespace Go.Proofs.YtmpahgklcabihaaGreat.Ba
open Go.RowKit Go.Joins Go.Proofs.YtmpahgklcabihaaGreat.Gk
open Go.Proofs.YtmpahgklcabihaaGreat.Dk (St)
open Go.Proofs.YtmpahgklcabihaaGreat.Rl (En Lo LH ER ptr)

abbrev BalT : TypeId := 111
/-- a disk lies there, with just what it has -/
structure DH (w : World) (bd : Nat) (S : St) (D : Nat → Prop) : Prop where
  held : Dk.Held w D bd S
  lt : ∀ k, D k → k < w.heap.size
/-- nothing but what is owned has turned, and what is owned then was, or is new -/
structure Tu (D D' : Nat → Prop) (w w' : World) : Prop where
  only : Only D w w'
  new : ∀ k, D' k → D k ∨ w.heap.size ≤ k
theorem Tu.refl (D : Nat → Prop) (w : World) : Tu D D w w := ⟨Only.refl _ _, fun _ h => Or.inl h⟩
theorem Tu.trans {D D' D'' : Nat → Prop} {a b c : World} (h : Tu D D' a b) (k : Tu D' D'' b c) : Tu D D'' a c := by
  refine ⟨⟨k.only.os.trans h.only.os, k.only.tape.trans h.only.tape, k.only.output.trans h.only.output, Nat.le_trans h.only.size k.only.size, fun i hi hn => ?_⟩, fun i hi => ?_⟩
  · refine (k.only.block i (Nat.lt_of_lt_of_le hi h.only.size) fun e => ?_).trans (h.only.block i hi hn)
    rcases h.new i e with e | e
    · exact hn e
    · omega
  · rcases k.new i hi with e | e
    · exact h.new i e
    · exact Or.inr (Nat.le_trans h.only.size e)
theorem Tu.of_below {D : Nat → Prop} {w w' : World} (h : Below w.heap.size w w') : Tu D D w w' := ⟨Only.of_below h, fun _ h => Or.inl h⟩
/-- what is not owned stays, and is not owned then -/
theorem Tu.stay {D D' : Nat → Prop} {w w' : World} (h : Tu D D' w w') {k : Nat} (hk : k < w.heap.size) (hn : ¬ D k) : w'.heap[k]? = w.heap[k]? ∧ ¬ D' k :=
  ⟨h.only.block k hk hn, fun e => by rcases h.new k e with e | e; exact hn e; omega⟩
theorem Tu.size {D D' : Nat → Prop} {w w' : World} (h : Tu D D' w w') : w.heap.size ≤ w'.heap.size := h.only.size
/-- all that is owned was made behind a world -/
theorem Tu.below {D D' : Nat → Prop} {w w' : World} (h : Tu D D' w w') {B : Nat} (hB : B ≤ w.heap.size) (hD : ∀ k, D k → B ≤ k) : Below B w w' ∧ ∀ k, D' k → B ≤ k :=
  ⟨Gk.Only.below h.only hB hD, fun k hk => by rcases h.new k hk with e | e; exact hD k e; omega⟩

theorem DH.below {w w' : World} {bd : Nat} {S : St} {D : Nat → Prop} (h : DH w bd S D) (hb : Below w.heap.size w w') : DH w' bd S D :=
  ⟨h.held.below hb, fun k hk => Nat.lt_of_lt_of_le (h.lt k hk) hb.size⟩
/-- something else has turned -/
theorem DH.frame {w w' : World} {bd : Nat} {S : St} {D : Nat → Prop} (h : DH w bd S D) (hz : w.heap.size ≤ w'.heap.size) (hs : ∀ k, D k → w'.heap[k]? = w.heap[k]?) : DH w' bd S D :=
  ⟨h.held.frame fun k _ hk => hs k hk, fun k hk => Nat.lt_of_lt_of_le (h.lt k hk) hz⟩
/-- a call of the disk, given for all that may be owned -/
theorem DH.call {w : World} {bd : Nat} {S S' : St} {D : Nat → Prop} (h : DH w bd S D) {f : Nat} {args : Array Value} {r : Ending}
    (hc : ∀ own : Nat → Prop, (∀ k, k < w.heap.size → own k → D k) → Dk.Held w own bd S → Dk.Fresh own w → Calls Tryz.prog f args w fun e w' => e = r ∧ Dk.Held w' own bd S' ∧ Dk.Only own w w') :
    Calls Tryz.prog f args w fun e w' => e = r ∧ ∃ D', DH w' bd S' D' ∧ Tu D D' w w' := by
  refine (hc (fun k => D k ∨ w.heap.size ≤ k) (fun k hk hd => hd.elim id (fun e => by omega)) (h.held.own fun b _ hb => Or.inl hb) (fun k hk => Or.inr hk)).mono ?_
  rintro e w' ⟨he, h1, h2⟩
  refine ⟨he, fun k => (D k ∨ w.heap.size ≤ k) ∧ k < w'.heap.size, ⟨h1.own fun b hb ho => ⟨ho, hb⟩, fun k hk => hk.2⟩, ⟨⟨h2.os, h2.tape, h2.output, h2.size, fun k hk hn => h2.block k hk ?_⟩, fun k hk => hk.1⟩⟩
  rintro (e | e)
  · exact hn e
  · omega

/-- a ballot lies there -/
structure BH (w : World) (bb bd bl : Nat) (v : Value) (n : Int) (S : St) (s : Bl) (D : Nat → Prop) : Prop where
  box : w.heap[bb]? = some (.cells #[ptr bd, .int .i64 n, .int .i64 s.t, .int .i64 s.v, ptr bl] BalT (0, 0))
  disk : DH w bd S D
  log : LH w bl s.lo v
  nb : ¬ D bb
  nl : ∀ k, Rl.own w bl k → ¬ D k
/-- what is a ballot's own -/
def bo (w : World) (bb bl : Nat) (D : Nat → Prop) : Nat → Prop := fun k => D k ∨ k = bb ∨ Rl.own w bl k
section
variable {w w' : World} {bb bd bl : Nat} {v : Value} {n : Int} {S S' : St} {s s' : Bl} {D D' : Nat → Prop}
theorem BH.lt (h : BH w bb bd bl v n S s D) : bb < w.heap.size := (Array.getElem?_eq_some_iff.1 h.box).1
theorem BH.c (h : BH w bb bd bl v n S s D) : w.cell? ⟨bb, 0, none⟩ = some (ptr bd) ∧ w.cell? ⟨bb, 1, none⟩ = some (.int .i64 n) ∧ w.cell? ⟨bb, 2, none⟩ = some (.int .i64 s.t) ∧ w.cell? ⟨bb, 3, none⟩ = some (.int .i64 s.v) ∧ w.cell? ⟨bb, 4, none⟩ = some (ptr bl) :=
  ⟨cell_of_block h.box 0, cell_of_block h.box 1, cell_of_block h.box 2, cell_of_block h.box 3, cell_of_block h.box 4⟩
theorem BH.fz (h : BH w bb bd bl v n S s D) (j : Nat) : w.frozen? ⟨bb, j, none⟩ = false := unfrozen_of_block h.box j
theorem BH.nbl (h : BH w bb bd bl v n S s D) : ¬ Rl.own w bl bb := by
  rintro (e | e)
  · have := h.box; rw [e, h.log.box] at this; cases this
  · rw [h.log.lbk] at e
    exact h.log.row.ne h.box (by decide) e rfl
theorem BH.below (h : BH w bb bd bl v n S s D) (hb : Below w.heap.size w w') : BH w' bb bd bl v n S s D ∧ bo w' bb bl D = bo w bb bl D := by
  have e := Rl.own_same (bl := bl) (hb.block bl h.log.lt)
  refine ⟨⟨(hb.block bb h.lt).trans h.box, h.disk.below hb, h.log.below hb, h.nb, fun k hk => h.nl k (by rw [← e]; exact hk)⟩, ?_⟩
  unfold bo; rw [e]
theorem BH.bolt (h : BH w bb bd bl v n S s D) {k : Nat} (hk : bo w bb bl D k) : k < w.heap.size := by
  rcases hk with e | rfl | e
  · exact h.disk.lt k e
  · exact h.lt
  · exact h.log.ownlt e
/-- the disk has turned -/
theorem BH.turnD (h : BH w bb bd bl v n S s D) (hd : DH w' bd S' D') (ht : Tu D D' w w') : BH w' bb bd bl v n S' s D' ∧ Tu (bo w bb bl D) (bo w' bb bl D') w w' := by
  have hb := ht.stay h.lt h.nb
  have hl : ∀ k, Rl.own w bl k → w'.heap[k]? = w.heap[k]? := fun k hk => (ht.stay (h.log.ownlt hk) (h.nl k hk)).1
  have e := Rl.own_same (bl := bl) (hl bl (Or.inl rfl))
  refine ⟨⟨hb.1.trans h.box, hd, h.log.stay hl, hb.2, fun k hk => ?_⟩, ⟨ht.only.mono fun _ _ h => Or.inl h, fun k hk => ?_⟩⟩
  · rw [e] at hk; exact (ht.stay (h.log.ownlt hk) (h.nl k hk)).2
  · rcases hk with hk | hk | hk
    · rcases ht.new k hk with h | h
      · exact Or.inl (Or.inl h)
      · exact Or.inr h
    · exact Or.inl (Or.inr (Or.inl hk))
    · rw [e] at hk; exact Or.inl (Or.inr (Or.inr hk))
/-- the log has turned -/
theorem BH.turnL (h : BH w bb bd bl v n S s D) {v' : Value} {es : List En} (hl : LH w' bl ⟨0, 0, es⟩ v') (ht : Rl.Tn bl w w') : BH w' bb bd bl v' n S ⟨s.t, s.v, es⟩ D ∧ Tu (bo w bb bl D) (bo w' bb bl D) w w' := by
  have hnew : ∀ k, Rl.own w' bl k → Rl.own w bl k ∨ w.heap.size ≤ k := fun k hk => by
    rcases hk with rfl | e
    · exact Or.inl (Or.inl rfl)
    · rcases ht.new k e with e | e
      · exact Or.inl (Or.inr e)
      · exact Or.inr e
  refine ⟨⟨(ht.only.block bb h.lt h.nbl).trans h.box, h.disk.frame ht.only.size fun k hk => ht.only.block k (h.disk.lt k hk) fun e => h.nl k e hk, hl, h.nb, fun k hk hd => ?_⟩, ⟨ht.only.mono fun _ _ h => Or.inr (Or.inr h), fun k hk => ?_⟩⟩
  · rcases hnew k hk with e | e
    · exact h.nl k e hd
    · have := h.disk.lt k hd; omega
  · rcases hk with hk | hk | hk
    · exact Or.inl (Or.inl hk)
    · exact Or.inl (Or.inr (Or.inl hk))
    · rcases hnew k hk with e | e
      · exact Or.inl (Or.inr (Or.inr e))
      · exact Or.inr e
/-- the term and the vote are others -/
theorem BH.stand (h : BH w bb bd bl v n S s D) (t' v' : Int) : BH ((w.setCell ⟨bb, 2, none⟩ (.int .i64 t')).setCell ⟨bb, 3, none⟩ (.int .i64 v')) bb bd bl v n S ⟨t', v', s.es⟩ D ∧
    Tu (bo w bb bl D) (bo ((w.setCell ⟨bb, 2, none⟩ (.int .i64 t')).setCell ⟨bb, 3, none⟩ (.int .i64 v')) bb bl D) w ((w.setCell ⟨bb, 2, none⟩ (.int .i64 t')).setCell ⟨bb, 3, none⟩ (.int .i64 v')) := by
  have hk : ∀ k, k ≠ bb → ((w.setCell ⟨bb, 2, none⟩ (.int .i64 t')).setCell ⟨bb, 3, none⟩ (.int .i64 v')).heap[k]? = w.heap[k]? := fun k hk => by
    rw [Below.heap_setCell _ ⟨bb, 3, none⟩ _ k hk, Below.heap_setCell _ ⟨bb, 2, none⟩ _ k hk]
  have hl : ∀ k, Rl.own w bl k → k ≠ bb := fun k hk e => h.nbl (e ▸ hk)
  have e := Rl.own_same (bl := bl) (hk bl (hl bl (Or.inl rfl)))
  refine ⟨⟨by rw [block_setCell (block_setCell h.box _) _]; rfl, h.disk.frame (by simp) fun k hd => hk k fun e => h.nb (e ▸ hd), h.log.stay fun k ho => hk k (hl k ho), h.nb, fun k ho => h.nl k (by rw [← e]; exact ho)⟩,
    ⟨⟨rfl, rfl, rfl, by simp, fun k _ hn => hk k fun e => hn (Or.inr (Or.inl e))⟩, fun k hd => ?_⟩⟩
  refine Or.inl ?_
  unfold bo at hd ⊢; rwa [e] at hd
/-- another log, made since -/
theorem BH.log' (h : BH w bb bd bl v n S s D) {w1 : World} {bl' : Nat} {v' : Value} {es : List En} (hb : Below w.heap.size w w1) (hl : LH w1 bl' ⟨0, 0, es⟩ v') (hnew : ∀ k, Rl.own w1 bl' k → w.heap.size ≤ k) :
    BH (w1.setCell ⟨bb, 4, none⟩ (ptr bl')) bb bd bl' v' n S ⟨s.t, s.v, es⟩ D ∧ Tu (bo w bb bl D) (bo (w1.setCell ⟨bb, 4, none⟩ (ptr bl')) bb bl' D) w (w1.setCell ⟨bb, 4, none⟩ (ptr bl')) := by
  have hlt := h.lt
  have hk : ∀ k, k ≠ bb → (w1.setCell ⟨bb, 4, none⟩ (ptr bl')).heap[k]? = w1.heap[k]? := fun k hk => Below.heap_setCell _ ⟨bb, 4, none⟩ _ k hk
  have hl2 : ∀ k, Rl.own w1 bl' k → k ≠ bb := fun k ho e => by have := hnew k ho; omega
  have e := Rl.own_same (bl := bl') (hk bl' (hl2 bl' (Or.inl rfl)))
  have hb1 := (hb.block bb hlt).trans h.box
  refine ⟨⟨by rw [block_setCell hb1 _]; rfl, (h.disk.below hb).frame (by simp) fun k hd => hk k fun e => h.nb (e ▸ hd), hl.stay fun k ho => hk k (hl2 k ho), h.nb, fun k ho hd => ?_⟩,
    ⟨⟨hb.os, hb.tape, hb.output, by simpa using hb.size, fun k hk2 hn => (hk k fun e => hn (Or.inr (Or.inl e))).trans (hb.block k hk2)⟩, fun k hd => ?_⟩⟩
  · rw [e] at ho; have := hnew k ho; have := h.disk.lt k hd; omega
  · rcases hd with hd | hd | hd
    · exact Or.inl (Or.inl hd)
    · exact Or.inl (Or.inr (Or.inl hd))
    · rw [e] at hd; exact Or.inr (hnew k hd)
end
/-- .. of whatever log -/
def BB (w : World) (bb bd : Nat) (n : Int) (S : St) (s : Bl) (X : Nat → Prop) : Prop := ∃ bl v D, BH w bb bd bl v n S s D ∧ X = bo w bb bl D
theorem BH.pack {w : World} {bb bd bl : Nat} {v : Value} {n : Int} {S : St} {s : Bl} {D : Nat → Prop} (h : BH w bb bd bl v n S s D) : BB w bb bd n S s (bo w bb bl D) := ⟨bl, v, D, h, rfl⟩
section
variable {w w' : World} {bb bd : Nat} {n : Int} {S S' : St} {s : Bl} {X : Nat → Prop}
theorem BB.below (h : BB w bb bd n S s X) (hb : Below w.heap.size w w') : BB w' bb bd n S s X := by
  obtain ⟨bl, v, D, h, rfl⟩ := h
  obtain ⟨h1, h2⟩ := h.below hb
  exact ⟨bl, v, D, h1, h2.symm⟩
theorem BB.lt (h : BB w bb bd n S s X) {k : Nat} (hk : X k) : k < w.heap.size := by
  obtain ⟨bl, v, D, h, rfl⟩ := h; exact h.bolt hk
theorem BB.blt (h : BB w bb bd n S s X) : bb < w.heap.size := by obtain ⟨bl, v, D, h, rfl⟩ := h; exact h.lt
theorem BB.ok (h : BB w bb bd n S s X) : S.Ok := by obtain ⟨bl, v, D, h, rfl⟩ := h; exact h.disk.held.ok
/-- a call of the disk, of one who has a ballot too -/
theorem BB.call (h : BB w bb bd n S s X) {f : Nat} {args : Array Value} {r : Ending}
    (hc : ∀ own : Nat → Prop, (∀ k, k < w.heap.size → own k → X k) → Dk.Held w own bd S → Dk.Fresh own w → Calls Tryz.prog f args w fun e w' => e = r ∧ Dk.Held w' own bd S' ∧ Dk.Only own w w') :
    Calls Tryz.prog f args w fun e w' => e = r ∧ ∃ X', BB w' bb bd n S' s X' ∧ Tu X X' w w' := by
  obtain ⟨bl, v, D, h, rfl⟩ := h
  refine (h.disk.call fun own h1 h2 h3 => hc own (fun k hk ho => Or.inl (h1 k hk ho)) h2 h3).mono ?_
  rintro e w' ⟨he, D', h1, h2⟩
  obtain ⟨h3, h4⟩ := h.turnD h1 h2
  exact ⟨he, _, h3.pack, h4⟩
/-- the disk alone: a ballot that is not asked any more -/
theorem BB.disk (h : BB w bb bd n S s X) : ∃ D, DH w bd S D ∧ ∀ k, D k → X k := by
  obtain ⟨bl, v, D, h, rfl⟩ := h
  exact ⟨D, h.disk, fun _ h => Or.inl h⟩
end

/-! a term that may be -/
theorem isTerm_yes (t : Int) (w : World) (h0 : 1 ≤ t) (h1 : t ≤ 1073741824) : Calls Tryz.prog 123 #[.int .i64 t] w fun e w' => e = .returned (.bool true) ∧ w' = w := by
  go_enter Tryz.func123, Tryz.ntmps123
  go_wp2
  go_ret
  exact ⟨rfl, rfl⟩
theorem isTerm_low (t : Int) (w : World) (h0 : t < 1) : Calls Tryz.prog 123 #[.int .i64 t] w fun e w' => e = .returned (.bool false) ∧ w' = w := by
  have h1 : ¬ 1 ≤ t := by omega
  go_enter Tryz.func123, Tryz.ntmps123
  go_wp2
  go_ret
  exact ⟨rfl, rfl⟩
theorem isTerm_high (t : Int) (w : World) (h0 : 1073741824 < t) : Calls Tryz.prog 123 #[.int .i64 t] w fun e w' => e = .returned (.bool false) ∧ w' = w := by
  have h1 : 1 ≤ t := by omega
  have h2 : ¬ t ≤ 1073741824 := by omega
  go_enter Tryz.func123, Tryz.ntmps123
  go_wp2
  go_ret
  exact ⟨rfl, rfl⟩

end Go.Proofs.YtmpahgklcabihaaGreat.Ba
