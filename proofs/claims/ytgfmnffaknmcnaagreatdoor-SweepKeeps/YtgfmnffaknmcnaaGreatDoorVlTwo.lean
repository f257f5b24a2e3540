/- The walks over vals: Places, Remove. Values and two rows beside them (places, texts): what a law keeps; one more in each. -/
import Derived.Test.YtgfmnffaknmcnaaGreatDoorVlOpen
import Derived.Test.YtgfmnffaknmcnaaGreatDoorGKeep
namespace Go.Proofs.YtgfmnffaknmcnaaGreatDoor.Vl
open Go.RowKit Go.Joins
open Go.Proofs.YtgfmnffaknmcnaaGreatDoor.Dk (Bs Fil Fls St St.Ok Held Only Rising named getL getL_some)

section
variable {w0 w w' : World} {own : Nat → Prop} {bd bv most top : Nat} {S : St}
set_option maxRecDepth 100000 in
theorem Remove_no (h : VH w0 w own bd bv most top S) {z : Int} (hn : hasN (nums S) z = false) :
    Calls Tryz.prog 57 #[.pointer (some ⟨bv, 0, none⟩), .int .i64 z] w fun e w' => e = .returned (.int .i64 110) ∧ Below w.heap.size w w' := by
  have hmf := makeFunc_run
  obtain ⟨w1, hw1⟩ : ∃ w1, w1 = w.alloc (.cells #[.int .i64 0] ErrT) := ⟨_, rfl⟩
  have hb1 : Below w.heap.size w w1 := by rw [hw1]; exact below_alloc1 _ _
  have hEB : w1.heap[w.heap.size]? = some (.cells #[.int .i64 0] ErrT (0, 0)) := by rw [hw1]; exact heap_alloc_new _ _
  have hF := find_any (h.below hb1) z
  rw [if_neg (by simp [hn])] at hF
  clear h hn
  go_enter_defers Tryz.func57, Tryz.ntmps57
  go_wp2_with fail
  rw [← hw1]
  refine hF.mono ?_
  rintro e w2 ⟨rfl, hb2⟩
  have hEB2 := keepBlk hb2 hEB
  have hbl : Below w.heap.size w w2 := hb1.trans (hb2.mono hb1.size)
  refine leaves_cons (f := 97) (args := #[.pointer (some ⟨w.heap.size, 0, none⟩)]) (by simp) (by simp [go_sem]) ?_
  refine (remove_pan ⟨w.heap.size, 0, none⟩ 0 110 [] _ (cell_one hEB2) (unfrozen_of_block hEB2 0)).mono ?_
  rintro e u' w9 ⟨rfl, rfl, rfl⟩
  obtain ⟨f3, f4⟩ := set_one hbl (Nat.le_refl _) hEB2 (.int .i64 110)
  have r0 := cell_one f4
  simp [Leaves, settle, results, Tryz.results57, go_sem, r0]
  exact f3
set_option maxRecDepth 100000 in
set_option maxHeartbeats 3200000 in
theorem Remove_yes (h : VH w0 w own bd bv most top S) {n : Nat} (hn : n ∈ nums S) (hap : (S.remove (nm n)).1 = 0) :
    Calls Tryz.prog 57 #[.pointer (some ⟨bv, 0, none⟩), .int .i64 n] w fun e w' => e = .returned (.int .i64 0) ∧ ∃ own', VH w0 w' own' bd bv most top (S.remove (nm n)).2 ∧ Stp (wi own bv) (wi own' bv) w w' := by
  have hmf := makeFunc_run
  have hb := nums_bound hn
  obtain ⟨w1, hw1⟩ : ∃ w1, w1 = w.alloc (.cells #[.int .i64 0] ErrT) := ⟨_, rfl⟩
  have hb1 : Below w.heap.size w w1 := by rw [hw1]; exact below_alloc1 _ _
  have hz1 : w1.heap.size = w.heap.size + 1 := by rw [hw1]; simp
  have hEB : w1.heap[w.heap.size]? = some (.cells #[.int .i64 0] ErrT (0, 0)) := by rw [hw1]; exact heap_alloc_new _ _
  have hF := find_any (h.below hb1) n
  rw [if_pos (hasN_yes hn)] at hF
  have hnm : ∀ W, Below w.heap.size w W → Calls Tryz.prog 48 #[.int .i64 n] W fun e w' => e = .returned (.string (nt n)) ∧ Below W.heap.size W w' := fun W hb2 => nameOf_any _ (by omega) W (h.below hb2).envW
  have HA : Hid (∀ W, VH w0 W own bd bv most top S → Calls Tryz.prog 99 #[.pointer (some ⟨bd, 0, none⟩), .string (nt n)] W fun e w' => e = .returned (.int .i64 0) ∧ Held w' (plus own W.heap.size) bd (S.remove (nm n)).2 ∧ Only (plus own W.heap.size) W w') := fun W hV => by
    have := Dk.remove_any W (hV.disk.own fun _ _ ho => Or.inl ho) (own := plus own W.heap.size) (nt n) (nt_small (by omega))
    simp only [nt_list] at this
    rw [hap] at this
    exact this
  have HV := hide h
  have hno := h.no
  have hlt := h.lt
  generalize (S.remove (nm n)).2 = S2 at *
  clear h hap hn
  go_enter_defers Tryz.func57, Tryz.ntmps57
  go_wp2_with fail
  rw [← hw1]
  refine hF.mono ?_
  rintro e w3 ⟨rfl, hb3⟩
  have hb13 := hb1.trans (hb3.mono hb1.size)
  have h3 := HV.out.below hb13
  have hc0 := h3.c0
  have hUS : US bv bd w3 := ⟨hc0, h3.lt⟩
  have H3 := hide h3
  have HB13 := hide hb13
  have HB23 := hide hb3
  have hnm2 : ∀ W, Below w3.heap.size w3 W → _ := fun W hb => hnm W (HB13.out.trans (hb.mono HB13.out.size))
  have happ : ∀ W, Below w3.heap.size w3 W → _ := fun W hb => HA.out W (H3.out.below hb)
  have HZ1 := hide hz1
  have HEB1 := hide hEB
  clear hF hnm HA h3 hb1 hb3 hb13 hz1 hw1 hEB
  go_wp2
  go_region_held3 (US bv bd) (first | with_reducible exact US.drew (by assumption) | with_reducible exact US.call (by assumption) (by assumption) | with_reducible exact US.only (by assumption) hno (by assumption) | with_reducible assumption)
    (first | (go_at_call 48; refine (hnm2 _ (by first | exact Below.refl _ _ | exact (Below.refl _ _).drew)).mono ?_; rintro e w4 ⟨rfl, hb4⟩; have HB4 : Hid (Below w3.heap.size w3 w4) := by first | exact hb4 | exact ((Below.refl _ _).drew).trans hb4) | (go_at_call 99; refine (happ _ (by first | exact HB4.out | exact HB4.out.drew)).mono ?_; rintro e w5 ⟨rfl, hH5, hO5⟩) | (go_at_call 45; refine (pass_no _).mono ?_; rintro e w6 ⟨rfl, rfl⟩))
  rename_i hHeld
  have hT := (H3.out.below HB4.out).turn hH5 hO5
  have hold : ¬ own w.heap.size := fun ho => by have := (HV.out.old _ ho).2; omega
  have s3 := HB23.out.size
  have s4 := HB4.out.size
  have z1 := HZ1.out
  have hEB6 : w6.heap[w.heap.size]? = some (.cells #[.int .i64 0] ErrT (0, 0)) := ((hO5.block w.heap.size (by omega) fun e => e.elim hold (by omega)).trans ((HB4.out.block w.heap.size (by omega)).trans (HB23.out.block w.heap.size (by omega)))).trans HEB1.out
  have hO6 : Only (plus (wi own bv) w.heap.size) w w6 := (Only.of_below (HB13.out.trans (HB4.out.mono HB13.out.size))).trans (hT.2.only.mono fun b _ hb => hb.imp id fun h => by have := HB13.out.size; omega)
  have HT := hide hT.1
  have HSUB : Hid (∀ b, wi (fun b => plus own w4.heap.size b ∧ b < w6.heap.size) bv b → wi own bv b ∨ w.heap.size ≤ b) := fun b hb => by
    rcases hb with hb | rfl
    · exact hb.1.imp Or.inl fun h => by omega
    · exact Or.inl (Or.inr rfl)
  have ho6 : ¬ (plus own w4.heap.size w.heap.size ∧ w.heap.size < w6.heap.size) := fun e => e.1.elim hold (by omega)
  have hne : w.heap.size ≠ bv := by omega
  have hg0 := HV.out.base.size
  have e0 := cell_one hEB6
  have e1 := unfrozen_of_block hEB6 0
  clear hHeld hT hH5 hO5 hnm2 happ hUS hc0 hb4 HEB1
  go_wp2
  have d8 : (w6.setCell ⟨w.heap.size, 0, none⟩ (.int .i64 0)).heap[w.heap.size]? = some (.cells #[.int .i64 0] ErrT (0, 0)) := by rw [block_setCell hEB6]; rfl
  have hV8 := HT.out.set ho6 hne hg0 0 (.int .i64 0)
  have hO8 := only_sets hO6 (Or.inr (Nat.le_refl _)) 0 (.int .i64 0)
  generalize w6.setCell ⟨w.heap.size, 0, none⟩ (.int .i64 0) = w8 at *
  refine leaves_cons (f := 97) (args := #[.pointer (some ⟨w.heap.size, 0, none⟩)]) (by simp) (by simp [go_sem]) ?_
  refine (remove_idle ⟨w.heap.size, 0, none⟩ 0 _ (cell_one d8) (unfrozen_of_block d8 0)).mono ?_
  rintro e u' w9 ⟨rfl, rfl, rfl⟩
  have d9 : (w8.setCell ⟨w.heap.size, 0, none⟩ (.int .i64 0)).heap[w.heap.size]? = some (.cells #[.int .i64 0] ErrT (0, 0)) := by rw [block_setCell d8]; rfl
  have hV9 := hV8.set ho6 hne hg0 0 (.int .i64 0)
  have hO9 := only_sets hO8 (Or.inr (Nat.le_refl _)) 0 (.int .i64 0)
  generalize w8.setCell ⟨w.heap.size, 0, none⟩ (.int .i64 0) = w9 at *
  have r0 := cell_one d9
  simp [Leaves, settle, results, Tryz.results57, go_sem, r0]
  exact ⟨_, hV9, HSUB.out, hO9⟩
end

end Go.Proofs.YtgfmnffaknmcnaaGreatDoor.Vl

namespace Go.Proofs.YtgfmnffaknmcnaaGreatDoor.Vl
open Go.RowKit Go.Joins
open Go.Proofs.YtgfmnffaknmcnaaGreatDoor.Dk (Bs Fil Fls St St.Ok Held Only Rising named getL getL_some)

abbrev StrT : TypeId := 9
theorem str_inf : (Tryz.prog.info? StrT).map (fun i => (i.zero, i.size, i.bytes)) = some (some (.string ⟨#[]⟩), 1, 16) := by kernel_rfl
/-- values, their places and texts in two rows of the law's own -/
structure Rws (w0 w : World) (own : Nat → Prop) (bd bv most top : Nat) (S : St) (vA vB : Value) (ps : List (Nat × Nat × Nat)) (ts : List ByteArray) : Prop where
  vh : VH w0 w own bd bv most top S
  rA : w.ownsRow w0.heap.size PlT 3 vA ps.length (Gk.rc plE ps)
  rB : w.ownsRow w0.heap.size StrT 1 vB ts.length (Gk.rc sE ts)
  nA : ∀ g, vA.ownBlock = some g → ¬ wi own bv g
  nB : ∀ g, vB.ownBlock = some g → ¬ wi own bv g
section
variable {w0 w w' : World} {own own' : Nat → Prop} {bd bv bv' most top top' : Nat} {S S' : St} {vA vB : Value} {ps : List (Nat × Nat × Nat)} {ts : List ByteArray}
theorem Rws.below (h : Rws w0 w own bd bv most top S vA vB ps ts) (hb : Below w.heap.size w w') : Rws w0 w' own bd bv most top S vA vB ps ts :=
  ⟨h.vh.below hb, Gk.own_below h.rA hb, Gk.own_below h.rB hb, h.nA, h.nB⟩
theorem Rws.step (h : Rws w0 w own bd bv most top S vA vB ps ts) (hV : VH w0 w' own' bd bv' most top' S') (hs : Stp (wi own bv) (wi own' bv') w w') : Rws w0 w' own' bd bv' most top' S' vA vB ps ts :=
  ⟨hV, (hs.row h.rA h.nA).1, (hs.row h.rB h.nB).1, (hs.row h.rA h.nA).2, (hs.row h.rB h.nB).2⟩
theorem Rws.ne (h : Rws w0 w own bd bv most top S vA vB ps ts) {g : Nat} (hA : vA.ownBlock = some g) : vB.ownBlock ≠ some g := fun hB => by
  rcases h.rA.2 with ⟨rfl, _⟩ | ⟨g1, cap1, cur1, rfl, _, hc1, _⟩
  · simp [Value.ownBlock] at hA
  · simp only [Value.ownBlock, Option.some.injEq] at hA
    subst hA
    exact Gk.own_ne h.rB hc1 (by decide) hB rfl
/-- only a row has grown -/
theorem Rws.grown (h : Rws w0 w own bd bv most top S vA vB ps ts) {o : Option Nat} (hg : w.grownBy w' o) (ho : ∀ g, o = some g → ¬ wi own bv g ∧ w0.heap.size ≤ g) : VH w0 w' own bd bv most top S := by
  have hlt := h.vh.lt
  refine ⟨h.vh.disk.frame fun k hk ho2 => hg.block k hk fun e => (ho k e.symm).1 (Or.inl ho2), fun b hb => ⟨(h.vh.old b hb).1, Nat.lt_of_lt_of_le (h.vh.old b hb).2 hg.size⟩, (hg.block bv hlt fun e => (ho bv e.symm).1 (Or.inr rfl)).trans h.vh.block, h.vh.no, h.vh.ge, h.vh.env, h.vh.base.trans ⟨hg.os, hg.tape, hg.output, hg.size, fun k hk => hg.block k (Nat.lt_of_lt_of_le hk h.vh.base.size) fun e => by have := (ho k e.symm).2; omega⟩⟩
theorem Rws.goA (h : Rws w0 w own bd bv most top S vA vB ps ts) (g : Nat) (hg : vA.ownBlock = some g) : ¬ wi own bv g ∧ w0.heap.size ≤ g := ⟨h.nA g hg, (h.rA.lt g hg).1⟩
theorem Rws.goB (h : Rws w0 w own bd bv most top S vA vB ps ts) (g : Nat) (hg : vB.ownBlock = some g) : ¬ wi own bv g ∧ w0.heap.size ≤ g := ⟨h.nB g hg, (h.rB.lt g hg).1⟩
/-- a block that is new is none of theirs -/
theorem Rws.fresh (h : Rws w0 w own bd bv most top S vA vB ps ts) {g : Nat} (hg : w.heap.size ≤ g) : ¬ wi own bv g := fun e => by
  rcases e with e | e
  · have := (h.vh.old g e).2; omega
  · have := h.vh.lt; omega
/-- one place more; the elder row stays -/
theorem Rws.keepA (h : Rws w0 w own bd bv most top S vA vB ps ts) (hg : w.grownBy w' vA.ownBlock) (hk : w'.ownsRow w0.heap.size PlT 3 vA ps.length (Gk.rc plE ps)) : Rws w0 w' own bd bv most top S vA vB ps ts :=
  ⟨h.grown hg h.goA, hk, Gk.own_stay h.rB fun g hB => hg.block g (h.rB.lt g hB).2 fun e => h.ne e.symm hB, h.nA, h.nB⟩
theorem Rws.keepB (h : Rws w0 w own bd bv most top S vA vB ps ts) (hg : w.grownBy w' vB.ownBlock) (hk : w'.ownsRow w0.heap.size StrT 1 vB ts.length (Gk.rc sE ts)) : Rws w0 w' own bd bv most top S vA vB ps ts :=
  ⟨h.grown hg h.goB, Gk.own_stay h.rA fun g hA => hg.block g (h.rA.lt g hA).2 fun e => h.ne hA e.symm, hk, h.nA, h.nB⟩
end
/-- the cells of a place in its box, and of a text, are there -/
abbrev TS (w0 : World) (own : Nat → Prop) (bd bv most top : Nat) (S : St) (vA vB : Value) (ps : List (Nat × Nat × Nat)) (ts : List ByteArray) (bp : Nat) (p : Nat × Nat × Nat) (tb toff : Nat) (t : ByteArray) (W : World) : Prop :=
  (W.cell? ⟨bp, 0, none⟩ = some (.int .i64 p.1) ∧ W.cell? ⟨bp, 1, none⟩ = some (.int .i64 p.2.1) ∧ W.cell? ⟨bp, 2, none⟩ = some (.int .i64 p.2.2) ∧ W.cell? ⟨tb, toff, none⟩ = some (.string t)) ∧
  Hid (Rws w0 W own bd bv most top S vA vB ps ts ∧ bp < W.heap.size ∧ tb < w0.heap.size ∧ w0.heap.size ≤ bp ∧ (∀ g, vA.ownBlock = some g → g ≠ bp) ∧ (∀ g, vB.ownBlock = some g → g ≠ bp))
section
variable {w0 W W' : World} {own : Nat → Prop} {bd bv most top : Nat} {S : St} {vA vB : Value} {ps : List (Nat × Nat × Nat)} {ts : List ByteArray} {bp : Nat} {p : Nat × Nat × Nat} {tb toff : Nat} {t : ByteArray}
theorem TS.stay (h : TS w0 own bd bv most top S vA vB ps ts bp p tb toff t W) (hR : Rws w0 W' own bd bv most top S vA vB ps ts) (h1 : W'.heap[bp]? = W.heap[bp]?) (h2 : W'.heap[tb]? = W.heap[tb]?) (hz : W.heap.size ≤ W'.heap.size) : TS w0 own bd bv most top S vA vB ps ts bp p tb toff t W' :=
  ⟨⟨(World.cell?_of_block (a := ⟨bp, 0, none⟩) h1).trans h.1.1, (World.cell?_of_block (a := ⟨bp, 1, none⟩) h1).trans h.1.2.1, (World.cell?_of_block (a := ⟨bp, 2, none⟩) h1).trans h.1.2.2.1, (World.cell?_of_block (a := ⟨tb, toff, none⟩) h2).trans h.1.2.2.2⟩, hR, Nat.lt_of_lt_of_le h.2.out.2.1 hz, h.2.out.2.2.1, h.2.out.2.2.2.1, h.2.out.2.2.2.2.1, h.2.out.2.2.2.2.2⟩
theorem TS.call (hb : Below W.heap.size W W') (h : TS w0 own bd bv most top S vA vB ps ts bp p tb toff t W) : TS w0 own bd bv most top S vA vB ps ts bp p tb toff t W' :=
  h.stay (h.2.out.1.below hb) (hb.block bp h.2.out.2.1) (hb.block tb (Nat.lt_of_lt_of_le h.2.out.2.2.1 h.2.out.1.vh.base.size)) hb.size
theorem TS.drew (h : TS w0 own bd bv most top S vA vB ps ts bp p tb toff t W) : TS w0 own bd bv most top S vA vB ps ts bp p tb toff t W.drew := TS.call ((Below.refl _ _).drew) h
theorem TS.alloc (h : TS w0 own bd bv most top S vA vB ps ts bp p tb toff t W) (o : Obj) : TS w0 own bd bv most top S vA vB ps ts bp p tb toff t (W.alloc o) := TS.call (below_alloc1 W o) h
theorem TS.keepA (h : TS w0 own bd bv most top S vA vB ps ts bp p tb toff t W) (hg : W.grownBy W' vA.ownBlock) (hk : W'.ownsRow w0.heap.size PlT 3 vA ps.length (Gk.rc plE ps)) : TS w0 own bd bv most top S vA vB ps ts bp p tb toff t W' :=
  h.stay (h.2.out.1.keepA hg hk) (hg.block bp h.2.out.2.1 fun e => h.2.out.2.2.2.2.1 bp e.symm rfl) (hg.block tb (Nat.lt_of_lt_of_le h.2.out.2.2.1 h.2.out.1.vh.base.size) fun e => by have := (h.2.out.1.rA.lt tb e.symm).1; have := h.2.out.2.2.1; omega) hg.size
theorem TS.keepB (h : TS w0 own bd bv most top S vA vB ps ts bp p tb toff t W) (hg : W.grownBy W' vB.ownBlock) (hk : W'.ownsRow w0.heap.size StrT 1 vB ts.length (Gk.rc sE ts)) : TS w0 own bd bv most top S vA vB ps ts bp p tb toff t W' :=
  h.stay (h.2.out.1.keepB hg hk) (hg.block bp h.2.out.2.1 fun e => h.2.out.2.2.2.2.2 bp e.symm rfl) (hg.block tb (Nat.lt_of_lt_of_le h.2.out.2.2.1 h.2.out.1.vh.base.size) fun e => by have := (h.2.out.1.rB.lt tb e.symm).1; have := h.2.out.2.2.1; omega) hg.size
end
theorem TS.rowA {w0 W : World} {own : Nat → Prop} {bd bv most top : Nat} {S : St} {vA vB : Value} {ps : List (Nat × Nat × Nat)} {ts : List ByteArray} {bp : Nat} {p : Nat × Nat × Nat} {tb toff : Nat} {t : ByteArray} (h : TS w0 own bd bv most top S vA vB ps ts bp p tb toff t W) : W.ownsRow w0.heap.size PlT 3 vA ps.length (Gk.rc plE ps) := h.2.out.1.rA
theorem TS.rowB {w0 W : World} {own : Nat → Prop} {bd bv most top : Nat} {S : St} {vA vB : Value} {ps : List (Nat × Nat × Nat)} {ts : List ByteArray} {bp : Nat} {p : Nat × Nat × Nat} {tb toff : Nat} {t : ByteArray} (h : TS w0 own bd bv most top S vA vB ps ts bp p tb toff t W) : W.ownsRow w0.heap.size StrT 1 vB ts.length (Gk.rc sE ts) := h.2.out.1.rB
theorem TS.base {w0 W : World} {own : Nat → Prop} {bd bv most top : Nat} {S : St} {vA vB : Value} {ps : List (Nat × Nat × Nat)} {ts : List ByteArray} {bp : Nat} {p : Nat × Nat × Nat} {tb toff : Nat} {t : ByteArray} (h : TS w0 own bd bv most top S vA vB ps ts bp p tb toff t W) : w0.heap.size ≤ W.heap.size := h.2.out.1.vh.base.size
theorem keepGr {W W' : World} {o : Option Nat} {k s : Nat} {x : Obj} (hg : W.grownBy W' o) (h : W.heap[k]? = some x) (hn : ∀ g, o = some g → g < s) (hk : s ≤ k) : W'.heap[k]? = some x :=
  (hg.block k (Array.getElem?_eq_some_iff.1 h).1 fun e => by have := hn k e.symm; omega).trans h
theorem rowKeep {W W' : World} {B e k n : Nat} {v u : Value} {xs : List Value} (h : W.ownsRow B e k v n xs) (hg : W.grownBy W' u.ownBlock) (hne : ∀ g, v.ownBlock = some g → u.ownBlock ≠ some g) : W'.ownsRow B e k v n xs :=
  Gk.own_stay h fun g hv => hg.block g (h.lt g hv).2 fun e => hne g hv e.symm
theorem neNew {v v' u : Value} {s s' : Nat} (hat : ∀ g, v'.ownBlock = some g → v.ownBlock = some g ∨ s' ≤ g) (hne : ∀ g, v.ownBlock = some g → u.ownBlock ≠ some g) (hu : ∀ g, u.ownBlock = some g → g < s) (hs : s ≤ s') : ∀ g, v'.ownBlock = some g → u.ownBlock ≠ some g := fun g hg e => by
  rcases hat g hg with h | h
  · exact hne g h e
  · have := hu g e; omega
theorem heap_alloc_two (w : World) (a b : Obj) : ((w.alloc a).alloc b).heap[w.heap.size + 1]? = some b := by
  have h1 := heap_alloc_new (w.alloc a) b
  have h2 : (w.alloc a).heap.size = w.heap.size + 1 := by simp
  rwa [h2] at h1
/-- a row of one, in a block -/
theorem cellsA {W : World} {b : Nat} {p : Nat × Nat × Nat} (h : W.heap[b]? = some (.cells #[.int .i64 p.1, .int .i64 p.2.1, .int .i64 p.2.2] PlT (0, 0))) : ∀ j u, (Gk.rc plE [p])[j]? = some u → W.cell? ⟨b, 0 + j, none⟩ = some u := fun j u hj => by
  rw [Nat.zero_add, cell_of_block h]; simpa [Gk.rc, plE] using hj
theorem cellsB {W : World} {b : Nat} {t : ByteArray} (h : W.heap[b]? = some (.cells #[.string t] StrT (0, 0))) : ∀ j u, (Gk.rc sE [t])[j]? = some u → W.cell? ⟨b, 0 + j, none⟩ = some u := fun j u hj => by
  rw [Nat.zero_add, cell_of_block h]; simpa [Gk.rc, sE] using hj
/-- both rows are longer now -/
theorem Rws.both {w0 w w' : World} {own : Nat → Prop} {bd bv most top : Nat} {S : St} {vA vB vA' vB' : Value} {ps ps' : List (Nat × Nat × Nat)} {ts ts' : List ByteArray} (h : Rws w0 w own bd bv most top S vA vB ps ts) (hV : VH w0 w' own bd bv most top S) (hA : w'.ownsRow w0.heap.size PlT 3 vA' ps'.length (Gk.rc plE ps')) (hB : w'.ownsRow w0.heap.size StrT 1 vB' ts'.length (Gk.rc sE ts')) (gA : ∀ g, vA'.ownBlock = some g → vA.ownBlock = some g ∨ w.heap.size ≤ g) (gB : ∀ g, vB'.ownBlock = some g → vB.ownBlock = some g ∨ w.heap.size ≤ g) : Rws w0 w' own bd bv most top S vA' vB' ps' ts' :=
  ⟨hV, hA, hB, fun g hg => (gA g hg).elim (h.nA g) h.fresh, fun g hg => (gB g hg).elim (h.nB g) h.fresh⟩

end Go.Proofs.YtgfmnffaknmcnaaGreatDoor.Vl
