/- Walks over rule.go: kept. -/
import Derived.Test.YtolgpdjimfodkaaSpRule
import Derived.Test.YtolgpdjimfodkaaSpTurn
namespace Go.Proofs.Ytolgpdjimfodkaa.Sp
open Go.RowKit Go.Joins Gk

abbrev RuT : TypeId := 43
abbrev DpT : TypeId := 61
abbrev noE : Value := .agg #[.string ⟨#[]⟩, .int .i64 0, .int .i64 0]

/-- a new row of ends -/
theorem make_ends (n : Nat) (hn : n ≤ 1000000) : ∃ M : Array Value, (∀ W : World, (Instr.makeSlice 54 (.int .i64 0) (.int .i64 (n : Int))).run Try.prog W = .ok (.slice (some ⟨W.heap.size, 0, none⟩) 0 n) (W.alloc (.cells M EnT))) ∧ ∀ W : World, (W.alloc (.cells M EnT)).ownsRow W.heap.size EnT 3 (.slice (some ⟨W.heap.size, 0, none⟩) 0 n) ([] : List En).length (rc nenc []) := by
  obtain ⟨i0, hi, hz0, hz1, hz2⟩ := info_parts en_info
  refine ⟨madeCells noE.cells (n * i0.size), fun W => ?_, fun W => ?_⟩
  · have h := run_make (P := Try.prog) W 54 EnT i0 noE Try.underlying54 hi hz0 .i64 .i64 (0 : Int) (n : Int) (by omega) (by omega) (by rw [hz2]; omega) (by omega)
    simpa using h
  · refine World.ownsRow_made W _ n (Nat.le_refl _) (by unfold maxLen; omega) ?_
    rw [size_madeCells, hz1]

theorem byPlace_below (x y : En) (W : World) : Calls Try.prog 35 #[nval x, nval y] W fun e w' => e = .returned (.int .i64 (cmpE x y)) ∧ Below W.heap.size W w' :=
  (byPlace_any x y W).mono fun _ _ ⟨he, q, os, hw⟩ => ⟨he, by
    subst hw
    refine ⟨rfl, rfl, rfl, by simp [World.drewN], fun k hk => ?_⟩
    rw [Go.Sort.heap_grow_old _ _ (by simpa [World.drewN] using hk)]
    rfl⟩
theorem sweep_cons (K : Bool → Bool → Bool) (x : En) (r : List En) (d0 d1 : Int) (w : Wr) : sweep K (x :: r) d0 d1 w = sweep K r (d0 + if x.ls = 0 then x.st else 0) (d1 + if x.ls = 1 then x.st else 0) (if sameNext x r then w else w.turn (K (decide (0 < d0 + if x.ls = 0 then x.st else 0)) (decide (0 < d1 + if x.ls = 1 then x.st else 0))) x.pl) := rfl
theorem turn_len (X : Wr) (k : Bool) (p : ByteArray) : (X.turn k p).out.length ≤ X.out.length + 1 := by
  unfold Wr.turn
  split
  · omega
  · split
    · simp
    · simp
theorem turn_fr (X : Wr) (k : Bool) (p : ByteArray) (hf : X.fr.size ≤ 64) (hp : p.size ≤ 64) : (X.turn k p).fr.size ≤ 64 := by
  unfold Wr.turn
  split
  · exact hf
  · split
    · exact hp
    · exact hf

/-- a function of the rule, and two ends that are held against each other -/
abbrev SC (w : World) (r a b o : Nat) (f u0 u1 u2 v0 v1 v2 : Value) (W : World) : Prop :=
  W.cell? ⟨r, 0, none⟩ = some f ∧ W.cell? ⟨a, 0, none⟩ = some u0 ∧ W.cell? ⟨a, 1, none⟩ = some u1 ∧ W.cell? ⟨a, 2, none⟩ = some u2 ∧ W.cell? ⟨b, o, none⟩ = some v0 ∧ W.cell? ⟨b, o + 1, none⟩ = some v1 ∧ W.cell? ⟨b, o + 2, none⟩ = some v2 ∧ Below w.heap.size w W
section
variable {w : World} {r a b o : Nat} {f u0 u1 u2 v0 v1 v2 : Value} {A C : World}
theorem SC.drew (h : SC w r a b o f u0 u1 u2 v0 v1 v2 A) : SC w r a b o f u0 u1 u2 v0 v1 v2 A.drew := ⟨h.1, h.2.1, h.2.2.1, h.2.2.2.1, h.2.2.2.2.1, h.2.2.2.2.2.1, h.2.2.2.2.2.2.1, h.2.2.2.2.2.2.2.drew⟩
theorem SC.call (hr : r < w.heap.size) (ha : a < w.heap.size) (hb : b < w.heap.size) (hc : Below A.heap.size A C) (h : SC w r a b o f u0 u1 u2 v0 v1 v2 A) : SC w r a b o f u0 u1 u2 v0 v1 v2 C := by
  obtain ⟨h1, h2, h3, h4, h5, h6, h7, h8⟩ := h
  have hz := h8.size
  have k : ∀ (p : Addr), p.block < w.heap.size → C.cell? p = A.cell? p := fun p hp => hc.cell (Nat.lt_of_lt_of_le hp hz)
  exact ⟨(k _ hr).trans h1, (k _ ha).trans h2, (k _ ha).trans h3, (k _ ha).trans h4, (k _ hb).trans h5, (k _ hb).trans h6, (k _ hb).trans h7, h8.trans (hc.mono hz)⟩
end

/-- what a turn looks at -/
abbrev SD (r c a : Nat) (f u0 u1 p : Value) (W : World) : Prop :=
  W.cell? ⟨r, 1, none⟩ = some f ∧ W.cell? ⟨c, 0, none⟩ = some u0 ∧ W.cell? ⟨c, 1, none⟩ = some u1 ∧ W.cell? ⟨a, 0, none⟩ = some p ∧ (r < W.heap.size ∧ c < W.heap.size ∧ a < W.heap.size)
section
variable {r c a : Nat} {f u0 u1 p : Value} {A C : World} {own : Nat → Prop}
theorem SD.drew (h : SD r c a f u0 u1 p A) : SD r c a f u0 u1 p A.drew := h
theorem SD.only (hr : ¬ own r) (hc : ¬ own c) (ha : ¬ own a) (ho : Only own A C) (h : SD r c a f u0 u1 p A) : SD r c a f u0 u1 p C := by
  obtain ⟨h1, h2, h3, h4, z1, z2, z3⟩ := h
  have hz := ho.size
  have k : ∀ (q : Addr), q.block < A.heap.size → ¬ own q.block → C.cell? q = A.cell? q := fun q hq hn => World.cell?_of_block (w := A) (ho.block q.block hq hn)
  exact ⟨(k _ z1 hr).trans h1, (k _ z2 hc).trans h2, (k _ z2 hc).trans h3, (k _ z3 ha).trans h4, by omega, by omega, by omega⟩
end

set_option maxHeartbeats 6400000 in
set_option maxRecDepth 100000 in
theorem kept_any {g : Nat} {K : Bool → Bool → Bool} (hK : Keeps g K) (h0 : K false false = false) (a b : Option Addr) (ca cb : Nat) (la lb : List Sp) (w : World) (hla : Lies w senc a la) (hlb : Lies w senc b lb) (hma : MayL la) (hmb : MayL lb) (hn : la.length + lb.length ≤ 10000) :
    Calls Try.prog 34 #[rval g, .slice a la.length ca, .slice b lb.length cb] w fun e w' => ∃ v', e = .returned v' ∧ w'.ownsRow w.heap.size SpT 2 v' (nrm K la lb).length (rc senc (nrm K la lb)) ∧ Below w.heap.size w w' := by
  obtain ⟨M, hmk, hM⟩ := make_ends (2 * (la.length + lb.length)) (by omega)
  rw [show ((2 * (la.length + lb.length) : Nat) : Int) = 2 * ((la.length : Int) + (lb.length : Int)) by omega] at hmk
  have hb1 := below_alloc1 w (.cells #[.func (.func 35) #[] #[], .func (.func g) #[] #[]] RuT)
  have hR1 := heap_alloc_new w (.cells #[.func (.func 35) #[] #[], .func (.func g) #[] #[]] RuT)
  go_enter Try.func34, Try.ntmps34
  obtain ⟨w1, hw1⟩ : ∃ w1, w1 = w.alloc (.cells #[.func (.func 35) #[] #[], .func (.func g) #[] #[]] RuT) := ⟨_, rfl⟩
  rw [← hw1] at hb1 hR1
  have hs1 : w1.heap.size = w.heap.size + 1 := by rw [hw1]; simp
  have hA := fun v W (hr : W.ownsRow w1.heap.size EnT 3 v ([] : List En).length (rc nenc [])) (hb : Below w1.heap.size w1 W) => addEnds_any w1 v [] a ca la 0 W hr (hla.below hb1) hb (by simp; omega)
  have hA' := hA _ _ (hM w1) (below_alloc1 w1 _)
  simp only [List.nil_append] at hA'
  have hA1 : Calls Try.prog 42 #[.slice (some ⟨w.heap.size + 1, 0, none⟩) 0 (2 * (la.length + lb.length)), .slice a la.length ca, .int .i64 0] (w1.alloc (.cells M EnT)) fun e w' => ∃ v', e = .returned v' ∧ w'.ownsRow w1.heap.size EnT 3 v' (endsOf 0 la).length (rc nenc (endsOf 0 la)) ∧ Below w1.heap.size w1 w' := by rw [← hs1]; exact hA'
  have HB := hide (hlb.below hb1)
  have hlen0 := endsOf_len 0 la
  have hlen1 := endsOf_len 1 lb
  clear hA hA' hM hla hlb
  go_wp2_with (first | rw [← hw1])
  refine hA1.mono ?_
  rintro e w2 ⟨v2, rfl, hr2, hb2⟩
  clear hA1 hmk
  have hA2 := addEnds_any w1 v2 (endsOf 0 la) b cb lb 1 w2 hr2 HB.out hb2 (by omega)
  rw [show endsOf 0 la ++ endsOf 1 lb = allEnds la lb from rfl] at hA2
  clear hr2
  go_wp2_with fail
  refine hA2.mono ?_
  rintro e w3 ⟨v3, rfl, hr3, hb3⟩
  clear hA2 hb2 HB
  have hlen : (allEnds la lb).length ≤ 20000 := by rw [allEnds, List.length_append]; omega
  have hS := sort_any w3 hr3 hb3.size (by omega)
  have k0 : w3.cell? ⟨w.heap.size, 0, none⟩ = some (.func (.func 35) #[] #[]) := (hb3.cell (p := ⟨w.heap.size, 0, none⟩) (by show w.heap.size < w1.heap.size; omega)).trans (by rw [cell_of_block hR1]; rfl)
  clear hr3
  go_wp2_with fail
  refine hS.mono ?_
  rintro e w4 ⟨rfl, E, aE, cE, rfl, hp, hs, hl4, hb34, hz4⟩
  have hb4 : Below w1.heap.size w1 w4 := hb3.trans hb34
  clear hS hb3 hb34 hz4 k0
  have hEl : E.length ≤ 20000 := by rw [hp.length_eq]; exact hlen
  have hEm : ∀ x ∈ E, x.pl.size ≤ 64 ∧ (x.ls = 0 ∨ x.ls = 1) ∧ (x.st = 1 ∨ x.st = -1) := fun x hx => allEnds_pl hma hmb x (hp.mem_iff.1 hx)
  have hR4 : w4.heap[w.heap.size]? = some (.cells #[.func (.func 35) #[] #[], .func (.func g) #[] #[]] RuT (0, 0)) := (hb4.block _ (by omega)).trans hR1
  have hlt4 : w.heap.size < w4.heap.size := by have := hb4.size; omega
  have HF := hide (And.intro hp (And.intro hs (And.intro hma (And.intro hmb h0))))
  have hbw4 : Below w.heap.size w w4 := hb1.trans (hb4.mono (by omega))
  clear hp hs hma hmb h0 hlen hlen0 hlen1 hR1 hb1 hw1 hs1 hn hb4
  go_wp2
  go_loopw [30] (fun i wr => ∃ (k : Nat) (d0 d1 : Int) (v : Value) (X : Wr), k ≤ E.length ∧ i = .int .i64 k ∧ Below w4.heap.size w4 wr ∧ wr.heap[w4.heap.size + 1]? = some (.cells #[.int .i64 d0, .int .i64 d1] DpT (0, 0)) ∧ WHeldV wr w4.heap.size w4.heap.size v X ∧ (-(k : Int) ≤ d0 ∧ d0 ≤ k ∧ -(k : Int) ≤ d1 ∧ d1 ≤ k) ∧ X.fr.size ≤ 64 ∧ X.out.length ≤ k ∧ Hid (sweep K (E.drop k) d0 d1 X = sweep K E 0 0 Wr.zero)) (fun i _ => E.length - (intOf i).toNat)
  case atStart =>
    refine ⟨0, 0, 0, .slice none 0 0, Wr.zero, Nat.zero_le _, rfl, ((Below.refl _ _).alloc (Nat.le_refl _) _).alloc (by simp) _, ?_, ⟨?_, ?_, Nat.le_refl _⟩, by omega, by show nix.size ≤ 64; decide, by simp [Wr.zero], rfl⟩
    · have := heap_alloc_new (w4.alloc (.cells #[.slice none 0 0, .bool false, .string ⟨#[]⟩] WrT)) (.cells #[.int .i64 0, .int .i64 0] DpT)
      simpa using this
    · exact ((below_alloc1 (w4.alloc (.cells #[.slice none 0 0, .bool false, .string ⟨#[]⟩] WrT)) _).block _ (by simp)).trans (heap_alloc_new w4 _)
    · exact World.ownsRow_nil _ _ _ _
  case round =>
    obtain ⟨k, d0, d1, v, X, hk, rfl, hbel, hD, hX, ⟨e1, e2, e3, e4⟩, hf, hol, HS⟩ := hrel
    by_cases hlt : k < E.length
    · obtain ⟨bE, off, rfl, hbl, hc⟩ := (hl4.below hbel).at nenc_len k hlt
      have hbE : bE < w4.heap.size := by
        rcases hl4 with h | ⟨b1, o1, h1, h2, _⟩
        · subst h; simp at hlt
        · cases h1; exact h2
      have i1 : (0 : Int) ≤ (k : Int) := by omega
      have i2 : (k : Int) < (E.length : Int) := by omega
      have c0 := hc 0 _ rfl
      have c1 := hc 1 _ rfl
      have c2 := hc 2 _ rfl
      rw [Nat.add_zero] at c0
      obtain ⟨m1, m2, m3⟩ := hEm E[k] (List.getElem_mem hlt)
      have hdrop : E.drop k = E[k] :: E.drop (k + 1) := List.drop_eq_getElem_cons hlt
      have HN : Hid (∀ h : k + 1 < E.length, sameNext E[k] (E.drop (k + 1)) = decide (E[k].pl = E[k + 1].pl)) := hide fun h => by rw [List.drop_eq_getElem_cons h]; rfl
      have HNN : Hid (¬ k + 1 < E.length → sameNext E[k] (E.drop (k + 1)) = false) := hide fun h => by rw [List.drop_eq_nil_of_le (by omega)]; rfl
      rw [hdrop] at HS
      clear hc hdrop
      obtain ⟨x, hx⟩ : ∃ x, E[k] = x := ⟨_, rfl⟩
      rw [hx] at c0 c1 c2 m1 m2 m3 HS HN HNN
      clear hx
      obtain ⟨j, hj, hj2⟩ : ∃ j : Nat, x.ls = (j : Int) ∧ j < 2 := by
        rcases m2 with h | h
        · exact ⟨0, h, by omega⟩
        · exact ⟨1, h, by omega⟩
      have hst : -1 ≤ x.st ∧ x.st ≤ 1 := by rcases m3 with h | h <;> omega
      rw [hj] at c1
      have hdc : wr.cell? ⟨w4.heap.size + 1, j, none⟩ = some (.int .i64 (if j = 0 then d0 else d1)) := by
        rw [cell_of_block hD]
        rcases (show j = 0 ∨ j = 1 by omega) with h | h <;> subst h <;> rfl
      have hdz := unfrozen_of_block hD j
      have hdl : w4.heap.size + 1 < wr.heap.size := (Array.getElem?_eq_some_iff.1 hD).1
      have hdb : -(k : Int) ≤ (if j = 0 then d0 else d1) ∧ (if j = 0 then d0 else d1) ≤ k := by split <;> omega
      have j0 : (0 : Int) ≤ (j : Int) := by omega
      have j2 : (j : Int) < 2 := by omega
      generalize hdj : (if j = 0 then d0 else d1) = dj at hdc hdb
      have hXA := hX.below (below_alloc1 wr (.cells #[.string x.pl, .int .i64 (j : Int), .int .i64 x.st] EnT))
      have hbA := hbel.trans ((below_alloc1 wr (.cells #[.string x.pl, .int .i64 (j : Int), .int .i64 x.st] EnT)).mono hbel.size)
      have hDA := ((below_alloc1 wr (.cells #[.string x.pl, .int .i64 (j : Int), .int .i64 x.st] EnT)).block _ hdl).trans hD
      have hBA := heap_alloc_new wr (.cells #[.string x.pl, .int .i64 (j : Int), .int .i64 x.st] EnT)
      have hzA : (wr.alloc (.cells #[.string x.pl, .int .i64 (j : Int), .int .i64 x.st] EnT)).heap.size = wr.heap.size + 1 := by simp
      obtain ⟨wA, hwA⟩ : ∃ wA, wA = wr.alloc (.cells #[.string x.pl, .int .i64 (j : Int), .int .i64 x.st] EnT) := ⟨_, rfl⟩
      rw [← hwA] at hXA hbA hDA hBA hzA
      have hd' : wA.cell? ⟨w4.heap.size + 1, j, none⟩ = some (.int .i64 dj) := (World.cell?_of_block (a := ⟨w4.heap.size + 1, j, none⟩) (hDA.trans hD.symm)).trans hdc
      have hz' := unfrozen_of_block hDA j
      have b0 : wA.cell? ⟨wr.heap.size, 0, none⟩ = some (.string x.pl) := by rw [cell_of_block hBA]; rfl
      have b1 : wA.cell? ⟨wr.heap.size, 1, none⟩ = some (.int .i64 (j : Int)) := by rw [cell_of_block hBA]; rfl
      have b2 : wA.cell? ⟨wr.heap.size, 2, none⟩ = some (.int .i64 x.st) := by rw [cell_of_block hBA]; rfl
      have HP := hide (And.intro hXA (And.intro hbA (And.intro hDA hBA)))
      have hnb : w4.heap.size + 1 ≠ wr.heap.size := by omega
      have hE := hl4
      have HL := hide hl4
      clear hXA hbA hDA hBA hD hX hbel hE hl4 hdc hdz
      go_wp2_with fail
      rw [show (58 : Nat) = EnT from rfl, ← hwA]
      clear hwA
      refine (fun (hmain : Hid ?finNine) => ?step) ?main
      case step =>
        go_region_law (fail)
        all_goals exact hmain.out
      refine hide ?_
      have hwrap : IntKind.i64.wrap (dj + x.st) = dj + x.st := by simp [IntKind.wrap, IntKind.bits, IntKind.signed]; omega
      rw [hwrap]
      obtain ⟨D0, hD0⟩ : ∃ D0, D0 = d0 + (if x.ls = 0 then x.st else 0) := ⟨_, rfl⟩
      obtain ⟨D1, hD1⟩ : ∃ D1, D1 = d1 + (if x.ls = 1 then x.st else 0) := ⟨_, rfl⟩
      have f1 : -((k : Int) + 1) ≤ D0 ∧ D0 ≤ k + 1 := by rw [hD0]; split <;> omega
      have f2 : -((k : Int) + 1) ≤ D1 ∧ D1 ≤ k + 1 := by rw [hD1]; split <;> omega
      obtain ⟨wB, hwB⟩ : ∃ wB, wB = (wA.setCell ⟨w4.heap.size + 1, j, none⟩ (.int .i64 (dj + x.st))).drew := ⟨_, rfl⟩
      have hblkB : ∀ q, q ≠ w4.heap.size + 1 → wB.heap[q]? = wA.heap[q]? := fun q hq => by rw [hwB]; exact Below.heap_setCell wA ⟨w4.heap.size + 1, j, none⟩ _ q hq
      have hXB : WHeldV wB w4.heap.size w4.heap.size v X := ⟨(hblkB _ (by omega)).trans HP.out.1.blk, own_stay HP.out.1.row fun q hq => hblkB q (own_ne HP.out.1.row HP.out.2.2.1 (by decide) hq), Nat.le_refl _⟩
      have hbB : Below w4.heap.size w4 wB := by rw [hwB]; exact (HP.out.2.1.setCell (by show w4.heap.size ≤ w4.heap.size + 1; omega) _).drew
      have hDB : wB.heap[w4.heap.size + 1]? = some (.cells #[.int .i64 D0, .int .i64 D1] DpT (0, 0)) := by
        have h1 : wB.heap[w4.heap.size + 1]? = some (.cells (#[.int .i64 d0, .int .i64 d1].setIfInBounds j (.int .i64 (dj + x.st))) DpT (0, 0)) := by rw [hwB]; exact block_setCell HP.out.2.2.1 _
        rw [h1, hD0, hD1, ← hdj, hj]
        rcases (show j = 0 ∨ j = 1 by omega) with h | h <;> subst h <;> simp
      have hBB := (hblkB wr.heap.size (by omega)).trans HP.out.2.2.2
      have hzB : wB.heap.size = wr.heap.size + 1 := by rw [hwB]; simpa using hzA
      rw [← hwB]
      have hxv : (.agg #[.string x.pl, .int .i64 (j : Int), .int .i64 x.st] : Value) = nval x := by rw [← hj]
      have a0 : wB.cell? ⟨wr.heap.size, 0, none⟩ = some (.string x.pl) := by rw [cell_of_block hBB]; rfl
      have a1 : wB.cell? ⟨wr.heap.size, 1, none⟩ = some (.int .i64 (j : Int)) := by rw [cell_of_block hBB]; rfl
      have a2 : wB.cell? ⟨wr.heap.size, 2, none⟩ = some (.int .i64 x.st) := by rw [cell_of_block hBB]; rfl
      have r0 : wB.cell? ⟨w.heap.size, 0, none⟩ = some (.func (.func 35) #[] #[]) := (hbB.cell (p := ⟨w.heap.size, 0, none⟩) hlt4).trans (by rw [cell_of_block hR4]; rfl)
      have r1 : wB.cell? ⟨w.heap.size, 1, none⟩ = some (.func (.func g) #[] #[]) := (hbB.cell (p := ⟨w.heap.size, 1, none⟩) hlt4).trans (by rw [cell_of_block hR4]; rfl)
      have HS' := hide (HS.out)
      rw [sweep_cons, ← hD0, ← hD1] at HS'
      clear hD0 hD1 HS
      by_cases hnx : k + 1 < E.length
      · obtain ⟨bE', off', e5, hbl', hc'⟩ := (HL.out.below hbB).at nenc_len (k + 1) hnx
        cases e5
        have n0 := hc' 0 _ rfl
        have n1 := hc' 1 _ rfl
        have n2 := hc' 2 _ rfl
        rw [Nat.add_zero] at n0
        have hsn := HN.out hnx
        obtain ⟨y, hy⟩ : ∃ y, E[k + 1] = y := ⟨_, rfl⟩
        rw [hy] at n0 n1 n2 hsn
        clear hc' hy
        have hC := fun W => byPlace_below x y W
        have hz := cmpE_zero x y
        have hcr := cmpE_range x y
        have nk : (k : Int) + 1 < (E.length : Int) := by omega
        have nk0 : (0 : Int) ≤ (k : Int) + 1 := by omega
        have hsum : IntKind.i64.wrap ((k : Int) + 1) = (k : Int) + 1 := by simp [IntKind.wrap, IntKind.bits, IntKind.signed]; omega
        have nkd : decide ((k : Int) + 1 < (E.length : Int)) = true := by simpa using nk
        have htn : ((k : Int) + 1).toNat = k + 1 := by omega
        generalize cmpE x y = c at *
        simp only [← hxv] at hC
        clear hxv hblkB hwB b0 b1 b2 hd' hz' c0 c1 c2
        by_cases he : x.pl = y.pl
        · have hc0 : c = 0 := hz.2 he
          subst hc0
          have HE := hide he
          clear he hz
          go_wp2_with fail
          have q1 : w.heap.size < wB.heap.size := by omega
          have q2 : wr.heap.size < wB.heap.size := by omega
          have q3 : bE < wB.heap.size := by omega
          have hSC : SC wB w.heap.size wr.heap.size bE (off + (k + 1) * 3) (.func (.func 35) #[] #[]) (.string x.pl) (.int .i64 (j : Int)) (.int .i64 x.st) (.string y.pl) (.int .i64 y.ls) (.int .i64 y.st) wB := ⟨r0, a0, a1, a2, n0, n1, n2, Below.refl _ _⟩
          go_region_held3 (SC wB w.heap.size wr.heap.size bE (off + (k + 1) * 3) (.func (.func 35) #[] #[]) (.string x.pl) (.int .i64 (j : Int)) (.int .i64 x.st) (.string y.pl) (.int .i64 y.ls) (.int .i64 y.st)) (first | exact SC.drew (by assumption) | exact SC.call q1 q2 q3 (by assumption) (by assumption)) (first | (go_at_call 35; refine (hC _).mono ?_; rintro e w5 ⟨rfl, hb5⟩))
          have hb5' : Below wB.heap.size wB w5 := (by assumption : SC wB w.heap.size wr.heap.size bE (off + (k + 1) * 3) (.func (.func 35) #[] #[]) (.string x.pl) (.int .i64 (j : Int)) (.int .i64 x.st) (.string y.pl) (.int .i64 y.ls) (.int .i64 y.st) w5).2.2.2.2.2.2.2
          have h5X := hXB.below hb5'
          have h5D := (hb5'.block _ (by omega)).trans hDB
          have h5b := hbB.trans (hb5'.mono hbB.size)
          clear hC hb5 hXB hDB hbB a0 a1 a2 n0 n1 n2 r0 r1
          go_wp2
          go_roundw
          case rel =>
            refine ⟨k + 1, D0, D1, v, X, by omega, by go_num, h5b, h5D, h5X, by omega, hf, by omega, hide ?_⟩
            have h6 := HS'.out
            rw [hsn, HE.out] at h6
            simpa using h6
          case measure => simp [intOf]; omega
        · have hc0 : (c == 0) = false := by simp; exact fun e => he (hz.1 e)
          have hc1 : ¬ c = 0 := fun e => he (hz.1 e)
          have HE := hide he
          clear he hz
          go_wp2_with fail
          have q1 : w.heap.size < wB.heap.size := by omega
          have q2 : wr.heap.size < wB.heap.size := by omega
          have q3 : bE < wB.heap.size := by omega
          have hSC : SC wB w.heap.size wr.heap.size bE (off + (k + 1) * 3) (.func (.func 35) #[] #[]) (.string x.pl) (.int .i64 (j : Int)) (.int .i64 x.st) (.string y.pl) (.int .i64 y.ls) (.int .i64 y.st) wB := ⟨r0, a0, a1, a2, n0, n1, n2, Below.refl _ _⟩
          go_region_held3 (SC wB w.heap.size wr.heap.size bE (off + (k + 1) * 3) (.func (.func 35) #[] #[]) (.string x.pl) (.int .i64 (j : Int)) (.int .i64 x.st) (.string y.pl) (.int .i64 y.ls) (.int .i64 y.st)) (first | exact SC.drew (by assumption) | exact SC.call q1 q2 q3 (by assumption) (by assumption)) (first | (go_at_call 35; refine (hC _).mono ?_; rintro e w5 ⟨rfl, hb5⟩))
          have hb5' : Below wB.heap.size wB w5 := (by assumption : SC wB w.heap.size wr.heap.size bE (off + (k + 1) * 3) (.func (.func 35) #[] #[]) (.string x.pl) (.int .i64 (j : Int)) (.int .i64 x.st) (.string y.pl) (.int .i64 y.ls) (.int .i64 y.st) w5).2.2.2.2.2.2.2
          have h5X := hXB.below hb5'
          have h5D := (hb5'.block _ (by omega)).trans hDB
          have h5B := (hb5'.block _ (by omega)).trans hBB
          have h5b := hbB.trans (hb5'.mono hbB.size)
          have s0 := (hb5'.cell (p := ⟨wr.heap.size, 0, none⟩) q2).trans a0
          have s1 := (hb5'.cell (p := ⟨w.heap.size, 1, none⟩) q1).trans r1
          have hz5 := hb5'.size
          clear hSC hC hb5 hb5' hXB hDB hbB hBB a0 a1 a2 n0 n1 n2 r0 r1
          obtain ⟨kk, hkk⟩ : ∃ kk, kk = K (decide (0 < D0)) (decide (0 < D1)) := ⟨_, rfl⟩
          have hKc := fun W => hK.2 (decide (0 < D0)) (decide (0 < D1)) W
          rw [← hkk] at hKc HS'
          have eg := hK.1
          have t0 : w5.cell? ⟨w4.heap.size + 1, 0, none⟩ = some (.int .i64 D0) := by rw [cell_of_block h5D]; rfl
          have t1 : w5.cell? ⟨w4.heap.size + 1, 1, none⟩ = some (.int .i64 D1) := by rw [cell_of_block h5D]; rfl
          have own1 : ∀ q, v.ownBlock = some q → w4.heap.size ≤ q := fun q hq => (h5X.row.lt q hq).1
          have N1 : ¬ (fun k => k = w4.heap.size ∨ v.ownBlock = some k) w.heap.size := fun h => h.elim (fun e => by omega) fun e => by have := own1 _ e; omega
          have N2 : ¬ (fun k => k = w4.heap.size ∨ v.ownBlock = some k) (w4.heap.size + 1) := fun h => h.elim (fun e => by omega) fun e => own_ne h5X.row h5D (by decide) e rfl
          have N3 : ¬ (fun k => k = w4.heap.size ∨ v.ownBlock = some k) wr.heap.size := fun h => h.elim (fun e => by omega) fun e => own_ne h5X.row h5B (by decide) e rfl
          have hT := fun W (e : W = w5.drew) => turn_any (B := w4.heap.size) (bw := w4.heap.size) W (e ▸ (h5X.below (Below.refl _ _).drew) : WHeldV W w4.heap.size w4.heap.size v X) kk x.pl hf m1 (by omega) (by rw [e]; exact h5b.size)
          have hSD : SD w.heap.size (w4.heap.size + 1) wr.heap.size (.func (.func g) #[] #[]) (.int .i64 D0) (.int .i64 D1) (.string x.pl) w5 := ⟨s1, t0, t1, s0, by omega, by omega, by omega⟩
          have HT := hide hT
          have HO := hide (And.intro N1 (And.intro N2 N3))
          have HB5 := hide h5b
          have HD5 := hide h5D
          clear hT N1 N2 N3 own1 h5b h5D h5X h5B hkk
          go_wp2_with fail
          go_region_held3 (SD w.heap.size (w4.heap.size + 1) wr.heap.size (.func (.func g) #[] #[]) (.int .i64 D0) (.int .i64 D1) (.string x.pl)) (first | exact SD.drew (by assumption) | exact SD.only (own := fun k => k = w4.heap.size ∨ v.ownBlock = some k) HO.out.1 HO.out.2.1 HO.out.2.2 (by assumption) (by assumption) | assumption) (first | (go_at_fn g; refine (hKc _).mono ?_; rintro e w6 ⟨rfl, rfl⟩) | (go_at_call 44; refine (HT.out _ rfl).mono ?_; rintro e w6 ⟨rfl, ⟨v6, h6⟩, hb6, ho6⟩))
          have hD6 := (ho6.block (w4.heap.size + 1) (by have := hSD.2.2.2.2.2.1; exact this) HO.out.2.1).trans HD5.out
          have hb7 : Below w4.heap.size w4 w6 := HB5.out.drew.trans hb6
          clear hb6 ho6
          go_wp2
          go_roundw
          case rel =>
            refine ⟨k + 1, D0, D1, v6, X.turn kk x.pl, by omega, by go_num, hb7, hD6, h6, by omega, turn_fr X kk x.pl hf m1, by have := turn_len X kk x.pl; omega, hide ?_⟩
            have h6 := HS'.out
            rw [hsn, decide_eq_false HE.out] at h6
            simpa using h6
          case measure => simp [intOf]; omega
      · have nk : ¬ (k : Int) + 1 < (E.length : Int) := by omega
        have hsn := HNN.out hnx
        have hsum : IntKind.i64.wrap ((k : Int) + 1) = (k : Int) + 1 := by simp [IntKind.wrap, IntKind.bits, IntKind.signed]; omega
        clear hxv hblkB hwB b0 b1 b2 hd' hz' c0 c1 c2
        have nkd : decide ((k : Int) + 1 < (E.length : Int)) = false := by simpa using nk
        go_wp2_with fail
        go_quiet (fail)
        obtain ⟨w5, hw5⟩ : ∃ w5, w5 = wB.drewN nq := ⟨_, rfl⟩
        have hb5' : Below wB.heap.size wB w5 := by rw [hw5]; exact below_draws _ _ _
        rw [← hw5]
        clear hw5
        have q1 : w.heap.size < wB.heap.size := by omega
        have q2 : wr.heap.size < wB.heap.size := by omega
        have h5X := hXB.below hb5'
        have h5D := (hb5'.block _ (by omega)).trans hDB
        have h5B := (hb5'.block _ (by omega)).trans hBB
        have h5b := hbB.trans (hb5'.mono hbB.size)
        have s0 := (hb5'.cell (p := ⟨wr.heap.size, 0, none⟩) q2).trans a0
        have s1 := (hb5'.cell (p := ⟨w.heap.size, 1, none⟩) q1).trans r1
        have hz5 := hb5'.size
        clear hb5' hXB hDB hbB hBB a0 a1 a2 r0 r1
        obtain ⟨kk, hkk⟩ : ∃ kk, kk = K (decide (0 < D0)) (decide (0 < D1)) := ⟨_, rfl⟩
        have hKc := fun W => hK.2 (decide (0 < D0)) (decide (0 < D1)) W
        rw [← hkk] at hKc HS'
        have eg := hK.1
        have t0 : w5.cell? ⟨w4.heap.size + 1, 0, none⟩ = some (.int .i64 D0) := by rw [cell_of_block h5D]; rfl
        have t1 : w5.cell? ⟨w4.heap.size + 1, 1, none⟩ = some (.int .i64 D1) := by rw [cell_of_block h5D]; rfl
        have own1 : ∀ q, v.ownBlock = some q → w4.heap.size ≤ q := fun q hq => (h5X.row.lt q hq).1
        have N1 : ¬ (fun k => k = w4.heap.size ∨ v.ownBlock = some k) w.heap.size := fun h => h.elim (fun e => by omega) fun e => by have := own1 _ e; omega
        have N2 : ¬ (fun k => k = w4.heap.size ∨ v.ownBlock = some k) (w4.heap.size + 1) := fun h => h.elim (fun e => by omega) fun e => own_ne h5X.row h5D (by decide) e rfl
        have N3 : ¬ (fun k => k = w4.heap.size ∨ v.ownBlock = some k) wr.heap.size := fun h => h.elim (fun e => by omega) fun e => own_ne h5X.row h5B (by decide) e rfl
        have hT := fun W (e : W = w5.drew) => turn_any (B := w4.heap.size) (bw := w4.heap.size) W (e ▸ (h5X.below (Below.refl _ _).drew) : WHeldV W w4.heap.size w4.heap.size v X) kk x.pl hf m1 (by omega) (by rw [e]; exact h5b.size)
        have hSD : SD w.heap.size (w4.heap.size + 1) wr.heap.size (.func (.func g) #[] #[]) (.int .i64 D0) (.int .i64 D1) (.string x.pl) w5 := ⟨s1, t0, t1, s0, by omega, by omega, by omega⟩
        have HT := hide hT
        have HO := hide (And.intro N1 (And.intro N2 N3))
        have HB5 := hide h5b
        have HD5 := hide h5D
        clear hT N1 N2 N3 own1 h5b h5D h5X h5B hkk
        go_wp2_with fail
        go_region_held3 (SD w.heap.size (w4.heap.size + 1) wr.heap.size (.func (.func g) #[] #[]) (.int .i64 D0) (.int .i64 D1) (.string x.pl)) (first | exact SD.drew (by assumption) | exact SD.only (own := fun k => k = w4.heap.size ∨ v.ownBlock = some k) HO.out.1 HO.out.2.1 HO.out.2.2 (by assumption) (by assumption) | assumption) (first | (go_at_fn g; refine (hKc _).mono ?_; rintro e w6 ⟨rfl, rfl⟩) | (go_at_call 44; refine (HT.out _ rfl).mono ?_; rintro e w6 ⟨rfl, ⟨v6, h6⟩, hb6, ho6⟩))
        have hD6 := (ho6.block (w4.heap.size + 1) (by have := hSD.2.2.2.2.2.1; exact this) HO.out.2.1).trans HD5.out
        have hb7 : Below w4.heap.size w4 w6 := HB5.out.drew.trans hb6
        clear hb6 ho6
        go_wp2
        go_roundw
        case rel =>
          refine ⟨k + 1, D0, D1, v6, X.turn kk x.pl, by omega, by go_num, hb7, hD6, h6, by omega, turn_fr X kk x.pl hf m1, by have := turn_len X kk x.pl; omega, hide ?_⟩
          have h6 := HS'.out
          rw [hsn] at h6
          simpa using h6
        case measure => simp [intOf]; omega
    · obtain rfl : k = E.length := by omega
      have hFin := finished_any wr hX hf (by omega) hbel.size
      have h6 := HS.out
      rw [List.drop_length] at h6
      have e7 : X.fin = nrm K la lb := by
        obtain ⟨p1, p2, p3, p4, p5⟩ := HF.out
        rw [← swept_any p5 p3 p4 p1 p2, swept, ← h6]; rfl
      rw [e7] at hFin
      clear HS hX hD e7 h6
      go_wp2_with fail
      refine hFin.mono ?_
      rintro e w6 ⟨v6, rfl, hr6, hb6⟩
      clear hFin
      go_wp2
      go_ret
      exact ⟨_, rfl, own_mono hr6 (by omega), hbw4.trans ((hbel.trans hb6).mono (by omega))⟩

end Go.Proofs.Ytolgpdjimfodkaa.Sp
