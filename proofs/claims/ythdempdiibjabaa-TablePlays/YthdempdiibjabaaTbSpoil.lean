/- Layer 9: the book: SpoilRows, SpoilResults. -/
import Derived.Test.YthdempdiibjabaaTbCpy
namespace Go.Proofs.Ythdempdiibjabaa.Tb
open Go.RowKit Go.Joins Go.Proofs.Ythdempdiibjabaa.Gk Go.Proofs.Ythdempdiibjabaa.Oq Go.Proofs.Ythdempdiibjabaa.Sp

/-- a slice of rows has room there, whatever lies in it -/
def RS (w : World) (a : Option Addr) (cap : Nat) : Prop := (a = none ∧ cap = 0) ∨ ∃ g off cur, a = some ⟨g, off, none⟩ ∧ w.heap[g]? = some (.cells cur RowT (0, 0)) ∧ off + cap * 3 ≤ cur.size ∧ cap ≤ maxLen
theorem RL.rs {w : World} {a : Option Addr} {cap : Nat} {l : List Rw} (h : RL w a cap l) : RS w a cap := by
  rcases h with ⟨h1, _, h2⟩ | ⟨g, off, cur, e, hg, h1, _, h3, _⟩
  · exact Or.inl ⟨h1, h2⟩
  · exact Or.inr ⟨g, off, cur, e, hg, h1, h3⟩
/-- some blocks have turned, and have their shapes still -/
structure Spl (S : Nat → Prop) (w w' : World) : Prop where
  only : Only S w w'
  shape : ∀ (b : Nat) (cs : Array Value) (T : TypeId), w.heap[b]? = some (.cells cs T (0, 0)) → ∃ cs', w'.heap[b]? = some (.cells cs' T (0, 0)) ∧ cs'.size = cs.size
theorem Spl.refl (S : Nat → Prop) (w : World) : Spl S w w := ⟨Only.refl _ _, fun _ cs _ h => ⟨cs, h, rfl⟩⟩
theorem Spl.trans {S : Nat → Prop} {a b c : World} (h : Spl S a b) (k : Spl S b c) : Spl S a c :=
  ⟨h.only.trans k.only, fun x cs T hx => by
    obtain ⟨cs', h1, h2⟩ := h.shape x cs T hx
    obtain ⟨cs'', h3, h4⟩ := k.shape x cs' T h1
    exact ⟨cs'', h3, h4.trans h2⟩⟩
theorem Spl.mono {S S' : Nat → Prop} {a b : World} (h : Spl S a b) (hs : ∀ x, S x → S' x) : Spl S' a b := ⟨h.only.mono fun x _ hx => hs x hx, h.shape⟩
theorem Spl.set {S : Nat → Prop} (w : World) {g : Nat} (hg : S g) (i : Nat) (u : Value) : Spl S w (w.setCell ⟨g, i, none⟩ u) :=
  ⟨Only.of_set w hg u, fun b cs T hb => by
    by_cases e : b = g
    · subst e; exact ⟨_, block_setCell hb u, by simp⟩
    · exact ⟨cs, (Below.heap_setCell _ _ _ _ e).trans hb, rfl⟩⟩
theorem RS.spl {S : Nat → Prop} {w w' : World} {a : Option Addr} {cap : Nat} (h : RS w a cap) (k : Spl S w w') : RS w' a cap := by
  rcases h with h | ⟨g, off, cur, e, hg, h1, h2⟩
  · exact Or.inl h
  · obtain ⟨cs', h3, h4⟩ := k.shape _ _ _ hg
    exact Or.inr ⟨g, off, cs', e, h3, by omega, h2⟩

set_option maxHeartbeats 3200000 in
set_option maxRecDepth 100000 in
theorem spoilRows_any (a : Option Addr) (n cap : Nat) (w : World) (hs : RS w a cap) (hn : n ≤ cap) :
    Calls Try.prog 34 #[.slice a n cap] w fun e w' => e = .returned (.tuple #[]) ∧ Spl (fun b => blk a = some b) w w' := by
  rcases hs with ⟨rfl, rfl⟩ | ⟨g, off, cur, rfl, hblk, hsz, hmax⟩
  · obtain rfl : n = 0 := by omega
    go_enter Try.func34, Try.ntmps34
    go_wp2
    go_loopw [2] (fun i wr => i = .int .i64 0 ∧ wr = w) (fun _ _ => 0)
    case atStart => exact ⟨rfl, rfl⟩
    case round =>
      obtain ⟨rfl, rfl⟩ := hrel
      go_wp2
      go_end0
      exact ⟨rfl, Spl.refl _ _⟩
  · have hmax' : cap ≤ 9223372036854775807 := by unfold maxLen at hmax; omega
    have c1 : (0 : Int) ≤ (cap : Int) := by omega
    go_enter Try.func34, Try.ntmps34
    go_wp2
    go_loopw [2] (fun i wr => ∃ k : Nat, k ≤ cap ∧ i = .int .i64 k ∧ Hid (Spl (fun b => b = g) w wr)) (fun i _ => cap - (intOf i).toNat)
    case atStart => exact ⟨0, Nat.zero_le _, rfl, hide (Spl.refl _ _)⟩
    case round =>
      obtain ⟨k, hk, rfl, HC⟩ := hrel
      by_cases hlt : k < cap
      · obtain ⟨cs, h1, h2⟩ := HC.out.shape _ _ _ hblk
        have hk3 : off + k * 3 + 2 < cs.size := by
          have : (k + 1) * 3 ≤ cap * 3 := Nat.mul_le_mul_right 3 (by omega)
          omega
        obtain ⟨u0, e0⟩ : ∃ u, cs[off + k * 3]? = some u := ⟨_, Array.getElem?_eq_getElem (by omega)⟩
        obtain ⟨u1, e1⟩ : ∃ u, cs[off + k * 3 + 1]? = some u := ⟨_, Array.getElem?_eq_getElem (by omega)⟩
        obtain ⟨u2, e2⟩ : ∃ u, cs[off + k * 3 + 2]? = some u := ⟨_, Array.getElem?_eq_getElem (by omega)⟩
        have d0 : wr.cell? ⟨g, off + k * 3, none⟩ = some u0 := by rw [cell_of_block h1]; exact e0
        have d1 : wr.cell? ⟨g, off + k * 3 + 1, none⟩ = some u1 := by rw [cell_of_block h1]; exact e1
        have d2 : wr.cell? ⟨g, off + k * 3 + 2, none⟩ = some u2 := by rw [cell_of_block h1]; exact e2
        have f0 := unfrozen_of_block h1 (off + k * 3)
        have f1 := unfrozen_of_block h1 (off + k * 3 + 1)
        have f2 := unfrozen_of_block h1 (off + k * 3 + 2)
        have i1 : (0 : Int) ≤ (k : Int) := by omega
        have i2 : (k : Int) < (cap : Int) := by omega
        clear h1 h2 e0 e1 e2 hk3
        go_wp2
        exact ⟨⟨k + 1, by omega, by go_num, hide (((HC.out.trans (Spl.set (S := fun b => b = g) _ rfl _ _)).trans (Spl.set (S := fun b => b = g) _ rfl _ _)).trans (Spl.set (S := fun b => b = g) _ rfl _ _))⟩, by simp [intOf]; omega⟩
      · go_wp2
        go_end0
        exact ⟨rfl, HC.out.mono fun x hx => by subst hx; rfl⟩

theorem cell_set_ne {w : World} {g i j : Nat} {cs : Array Value} {T : TypeId} (h : w.heap[g]? = some (.cells cs T (0, 0))) (hij : j ≠ i) (u : Value) : (w.setCell ⟨g, i, none⟩ u).cell? ⟨g, j, none⟩ = w.cell? ⟨g, j, none⟩ := by
  rw [cell_of_block (block_setCell h u), cell_of_block h, Array.getElem?_setIfInBounds_ne (Ne.symm hij)]
theorem cell_set4_ne {w : World} {g i j : Nat} {cs : Array Value} {T : TypeId} (h : w.heap[g]? = some (.cells cs T (0, 0))) (h0 : j ≠ i) (h1 : j ≠ i + 1) (h2 : j ≠ i + 2) (h3 : j ≠ i + 3) (u0 u1 u2 u3 : Value) :
    ((((w.setCell ⟨g, i, none⟩ u0).setCell ⟨g, i + 1, none⟩ u1).setCell ⟨g, i + 2, none⟩ u2).setCell ⟨g, i + 3, none⟩ u3).cell? ⟨g, j, none⟩ = w.cell? ⟨g, j, none⟩ := by
  have b0 := block_setCell (i := i) h u0
  have b1 := block_setCell (i := i + 1) b0 u1
  have b2 := block_setCell (i := i + 2) b1 u2
  rw [cell_set_ne b2 h3, cell_set_ne b1 h2, cell_set_ne b0 h1, cell_set_ne h h0]

set_option maxHeartbeats 3200000 in
set_option maxRecDepth 100000 in
theorem spoilResults_any (ra : Option Addr) (rcap : Nat) (rl : List RsA) (w : World) (hl : Gk.Lies w rsenc ra rl) (hb : ∀ g, blk ra = some g → ∃ cur, w.heap[g]? = some (.cells cur ResT (0, 0))) (hr : ∀ x ∈ rl, RS w x.a x.cap ∧ x.r.rows.length ≤ x.cap) (hn : rl.length ≤ 9223372036854775807) :
    Calls Try.prog 32 #[.slice ra rl.length rcap] w fun e w' => e = .returned (.tuple #[]) ∧ Spl (fun b => blk ra = some b ∨ ∃ x ∈ rl, blk x.a = some b) w w' := by
  go_enter Try.func32, Try.ntmps32
  go_wp2
  go_loopw [2] (fun i wr => ∃ k : Nat, k ≤ rl.length ∧ i = .int .i64 k ∧ Hid (Spl (fun b => blk ra = some b ∨ ∃ x ∈ rl, blk x.a = some b) w wr) ∧ Hid (∀ t (ht : t < rl.length), k ≤ t → ∀ b off, ra = some ⟨b, off, none⟩ → ∀ j u, (rsenc rl[t])[j]? = some u → wr.cell? ⟨b, off + t * 4 + j, none⟩ = some u)) (fun i _ => rl.length - (intOf i).toNat)
  case atStart => exact ⟨0, Nat.zero_le _, rfl, hide (Spl.refl _ _), hide (fun t ht _ b off e j u hj => by
    obtain ⟨b', off', e', _, hc⟩ := hl.at (k := 4) rsenc_len t ht
    rw [e] at e'; cases e'
    exact hc j u hj)⟩
  case round =>
    obtain ⟨k, hk, rfl, HC, HL⟩ := hrel
    by_cases hlt : k < rl.length
    · obtain ⟨b, off, rfl, _, _⟩ := hl.at (k := 4) rsenc_len k hlt
      have hc := HL.out k hlt (Nat.le_refl _) b off rfl
      have c0 := hc 0 _ rfl
      have c1 := hc 1 _ rfl
      have c2 := hc 2 _ rfl
      have c3 := hc 3 _ rfl
      rw [Nat.add_zero] at c0
      have hx := List.getElem_mem hlt
      obtain ⟨hrs, hrn⟩ := hr _ hx
      obtain ⟨cur, hcur⟩ := hb b rfl
      obtain ⟨cs, hcs, _⟩ := HC.out.shape _ _ _ hcur
      have hSp := spoilRows_any rl[k].a rl[k].r.rows.length rl[k].cap wr (hrs.spl HC.out) hrn
      have HX := hide hx
      have hrs2 := hrs.spl HC.out
      clear hc hx hrs
      generalize (rl[k]'hlt) = x at *
      have i1 : (0 : Int) ≤ (k : Int) := by omega
      have i2 : (k : Int) < (rl.length : Int) := by omega
      go_wp2_with fail
      refine hSp.mono ?_
      rintro e w2 ⟨rfl, hS2⟩
      have hne : blk x.a ≠ some b := by
        intro e
        rcases hrs2 with ⟨h1, _⟩ | ⟨g, o, cu, h1, h2, _⟩
        · rw [h1] at e; cases e
        · rw [h1] at e
          have : g = b := Option.some.inj e
          subst this
          rw [hcs] at h2
          simp only [Option.some.injEq, Obj.cells.injEq] at h2
          exact absurd h2.2.1 (by decide)
      have hcs2 := (hS2.only.block b (Array.getElem?_eq_some_iff.1 hcs).1 hne).trans hcs
      have hcw : ∀ j, w2.cell? ⟨b, j, none⟩ = wr.cell? ⟨b, j, none⟩ := fun j => World.cell?_of_block (a := ⟨b, j, none⟩) (hcs2.trans hcs.symm)
      have d0 := (hcw _).trans c0
      have d1 := (hcw _).trans c1
      have d2 := (hcw _).trans c2
      have d3 := (hcw _).trans c3
      have f0 := unfrozen_of_block hcs2 (off + k * 4)
      have f1 := unfrozen_of_block hcs2 (off + k * 4 + 1)
      have f2 := unfrozen_of_block hcs2 (off + k * 4 + 2)
      have f3 := unfrozen_of_block hcs2 (off + k * 4 + 3)
      have HS3 : Hid (Spl (fun c => blk (some ⟨b, off, none⟩) = some c ∨ ∃ x ∈ rl, blk x.a = some c) w w2) := HC.out.trans (hS2.mono fun c hc => Or.inr ⟨x, HX.out, hc⟩)
      have HN : Hid (∀ u0 u1 u2 u3, ∀ t (ht : t < rl.length), k + 1 ≤ t → ∀ b' off', (some ⟨b, off, none⟩ : Option Addr) = some ⟨b', off', none⟩ → ∀ j u, (rsenc rl[t])[j]? = some u → ((((w2.setCell ⟨b, off + k * 4, none⟩ u0).setCell ⟨b, off + k * 4 + 1, none⟩ u1).setCell ⟨b, off + k * 4 + 2, none⟩ u2).setCell ⟨b, off + k * 4 + 3, none⟩ u3).cell? ⟨b', off' + t * 4 + j, none⟩ = some u) := by
        intro u0 u1 u2 u3 t ht hkt b' off' e j u hj
        cases e
        have h1 := HL.out t ht (by omega) b off rfl j u hj
        rw [cell_set4_ne hcs2 (by omega) (by omega) (by omega) (by omega), hcw]
        exact h1
      clear hSp hrs2 hcs hcs2 hcw c0 c1 c2 c3 hS2 HC HL
      go_wp2
      exact ⟨⟨k + 1, by omega, by go_num, hide ((((HS3.out.trans (Spl.set _ (Or.inl rfl) _ _)).trans (Spl.set _ (Or.inl rfl) _ _)).trans (Spl.set _ (Or.inl rfl) _ _)).trans (Spl.set _ (Or.inl rfl) _ _)), hide (HN.out _ _ _ _)⟩, by simp [intOf]; omega⟩
    · have i2 : ¬ (k : Int) < (rl.length : Int) := by omega
      go_wp2
      go_end0
      exact ⟨rfl, HC.out⟩

end Go.Proofs.Ythdempdiibjabaa.Tb
