/- Layer 9: what a table's methods work in: the operation's box, the result's, the table's cell. -/
import Derived.Test.YthdempdiibjabaaTbFind
import Derived.Test.YthdempdiibjabaaTbCat
namespace Go.Proofs.Ythdempdiibjabaa.Tb
open Go.RowKit Go.Joins Go.Proofs.Ythdempdiibjabaa.Gk Go.Proofs.Ythdempdiibjabaa.Oq Go.Proofs.Ythdempdiibjabaa.Sp

abbrev ptr (b : Nat) : Value := .pointer (some ⟨b, 0, none⟩)
abbrev OpT : TypeId := 45
abbrev opC (k : Int) (key val : ByteArray) (s t m : Int) : Array Value := #[.int .i64 k, .string key, .string val, .int .i64 s, .int .i64 t, .int .i64 m]
abbrev rs0 : Array Value := #[.int .i64 0, .int .i64 0, .string ⟨#[]⟩, .slice none 0 0]
/-- the boxes -/
structure Fr (w : World) (bt : Nat) (k : Int) (key val : ByteArray) (s t m : Int) (v : Value) (W : World) : Prop where
  box : W.heap[w.heap.size]? = some (.cells (opC k key val s t m) OpT (0, 0))
  res : W.heap[w.heap.size + 1]? = some (.cells rs0 ResT (0, 0))
  tab : W.heap[bt]? = some (.cells #[v] TabT (0, 0))
  bel : Below w.heap.size w W
section
variable {w : World} {bt : Nat} {k : Int} {key val : ByteArray} {s t m : Int} {v : Value} {W W' : World}
theorem Fr.start (hg : w.heap[bt]? = some (.cells #[v] TabT (0, 0))) : Fr w bt k key val s t m v ((w.alloc (.cells (opC k key val s t m) OpT)).alloc (.cells rs0 ResT)) := by
  refine ⟨?_, ?_, ?_, below_a2 _ _ _⟩
  · rw [heap_alloc_old _ _ (by simp)]; exact heap_alloc_new _ _
  · have := heap_alloc_new (w.alloc (.cells (opC k key val s t m) OpT)) (.cells rs0 ResT); simpa using this
  · have hlt := (Array.getElem?_eq_some_iff.1 hg).1
    exact ((below_a2 w _ _).block bt hlt).trans hg
theorem Fr.call (h : Fr w bt k key val s t m v W) (hb : Below W.heap.size W W') : Fr w bt k key val s t m v W' :=
  ⟨(hb.block _ (Array.getElem?_eq_some_iff.1 h.box).1).trans h.box, (hb.block _ (Array.getElem?_eq_some_iff.1 h.res).1).trans h.res, (hb.block _ (Array.getElem?_eq_some_iff.1 h.tab).1).trans h.tab, h.bel.trans (hb.mono h.bel.size)⟩
theorem Fr.drew (h : Fr w bt k key val s t m v W) : Fr w bt k key val s t m v W.drew := h.call (Below.refl _ _).drew
theorem Fr.xs (h : Fr w bt k key val s t m v W) : W.cell? ⟨w.heap.size, 0, none⟩ = some (.int .i64 k) ∧ W.cell? ⟨w.heap.size, 1, none⟩ = some (.string key) ∧ W.cell? ⟨w.heap.size, 2, none⟩ = some (.string val) ∧ W.cell? ⟨w.heap.size, 3, none⟩ = some (.int .i64 s) ∧ W.cell? ⟨w.heap.size, 4, none⟩ = some (.int .i64 t) ∧ W.cell? ⟨w.heap.size, 5, none⟩ = some (.int .i64 m) :=
  ⟨cellB h.box 0 rfl, cellB h.box 1 rfl, cellB h.box 2 rfl, cellB h.box 3 rfl, cellB h.box 4 rfl, cellB h.box 5 rfl⟩
theorem Fr.rs (h : Fr w bt k key val s t m v W) : W.cell? ⟨w.heap.size + 1, 0, none⟩ = some (.int .i64 0) ∧ W.cell? ⟨w.heap.size + 1, 1, none⟩ = some (.int .i64 0) ∧ W.cell? ⟨w.heap.size + 1, 2, none⟩ = some (.string ⟨#[]⟩) ∧ W.cell? ⟨w.heap.size + 1, 3, none⟩ = some (.slice none 0 0) :=
  ⟨cellB h.res 0 rfl, cellB h.res 1 rfl, cellB h.res 2 rfl, cellB h.res 3 rfl⟩
theorem Fr.fs (h : Fr w bt k key val s t m v W) : W.frozen? ⟨w.heap.size + 1, 0, none⟩ = false ∧ W.frozen? ⟨w.heap.size + 1, 1, none⟩ = false ∧ W.frozen? ⟨w.heap.size + 1, 2, none⟩ = false ∧ W.frozen? ⟨w.heap.size + 1, 3, none⟩ = false ∧ W.frozen? ⟨bt, 0, none⟩ = false :=
  ⟨unfrozen_of_block h.res 0, unfrozen_of_block h.res 1, unfrozen_of_block h.res 2, unfrozen_of_block h.res 3, unfrozen_of_block h.tab 0⟩
theorem Fr.tb (h : Fr w bt k key val s t m v W) : W.cell? ⟨bt, 0, none⟩ = some v := cellB h.tab 0 rfl
theorem Fr.lt (h : Fr w bt k key val s t m v W) : w.heap.size + 1 < W.heap.size := (Array.getElem?_eq_some_iff.1 h.res).1
end
abbrev set4 (W : World) (b : Nat) (u0 u1 u2 u3 : Value) : World := (((W.setCell ⟨b, 0, none⟩ u0).setCell ⟨b, 1, none⟩ u1).setCell ⟨b, 2, none⟩ u2).setCell ⟨b, 3, none⟩ u3
theorem set4_below {W : World} {b n : Nat} {w : World} (h : Below n w W) (hb : n ≤ b) (u0 u1 u2 u3 : Value) : Below n w (set4 W b u0 u1 u2 u3) :=
  (((h.setCell (p := ⟨b, 0, none⟩) hb _).setCell (p := ⟨b, 1, none⟩) hb _).setCell (p := ⟨b, 2, none⟩) hb _).setCell (p := ⟨b, 3, none⟩) hb _
theorem set4_other (W : World) (b k : Nat) (hk : k ≠ b) (u0 u1 u2 u3 : Value) : (set4 W b u0 u1 u2 u3).heap[k]? = W.heap[k]? := by
  rw [Below.heap_setCell _ _ _ _ hk, Below.heap_setCell _ _ _ _ hk, Below.heap_setCell _ _ _ _ hk, Below.heap_setCell _ _ _ _ hk]
/-- .. and a block behind -/
theorem set4_cells {W : World} {b : Nat} {x0 x1 x2 x3 : Value} {T : TypeId} (h : W.heap[b]? = some (.cells #[x0, x1, x2, x3] T (0, 0))) (u0 u1 u2 u3 : Value) (o : Obj) :
    (((((W.setCell ⟨b, 0, none⟩ u0).setCell ⟨b, 1, none⟩ u1).setCell ⟨b, 2, none⟩ u2).setCell ⟨b, 3, none⟩ u3).alloc o).cell? ⟨b, 0, none⟩ = some u0 ∧ (((((W.setCell ⟨b, 0, none⟩ u0).setCell ⟨b, 1, none⟩ u1).setCell ⟨b, 2, none⟩ u2).setCell ⟨b, 3, none⟩ u3).alloc o).cell? ⟨b, 1, none⟩ = some u1 ∧
    (((((W.setCell ⟨b, 0, none⟩ u0).setCell ⟨b, 1, none⟩ u1).setCell ⟨b, 2, none⟩ u2).setCell ⟨b, 3, none⟩ u3).alloc o).cell? ⟨b, 2, none⟩ = some u2 ∧ (((((W.setCell ⟨b, 0, none⟩ u0).setCell ⟨b, 1, none⟩ u1).setCell ⟨b, 2, none⟩ u2).setCell ⟨b, 3, none⟩ u3).alloc o).cell? ⟨b, 3, none⟩ = some u3 := by
  have h1 : (((((W.setCell ⟨b, 0, none⟩ u0).setCell ⟨b, 1, none⟩ u1).setCell ⟨b, 2, none⟩ u2).setCell ⟨b, 3, none⟩ u3).alloc o).heap[b]? = some (.cells #[u0, u1, u2, u3] T (0, 0)) := by
    rw [heap_alloc_old _ _ (by simpa using (Array.getElem?_eq_some_iff.1 h).1)]
    exact block_setCell (block_setCell (block_setCell (block_setCell h u0) u1) u2) u3
  exact ⟨cellB h1 0 rfl, cellB h1 1 rfl, cellB h1 2 rfl, cellB h1 3 rfl⟩
theorem set4_alloc_below {W : World} {b : Nat} {w : World} (h : Below w.heap.size w W) (hb : w.heap.size ≤ b) (u0 u1 u2 u3 : Value) (o : Obj) : Below w.heap.size w ((set4 W b u0 u1 u2 u3).alloc o) :=
  (set4_below h hb u0 u1 u2 u3).alloc (by simpa using h.size) o
/-- a table whose list is another one -/
theorem TH.put {W : World} {bt : Nat} {v : Value} (hW : W.heap[bt]? = some (.cells #[v] TabT (0, 0))) {a : Option Addr} {cap : Nat} {l : List Rw} (hl : RL W a cap l) (hok : Tok l) : TH (W.setCell ⟨bt, 0, none⟩ (.slice a l.length cap)) bt l := by
  refine ⟨hok, a, cap, block_setCell hW _, hl.stay fun g hg => Below.heap_setCell _ _ _ _ ?_⟩
  rintro rfl
  obtain ⟨cur, hc⟩ := hl.lt hg
  rw [hW] at hc
  simp only [Option.some.injEq, Obj.cells.injEq] at hc
  exact absurd hc.2.1 (by decide)
theorem TH.stay {w w' : World} {bt : Nat} {l : List Rw} (h : TH w bt l) (hs : ∀ k, k < w.heap.size → w'.heap[k]? = w.heap[k]?) : TH w' bt l := by
  obtain ⟨ht, a, cap, hg, hr⟩ := h
  exact ⟨ht, a, cap, (hs bt (Array.getElem?_eq_some_iff.1 hg).1).trans hg, hr.stay fun g hb => hs g (by obtain ⟨cur, hc⟩ := hr.lt hb; exact (Array.getElem?_eq_some_iff.1 hc).1)⟩
/-- in which block a table's rows lie -/
def tabBlk (w : World) (bt : Nat) : Option Nat := match w.heap[bt]? with
  | some (Obj.cells cs _ _) => match cs.toList.head? with
    | some (Value.slice a _ _) => blk a
    | _ => none
  | _ => none
theorem tabBlk_same {w w' : World} {bt : Nat} (h : w'.heap[bt]? = w.heap[bt]?) : tabBlk w' bt = tabBlk w bt := by unfold tabBlk; rw [h]
theorem tabBlk_is {w : World} {bt : Nat} {a : Option Addr} {n cap : Nat} (h : w.heap[bt]? = some (.cells #[.slice a n cap] TabT (0, 0))) : tabBlk w bt = blk a := by unfold tabBlk; rw [h]; rfl
theorem own_blk {w : World} {B n m cap : Nat} {a : Option Addr} {xs : List Value} (h : w.ownsRow B RowT 3 (.slice a n cap) m xs) {g : Nat} (hg : blk a = some g) : B ≤ g := by
  rcases h.2 with ⟨e, _⟩ | ⟨g', cap', cur, e, hb, _⟩
  · cases e; cases hg
  · cases e; cases hg; exact hb
theorem put_own {W : World} {bt B n m cap : Nat} {v : Value} {a : Option Addr} {xs : List Value} (hW : W.heap[bt]? = some (.cells #[v] TabT (0, 0))) (ho : W.ownsRow B RowT 3 (.slice a n cap) m xs) {C : Nat} (hC : C ≤ B) : ∀ g, tabBlk (W.setCell ⟨bt, 0, none⟩ (.slice a n cap)) bt = some g → C ≤ g := fun g hg => by
  rw [tabBlk_is (block_setCell hW _)] at hg
  exact Nat.le_trans hC (own_blk ho hg)
theorem TH.blkLt {w : World} {bt g : Nat} {l : List Rw} (h : TH w bt l) (hg : tabBlk w bt = some g) : g < w.heap.size := by
  obtain ⟨_, a, cap, hb, hr⟩ := h
  rw [tabBlk_is hb] at hg
  obtain ⟨cur, hc⟩ := hr.lt hg
  exact (Array.getElem?_eq_some_iff.1 hc).1
/-- a result's contract -/
structure ResP (bt : Nat) (w : World) (res : Rs × List Rw) (R : RsA) (w' : World) : Prop where
  eq : R.r = res.1
  rows : RL w' R.a R.cap R.r.rows
  new : ∀ g, blk R.a = some g → w.heap.size ≤ g
  tab : TH w' bt res.2
  turn : Turn bt w w'
  own : ∀ g, tabBlk w' bt = some g → tabBlk w bt = some g ∨ w.heap.size ≤ g
  apart : ∀ g, blk R.a = some g → tabBlk w' bt ≠ some g
def OneC (f : Nat) (l : List Rw) (x : Opn) (res : Rs × List Rw) : Prop :=
  ∀ (bt : Nat) (w : World), TH w bt l → Calls Try.prog f #[ptr bt, x.v] w fun e w' => ∃ R, e = .returned (RsA.v R) ∧ ResP bt w res R w'
/-- nothing has turned, and the result has no rows -/
theorem ResP.plain {bt : Nat} {w w' : World} {l : List Rw} {c s : Int} {v : ByteArray} (hT : TH w bt l) (hb : Below w.heap.size w w') : ResP bt w (Tb.rs c s v, l) ⟨Tb.rs c s v, none, 0⟩ w' :=
  ⟨rfl, Or.inl ⟨rfl, rfl, rfl⟩, fun _ h => (nomatch h), hT.below hb, Only.of_below hb, fun g hg => Or.inl (by rw [← hg]; exact (tabBlk_same (hb.block bt hT.lt)).symm), fun _ h => (nomatch h)⟩

/-- .. once the table has turned -/
structure Fr2 (w : World) (bt : Nat) (k : Int) (key val : ByteArray) (s t m : Int) (W : World) : Prop where
  box : W.heap[w.heap.size]? = some (.cells (opC k key val s t m) OpT (0, 0))
  res : W.heap[w.heap.size + 1]? = some (.cells rs0 ResT (0, 0))
  turn : Turn bt w W
section
variable {w : World} {bt : Nat} {k : Int} {key val : ByteArray} {s t m : Int} {v : Value} {W W' : World}
theorem Fr.put (h : Fr w bt k key val s t m v W) (hlt : bt < w.heap.size) (u : Value) : Fr2 w bt k key val s t m (W.setCell ⟨bt, 0, none⟩ u) :=
  ⟨(Below.heap_setCell _ _ _ _ (by show w.heap.size ≠ bt; omega)).trans h.box, (Below.heap_setCell _ _ _ _ (by show w.heap.size + 1 ≠ bt; omega)).trans h.res, (Only.of_below h.bel).trans (Only.of_set (own := fun b => b = bt) _ rfl _)⟩
theorem Fr2.xs (h : Fr2 w bt k key val s t m W) : W.cell? ⟨w.heap.size, 0, none⟩ = some (.int .i64 k) ∧ W.cell? ⟨w.heap.size, 1, none⟩ = some (.string key) ∧ W.cell? ⟨w.heap.size, 2, none⟩ = some (.string val) ∧ W.cell? ⟨w.heap.size, 3, none⟩ = some (.int .i64 s) ∧ W.cell? ⟨w.heap.size, 4, none⟩ = some (.int .i64 t) ∧ W.cell? ⟨w.heap.size, 5, none⟩ = some (.int .i64 m) :=
  ⟨cellB h.box 0 rfl, cellB h.box 1 rfl, cellB h.box 2 rfl, cellB h.box 3 rfl, cellB h.box 4 rfl, cellB h.box 5 rfl⟩
theorem Fr2.rs (h : Fr2 w bt k key val s t m W) : W.cell? ⟨w.heap.size + 1, 0, none⟩ = some (.int .i64 0) ∧ W.cell? ⟨w.heap.size + 1, 1, none⟩ = some (.int .i64 0) ∧ W.cell? ⟨w.heap.size + 1, 2, none⟩ = some (.string ⟨#[]⟩) ∧ W.cell? ⟨w.heap.size + 1, 3, none⟩ = some (.slice none 0 0) :=
  ⟨cellB h.res 0 rfl, cellB h.res 1 rfl, cellB h.res 2 rfl, cellB h.res 3 rfl⟩
theorem Fr2.fs (h : Fr2 w bt k key val s t m W) : W.frozen? ⟨w.heap.size + 1, 0, none⟩ = false ∧ W.frozen? ⟨w.heap.size + 1, 1, none⟩ = false ∧ W.frozen? ⟨w.heap.size + 1, 2, none⟩ = false ∧ W.frozen? ⟨w.heap.size + 1, 3, none⟩ = false :=
  ⟨unfrozen_of_block h.res 0, unfrozen_of_block h.res 1, unfrozen_of_block h.res 2, unfrozen_of_block h.res 3⟩
end
theorem TH.neRes {W : World} {bt b : Nat} {l : List Rw} {cs : Array Value} (h : TH W bt l) (hb : W.heap[b]? = some (.cells cs ResT (0, 0))) : bt ≠ b := by
  obtain ⟨_, a, cap, hg, _⟩ := h
  rintro rfl
  rw [hb] at hg
  simp only [Option.some.injEq, Obj.cells.injEq] at hg
  exact absurd hg.2.1 (by decide)
theorem TH.set4 {W : World} {bt b : Nat} {l : List Rw} {cs : Array Value} (h : TH W bt l) (hb : W.heap[b]? = some (.cells cs ResT (0, 0))) (u0 u1 u2 u3 : Value) : TH (set4 W b u0 u1 u2 u3) bt l := by
  obtain ⟨ht, a, cap, hg, hr⟩ := h
  have h1 : bt ≠ b := by
    rintro rfl
    rw [hb] at hg
    simp only [Option.some.injEq, Obj.cells.injEq] at hg
    exact absurd hg.2.1 (by decide)
  refine ⟨ht, a, cap, (set4_other _ _ _ h1 _ _ _ _).trans hg, hr.stay fun g hgb => set4_other _ _ _ ?_ _ _ _ _⟩
  rintro rfl
  obtain ⟨cur, hc⟩ := hr.lt hgb
  rw [hb] at hc
  simp only [Option.some.injEq, Obj.cells.injEq] at hc
  exact absurd hc.2.1 (by decide)
theorem RL.set4 {W : World} {b : Nat} {l : List Rw} {cs : Array Value} {a : Option Addr} {cap : Nat} (hr : RL W a cap l) (hb : W.heap[b]? = some (.cells cs ResT (0, 0))) (u0 u1 u2 u3 : Value) : RL (Tb.set4 W b u0 u1 u2 u3) a cap l := by
  refine hr.stay fun g hgb => set4_other _ _ _ ?_ _ _ _ _
  rintro rfl
  obtain ⟨cur, hc⟩ := hr.lt hgb
  rw [hb] at hc
  simp only [Option.some.injEq, Obj.cells.injEq] at hc
  exact absurd hc.2.1 (by decide)
theorem Turn.set4 {w W : World} {bt b : Nat} (h : Turn bt w W) (hb : w.heap.size ≤ b) (u0 u1 u2 u3 : Value) : Turn bt w (Tb.set4 W b u0 u1 u2 u3) :=
  ⟨h.os, h.tape, h.output, by simpa using h.size, fun k hk hn => (set4_other _ _ _ (by omega) _ _ _ _).trans (h.block k hk hn)⟩
/-- a table that has turned, and a result without rows -/
theorem ResP.put {bt : Nat} {w W : World} {l' : List Rw} {c s : Int} {v : ByteArray} {kk : Int} {key val : ByteArray} {st tt mm : Int} (hf : Fr2 w bt kk key val st tt mm W) (hT : TH W bt l') (hN : ∀ g, tabBlk W bt = some g → w.heap.size ≤ g) (u0 u1 u2 u3 : Value) : ResP bt w (Tb.rs c s v, l') ⟨Tb.rs c s v, none, 0⟩ (Tb.set4 W (w.heap.size + 1) u0 u1 u2 u3) :=
  ⟨rfl, Or.inl ⟨rfl, rfl, rfl⟩, fun _ h => (nomatch h), hT.set4 hf.res _ _ _ _, Turn.set4 hf.turn (Nat.le_succ _) _ _ _ _, fun g hg => Or.inr (hN g (by rw [← hg]; exact (tabBlk_same (set4_other _ _ _ (hT.neRes hf.res) _ _ _ _)).symm)), fun _ h => (nomatch h)⟩

section
variable {w : World} {bt : Nat} {k : Int} {key val : ByteArray} {s t m : Int} {v : Value} {W W' w1 : World} {res : Rs × List Rw} {R : RsA}
theorem Fr.res1 (hF : Fr w bt k key val s t m v W) (hlt : bt < w.heap.size) (h : Turn bt W w1) : w1.heap[w.heap.size + 1]? = some (.cells rs0 ResT (0, 0)) :=
  (h.block _ hF.lt (by show w.heap.size + 1 ≠ bt; omega)).trans hF.res
theorem ResP.lift (hF : Fr w bt k key val s t m v W) (hlt : bt < w.heap.size) (h : ResP bt W res R w1) (u0 u1 u2 u3 : Value) : ResP bt w res R (Tb.set4 w1 (w.heap.size + 1) u0 u1 u2 u3) := by
  have hr := hF.res1 hlt h.turn
  exact ⟨h.eq, h.rows.set4 hr _ _ _ _, fun g hg => Nat.le_trans hF.bel.size (h.new g hg), h.tab.set4 hr _ _ _ _, Turn.set4 ((Only.of_below hF.bel).trans h.turn) (Nat.le_succ _) _ _ _ _, fun g hg => by
    rw [tabBlk_same (set4_other _ _ _ (h.tab.neRes hr) _ _ _ _)] at hg
    rcases h.own g hg with h1 | h1
    · exact Or.inl (by rw [← h1]; exact (tabBlk_same (hF.bel.block bt hlt)).symm)
    · exact Or.inr (Nat.le_trans hF.bel.size h1), fun g hg => by
    rw [tabBlk_same (set4_other _ _ _ (h.tab.neRes hr) _ _ _ _)]
    exact h.apart g hg⟩
end

end Go.Proofs.Ythdempdiibjabaa.Tb
