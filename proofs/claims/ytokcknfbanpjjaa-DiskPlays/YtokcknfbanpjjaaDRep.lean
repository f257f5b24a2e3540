/- Where a disk lies: its block, its map's, the rows of its files; what a call may touch. -/
import Derived.Test.YtokcknfbanpjjaaDPure
namespace Go.Proofs.Ytokcknfbanpjjaa.Dk
open Go.RowKit Go.Maps Go.Joins

/-- nothing but what is owned has turned -/
structure Only (own : Nat → Prop) (w w' : World) : Prop where
  os : w'.os = w.os
  tape : w'.tape = w.tape
  output : w'.output = w.output
  size : w.heap.size ≤ w'.heap.size
  block : ∀ k, k < w.heap.size → ¬ own k → w'.heap[k]? = w.heap[k]?
theorem Only.refl (own : Nat → Prop) (w : World) : Only own w w := ⟨rfl, rfl, rfl, Nat.le_refl _, fun _ _ _ => rfl⟩
theorem Only.trans {own : Nat → Prop} {a b c : World} (h : Only own a b) (k : Only own b c) : Only own a c :=
  ⟨k.os.trans h.os, k.tape.trans h.tape, k.output.trans h.output, Nat.le_trans h.size k.size, fun i hi hn => (k.block i (Nat.lt_of_lt_of_le hi h.size) hn).trans (h.block i hi hn)⟩
theorem Only.of_below {own : Nat → Prop} {w w' : World} (h : Below w.heap.size w w') : Only own w w' := ⟨h.os, h.tape, h.output, h.size, fun k hk _ => h.block k hk⟩
theorem Only.of_grown {own : Nat → Prop} {w w' : World} {row : Option Nat} (h : w.grownBy w' row) (hr : ∀ k, row = some k → own k) : Only own w w' :=
  ⟨h.os, h.tape, h.output, h.size, fun k hk hn => h.block k hk fun e => hn (hr k e.symm)⟩
theorem Only.of_set {own : Nat → Prop} (w : World) {a : Addr} (h : own a.block) (v : Value) : Only own w (w.setCell a v) :=
  ⟨rfl, rfl, rfl, by simp, fun k _ hn => Below.heap_setCell w a v k fun e => hn (by rw [e]; exact h)⟩
theorem Only.below {own : Nat → Prop} {w w' : World} (h : Only own w w') {B : Nat} (hB : B ≤ w.heap.size) (ho : ∀ b, own b → B ≤ b) : Below B w w' :=
  ⟨h.os, h.tape, h.output, h.size, fun k hk => h.block k (Nat.lt_of_lt_of_le hk hB) fun e => by have := ho k e; omega⟩
theorem Only.mono {own own' : Nat → Prop} {w w' : World} (h : Only own w w') (ho : ∀ b, b < w.heap.size → own b → own' b) : Only own' w w' :=
  ⟨h.os, h.tape, h.output, h.size, fun k hk hn => h.block k hk fun e => hn (ho k hk e)⟩
/-- what is not there yet is owned -/
def Fresh (own : Nat → Prop) (w : World) : Prop := ∀ b, w.heap.size ≤ b → own b
theorem Fresh.later {own : Nat → Prop} {w w' : World} (h : Fresh own w) (hs : w.heap.size ≤ w'.heap.size) : Fresh own w' := fun b hb => h b (Nat.le_trans hs hb)

abbrev Dsk : TypeId := 39
abbrev MapT : TypeId := 37
theorem keyed : Keyed Try.prog 9 := string_keyed Try.underlying9
theorem zero_file (w : World) : (zeroValue 61).run Try.prog w = .ok (FV (.slice none 0 0) 0) w := by kernel_rfl
theorem key_str (s : ByteArray) (h : s.size ≤ 140737488351232) : keyOf Try.prog 9 (.string s) = some (.string s.data.toList) := by
  have hm : s.size ≤ maxLen := by unfold maxLen; omega
  simp [keyOf, mapKey, Try.underlying9, hm]

/-- a file's row -/
def RowOk (w : World) (own : Nat → Prop) (x : Ent) : Prop := w.ownsRow 0 5 1 x.1 x.2.data.length (bys x.2.data) ∧ ∀ g, x.1.ownBlock = some g → own g
/-- no block is two files' -/
def Apart (x y : Ent) : Prop := ∀ g, x.1.ownBlock = some g → y.1.ownBlock ≠ some g
def RowsOk (w : World) (own : Nat → Prop) (l : List (Bs × Ent)) : Prop := (∀ p ∈ l, RowOk w own p.2) ∧ l.Pairwise fun p q => Apart p.2 q.2
structure Base (w : World) (own : Nat → Prop) (bd bm : Nat) (room : Nat) (l : List (Bs × Ent)) (fuse : Int) (down : Bool) : Prop where
  block : w.heap[bd]? = some (.cells #[.int .i64 room, .map (some bm), .int .i64 fuse, .bool down] Dsk (0, 0))
  map : w.ownsMap Try.prog 9 RV bm l.length (DD l)
  ownD : own bd
  ownM : own bm
structure HeldL (w : World) (own : Nat → Prop) (bd bm : Nat) (room : Nat) (l : List (Bs × Ent)) (fuse : Int) (down : Bool) : Prop where
  base : Base w own bd bm room l fuse down
  rows : RowsOk w own l

theorem Apart.symm {x y : Ent} (h : Apart x y) : Apart y x := fun g h1 h2 => h g h2 h1
theorem RowOk.cell {w : World} {own : Nat → Prop} {x : Ent} (h : RowOk w own x) {g : Nat} (hg : x.1.ownBlock = some g) : ∃ cur, w.heap[g]? = some (.cells cur 5 (0, 0)) := by
  rcases h.1.2 with ⟨e, _⟩ | ⟨g', cap, cur, e, _, hg', _⟩
  · rw [e] at hg; simp [Value.ownBlock] at hg
  · rw [e] at hg; simp [Value.ownBlock] at hg; subst hg; exact ⟨cur, hg'⟩
theorem Base.ne {w : World} {own : Nat → Prop} {bd bm room : Nat} {l : List (Bs × Ent)} {fuse : Int} {down : Bool} (h : Base w own bd bm room l fuse down) : bd ≠ bm := fun e => by
  obtain ⟨es, clock, hb, _⟩ := h.map
  rw [← e, h.block] at hb; cases hb
theorem Base.lt {w : World} {own : Nat → Prop} {bd bm room : Nat} {l : List (Bs × Ent)} {fuse : Int} {down : Bool} (h : Base w own bd bm room l fuse down) : bd < w.heap.size := (Array.getElem?_eq_some_iff.1 h.block).1
theorem Base.rowNe {w : World} {own : Nat → Prop} {bd bm room : Nat} {l : List (Bs × Ent)} {fuse : Int} {down : Bool} (h : Base w own bd bm room l fuse down) {x : Ent} (hr : RowOk w own x) {g : Nat} (hg : x.1.ownBlock = some g) : g ≠ bd ∧ g ≠ bm := by
  obtain ⟨cur, hc⟩ := hr.cell hg
  constructor
  · intro e; rw [e, h.block] at hc; cases hc
  · intro e; obtain ⟨es, clock, hb, _⟩ := h.map; rw [e, hb] at hc; cases hc

theorem ownsMap_stay {w w' : World} {b n : Nat} {D : DataW Value} (h : w.ownsMap Try.prog 9 RV b n D) (e : w'.heap[b]? = w.heap[b]?) : w'.ownsMap Try.prog 9 RV b n D := by
  obtain ⟨es, clock, hb, rest⟩ := h; exact ⟨es, clock, e.trans hb, rest⟩
theorem ownsMap_tight {w : World} {b n : Nat} {l : List (Bs × Ent)} (h : w.ownsMap Try.prog 9 RV b n (DD l)) : w.ownsMap Try.prog 9 RV b l.length (DD l) := by
  obtain ⟨es, clock, hb, F, hs, hD⟩ := h
  refine ⟨es, clock, hb, F, ?_, hD⟩
  have := congrArg Maps.size hD
  rw [DD_size] at this
  simp only [Maps.size, length_sorted, List.length_map, Array.length_toList] at this
  omega
theorem ownsRow_stay {w w' : World} {B e size n : Nat} {v : Value} {xs : List Value} (h : w.ownsRow B e size v n xs) (hs : ∀ g, v.ownBlock = some g → w'.heap[g]? = w.heap[g]?) : w'.ownsRow B e size v n xs := by
  refine ⟨h.1, ?_⟩
  rcases h.2 with hn | ⟨g, cap, cur, rfl, hb, hg, rest⟩
  · exact .inl hn
  · exact .inr ⟨g, cap, cur, rfl, hb, (hs g rfl).trans hg, rest⟩
theorem RowOk.stay {w w' : World} {own : Nat → Prop} {x : Ent} (h : RowOk w own x) (hs : ∀ g, x.1.ownBlock = some g → w'.heap[g]? = w.heap[g]?) : RowOk w' own x := ⟨ownsRow_stay h.1 hs, h.2⟩
theorem RowOk.lt {w : World} {own : Nat → Prop} {x : Ent} (h : RowOk w own x) {g : Nat} (hg : x.1.ownBlock = some g) : g < w.heap.size := by
  obtain ⟨cur, hc⟩ := h.cell hg; exact (Array.getElem?_eq_some_iff.1 hc).1
theorem Base.stay {w w' : World} {own : Nat → Prop} {bd bm room : Nat} {l : List (Bs × Ent)} {fuse : Int} {down : Bool} (h : Base w own bd bm room l fuse down) (h1 : w'.heap[bd]? = w.heap[bd]?) (h2 : w'.heap[bm]? = w.heap[bm]?) : Base w' own bd bm room l fuse down :=
  ⟨h1.trans h.block, ownsMap_stay h.map h2, h.ownD, h.ownM⟩
theorem Base.rising {w : World} {own : Nat → Prop} {bd bm room : Nat} {l : List (Bs × Ent)} {fuse : Int} {down : Bool} (h : Base w own bd bm room l fuse down) : Rising l := DD_rising (h.map.canon keyed)

/-- it stays where nothing that is its own turns -/
theorem HeldL.frame {w w' : World} {own : Nat → Prop} {bd bm room : Nat} {l : List (Bs × Ent)} {fuse : Int} {down : Bool} (h : HeldL w own bd bm room l fuse down) (hs : ∀ k, k < w.heap.size → own k → w'.heap[k]? = w.heap[k]?) : HeldL w' own bd bm room l fuse down :=
  ⟨h.base.stay (hs _ h.base.lt h.base.ownD) (hs _ h.base.map.lt h.base.ownM), fun p hp => (h.rows.1 p hp).stay fun g hg => hs g ((h.rows.1 p hp).lt hg) ((h.rows.1 p hp).2 g hg), h.rows.2⟩
theorem HeldL.below {w w' : World} {own : Nat → Prop} {bd bm room : Nat} {l : List (Bs × Ent)} {fuse : Int} {down : Bool} (h : HeldL w own bd bm room l fuse down) (hb : Below w.heap.size w w') : HeldL w' own bd bm room l fuse down := h.frame fun k hk _ => hb.block k hk
/-- what it owns, anew -/
theorem HeldL.own {w : World} {own own' : Nat → Prop} {bd bm room : Nat} {l : List (Bs × Ent)} {fuse : Int} {down : Bool} (h : HeldL w own bd bm room l fuse down) (ho : ∀ b, b < w.heap.size → own b → own' b) : HeldL w own' bd bm room l fuse down :=
  ⟨⟨h.base.block, h.base.map, ho _ h.base.lt h.base.ownD, ho _ h.base.map.lt h.base.ownM⟩, fun p hp => ⟨(h.rows.1 p hp).1, fun g hg => ho g ((h.rows.1 p hp).lt hg) ((h.rows.1 p hp).2 g hg)⟩, h.rows.2⟩

theorem RowsOk.perm {w : World} {own : Nat → Prop} {l l' : List (Bs × Ent)} (h : RowsOk w own l) (hp : l.Perm l') : RowsOk w own l' :=
  ⟨fun p hp' => h.1 p (hp.mem_iff.2 hp'), hp.pairwise h.2 fun {_ _} hab => hab.symm⟩
theorem RowsOk.del {w : World} {own : Nat → Prop} {l : List (Bs × Ent)} (h : RowsOk w own l) (k : Bs) : RowsOk w own (delL k l) := ⟨fun p hp => h.1 p (mem_delL.1 hp).1, h.2.filter _⟩
theorem RowsOk.put {w : World} {own : Nat → Prop} {l : List (Bs × Ent)} {k : Bs} (h : RowsOk w own (delL k l)) {x : Ent} (hx : RowOk w own x) (ha : ∀ p ∈ delL k l, Apart x p.2) : RowsOk w own (putL k x l) := by
  refine RowsOk.perm (l := (k, x) :: delL k l) ⟨fun p hp => ?_, List.pairwise_cons.2 ⟨ha, h.2⟩⟩ (putL_perm k x l).symm
  rcases List.mem_cons.1 hp with rfl | hp
  · exact hx
  · exact h.1 p hp
/-- the files but one are apart from that one -/
theorem RowsOk.others {w : World} {own : Nat → Prop} {l : List (Bs × Ent)} (h : RowsOk w own l) (hr : Rising l) {k : Bs} {x : Ent} (hk : getL k l = some x) : ∀ p ∈ delL k l, Apart x p.2 := by
  have := (h.perm ((putL_same hr hk) ▸ putL_perm k x l)).2
  exact (List.pairwise_cons.1 this).1

/-- a cell of the disk's own block is set -/
theorem Base.set {w : World} {own : Nat → Prop} {bd bm room : Nat} {l : List (Bs × Ent)} {fuse : Int} {down : Bool} (h : HeldL w own bd bm room l fuse down) {i : Nat} {u : Value} {fuse' : Int} {down' : Bool}
    (e : (#[.int .i64 room, .map (some bm), .int .i64 fuse, .bool down] : Array Value).setIfInBounds i u = #[.int .i64 room, .map (some bm), .int .i64 fuse', .bool down']) : HeldL (w.setCell ⟨bd, i, none⟩ u) own bd bm room l fuse' down' := by
  have hs : ∀ k, k ≠ bd → (w.setCell ⟨bd, i, none⟩ u).heap[k]? = w.heap[k]? := fun k hk => Below.heap_setCell w _ u k hk
  refine ⟨⟨?_, ownsMap_stay h.base.map (hs _ h.base.ne.symm), h.base.ownD, h.base.ownM⟩, fun p hp => (h.rows.1 p hp).stay fun g hg => hs g (h.base.rowNe (h.rows.1 p hp) hg).1, h.rows.2⟩
  rw [block_setCell h.base.block, e]

theorem Base.c0 {w : World} {own : Nat → Prop} {bd bm room : Nat} {l : List (Bs × Ent)} {fuse : Int} {down : Bool} (h : Base w own bd bm room l fuse down) : w.cell? ⟨bd, 0, none⟩ = some (.int .i64 room) := by rw [cell_of_block h.block]; rfl
theorem Base.c1 {w : World} {own : Nat → Prop} {bd bm room : Nat} {l : List (Bs × Ent)} {fuse : Int} {down : Bool} (h : Base w own bd bm room l fuse down) : w.cell? ⟨bd, 1, none⟩ = some (.map (some bm)) := by rw [cell_of_block h.block]; rfl
theorem Base.c2 {w : World} {own : Nat → Prop} {bd bm room : Nat} {l : List (Bs × Ent)} {fuse : Int} {down : Bool} (h : Base w own bd bm room l fuse down) : w.cell? ⟨bd, 2, none⟩ = some (.int .i64 fuse) := by rw [cell_of_block h.block]; rfl
theorem Base.c3 {w : World} {own : Nat → Prop} {bd bm room : Nat} {l : List (Bs × Ent)} {fuse : Int} {down : Bool} (h : Base w own bd bm room l fuse down) : w.cell? ⟨bd, 3, none⟩ = some (.bool down) := by rw [cell_of_block h.block]; rfl
theorem Base.fz {w : World} {own : Nat → Prop} {bd bm room : Nat} {l : List (Bs × Ent)} {fuse : Int} {down : Bool} (h : Base w own bd bm room l fuse down) (i : Nat) : w.frozen? ⟨bd, i, none⟩ = false := unfrozen_of_block h.block i

/-- does the disk take one call more; the fuse and whether it is down behind it -/
def taken (fuse : Int) (down : Bool) : Bool × Int × Bool := if fuse = 0 ∨ down = true then (false, fuse, true) else (true, if fuse = -1 then -1 else fuse - 1, false)

end Go.Proofs.Ytokcknfbanpjjaa.Dk
