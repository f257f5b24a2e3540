/- The ground of layer 2: bytes and texts as cells; strings.Clone; SameTexts. The plain mathematics of layer 2: lists by keys, rising; files; with few words of the model (a map's datum). Where a disk lies: its block, its map's, the rows of its files; what a call may touch. Walks over disk.go: takes; name.go: nameMayBe. Walks over name.go: byteMayBe, nameMayBe. -/
import Derived.Test.YtmpahgklcabihaaGreatProg
import Derived.WalkKit
import Derived.WalkSpells
import Derived.WalkLawsBesides
import Derived.Maps.AppendAt
import Derived.Maps.OwnSet
import Derived.Maps.RangeWalk
import Derived.Maps.Ext
import Derived.Sort.KeysCollected
import Derived.Laws.IdiomStrings
import Derived.Laws.MakeOwn
import Derived.Lib.AppendStr
import Derived.Lib.BufferWrite
import Derived.Lib.UnsafeStr
import Derived.Lib.SmallJoins
import Derived.Lib.Hide
import Derived.Lib.Walk
import Derived.Deep.RegionHeld3
import Derived.Deep.QuietTactic
import Derived.BigQuiet
import Derived.WalkSmall
import Derived.Laws.EntriesVeiled
namespace Go.Proofs.YtmpahgklcabihaaGreat.Dk
open Go.RowKit

theorem hide {p : Prop} (h : p) : Hid p := h

theorem ret_int {k : IntKind} {a b : Int} (h : a = b) : Ending.returned (.int k a) = .returned (.int k b) := by rw [h]

theorem val_int {k : IntKind} {a b : Int} (h : a = b) : Value.int k a = .int k b := by rw [h]

theorem u8_info : (Tryz.prog.info? 5).map (fun i => (i.zero, i.size, i.bytes)) = some (some (.int .u8 0), 1, 1) := by kernel_rfl

/-- bytes as cells -/
def bys (l : List UInt8) : List Value := l.map fun b => .int .u8 (b.toNat : Int)

theorem bys_append (a b : List UInt8) : bys (a ++ b) = bys a ++ bys b := by simp [bys]

theorem bys_length (a : List UInt8) : (bys a).length = a.length := by simp [bys]

theorem bys_str (l : List UInt8) (s : ByteArray) : bys l ++ Lib.strCells s = bys (l ++ s.data.toList) := by simp [bys, Lib.strCells]

/-- the value of an owned row is a slice of its length -/
theorem own_slice {w : World} {B e size n : Nat} {v : Value} {l : List Value} (h : w.ownsRow B e size v n l) : ∃ a cap, v = .slice a n cap := by
  rcases h.2 with ⟨rfl, rfl⟩ | ⟨g, cap, cur, rfl, _⟩
  · exact ⟨none, 0, rfl⟩
  · exact ⟨_, cap, rfl⟩

theorem own_mono {w : World} {B B' e size n : Nat} {v : Value} {l : List Value} (h : w.ownsRow B e size v n l) (hB : B' ≤ B) : w.ownsRow B' e size v n l := by
  refine ⟨h.1, ?_⟩
  rcases h.2 with hn | ⟨g, cap, cur, rfl, h1, rest⟩
  · exact .inl hn
  · exact .inr ⟨g, cap, cur, rfl, by omega, rest⟩

theorem own_keepF {B e size : Nat} {v : Value} {m : Nat} {l : List Value} {a b : World} (hb : Below a.heap.size a b) (h : a.ownsRow B e size v m l) : b.ownsRow B e size v m l := by
  refine ⟨h.1, ?_⟩
  rcases h.2 with hn | ⟨g, cap, cur, rfl, h1, hgg, rest⟩
  · exact .inl hn
  · exact .inr ⟨g, cap, cur, rfl, h1, (hb.block g (Array.getElem?_eq_some_iff.1 hgg).1).trans hgg, rest⟩

theorem conv_own {w : World} {B : Nat} {v : Value} {n : Nat} {l : List UInt8} (h : w.ownsRow B 5 1 v n (bys l)) : (convert 64 9 v).run Tryz.prog w = .ok (.string ⟨l.toArray⟩) w := by
  have hlen : l.length = n := by have := h.1; simpa [bys] using this
  subst hlen
  rcases h.2 with ⟨rfl, h0⟩ | ⟨g, cap, cur, rfl, _⟩
  · have : l = [] := List.eq_nil_of_length_eq_zero h0
    subst this
    rw [run_convert_bytes_string w 64 9 5 none 0 0 Tryz.underlying64 Tryz.underlying5 Tryz.underlying9]
    simp [Conv.bytesToString, Sem.run_pure]; rfl
  · refine run_convert_bytes_back w 64 9 5 ⟨g, 0, none⟩ cap l Tryz.underlying64 Tryz.underlying5 Tryz.underlying9 (fun j hj => ?_)
    refine h.cells rfl j _ ?_
    simp [bys, List.getElem?_eq_getElem hj]

theorem cells_u8 : Tryz.prog.cellsOf 5 = 1 := by kernel_rfl

set_option maxHeartbeats 1000000 in
set_option maxRecDepth 100000 in
theorem cloneIn_any (s : ByteArray) (w : World) (hlim : s.size ≤ 140737488351232) :
    Calls Tryz.prog 175 #[.string s] w fun e w' => e = .returned (.string s) ∧ Below w.heap.size w w' := by
  by_cases h0 : s.size = 0
  · obtain rfl : s = ⟨#[]⟩ := ByteArray.ext (Array.eq_empty_of_size_eq_zero h0)
    go_enter Tryz.func175, Tryz.ntmps175
    go_wp2
    go_ret
    exact ⟨rfl, Below.refl _ _⟩
  · obtain ⟨i0, hi, hz0, hz1, hz2⟩ := info_parts u8_info
    have hinfo : (Tryz.prog.info? 5).map (·.size) = some 1 := by rw [hi]; simp [hz1]
    obtain ⟨M, hM⟩ : ∃ M, M = madeCells (Value.int .u8 0).cells (((s.size : Nat) : Int).toNat * i0.size) := ⟨_, rfl⟩
    have hMs : M.size = s.size := by rw [hM, size_madeCells, hz1]; simp
    have hmk : ∀ W : World, (Instr.makeSlice 64 (.int .i64 (s.size : Int)) (.int .i64 (s.size : Int))).run Tryz.prog W = .ok (.slice (some ⟨W.heap.size, 0, none⟩) s.size s.size) (W.alloc (.cells M 5)) := fun W => by
      have h := run_make (P := Tryz.prog) W 64 5 i0 (.int .u8 0) Tryz.underlying64 hi hz0 .i64 .i64 (s.size : Int) (s.size : Int) (by omega) (by omega) (by rw [hz2]; omega) (by omega)
      rw [← hM] at h
      simpa using h
    clear hM
    have hcp := Lib.run_copy_row_string (P := Tryz.prog) (w.alloc (.cells M 5)) 64 9 3 5 w.heap.size 0 s.size s.size s M 5 Tryz.underlying64 hinfo (heap_alloc_new w _) (Nat.le_refl _) (by omega)
    obtain ⟨Y, hY⟩ : ∃ Y, Y = (M.toList.take 0 ++ Lib.byteCells s.data.toList ++ M.toList.drop (0 + s.size)).toArray := ⟨_, rfl⟩
    rw [← hY] at hcp
    have hYl : Y.toList = Lib.byteCells s.data.toList := by
      rw [hY, List.toList_toArray, List.take_zero, List.nil_append, List.drop_of_length_le (by rw [Array.length_toList]; omega), List.append_nil]
    have hYs : Y.size = s.size := by rw [← Array.length_toList, hYl, Lib.byteCells_length, ← Lib.size_eq]
    have hgY : ((w.alloc (.cells M 5)).setRow w.heap.size Y).heap[w.heap.size]? = some (.cells Y 5 (0, 0)) := setRow_heap _ _ M _ 5 (0, 0) (heap_alloc_new w _)
    have hne : s.data.toList ≠ [] := fun e => h0 (by rw [Lib.size_eq, e]; rfl)
    have hUS := Lib.run_unsafeString_row (P := Tryz.prog) ((w.alloc (.cells M 5)).setRow w.heap.size Y) 277 3 9 5 Tryz.underlying277 cells_u8 w.heap.size Y.size (by unfold World.shape?; rw [hgY]) s.data.toList hne (by rw [← Lib.size_eq]; omega) (by rw [← Lib.size_eq]; omega)
      (fun j x hx => Lib.cells_of_row hgY Y.size j _ (by rw [List.take_of_length_le (by rw [Array.length_toList]; exact Nat.le_refl _), hYl]; simp [Lib.byteCells, hx]))
    rw [← Lib.size_eq] at hUS
    clear hY
    go_enter Tryz.func175, Tryz.ntmps175
    go_wp2
    go_ret
    have hb1 : Below w.heap.size w (w.alloc (.cells M 5)) := (Below.refl _ w).alloc (Nat.le_refl _) _
    have hb2 : Below w.heap.size (w.alloc (.cells M 5)) ((w.alloc (.cells M 5)).setRow w.heap.size Y) := ⟨rfl, rfl, rfl, by simp, fun k hk => setRow_other _ _ _ _ (by omega)⟩
    exact ⟨rfl, Lib.below_freeze (hb1.trans hb2) (p := ⟨w.heap.size, 0, none⟩) (Nat.le_refl _) _⟩

set_option maxRecDepth 100000 in
set_option maxHeartbeats 400000 in
theorem clone_any (s : ByteArray) (w : World) (hlim : s.size ≤ 140737488351232) :
    Calls Tryz.prog 129 #[.string s] w fun e w' => e = .returned (.string s) ∧ Below w.heap.size w w' := by
  go_enter Tryz.func129, Tryz.ntmps129
  go_wp2_with fail
  refine (cloneIn_any _ _ hlim).mono ?_
  rintro e w' ⟨rfl, hb⟩
  go_wp2
  go_ret
  exact ⟨rfl, hb⟩

def tcells (l : List ByteArray) : List Value := l.map Value.string

theorem tcells_snoc (l : List ByteArray) (x : ByteArray) : tcells (l ++ [x]) = tcells l ++ [.string x] := by simp [tcells]

/-- the texts of a slice lie behind its address -/
def LiesT (w : World) (a : Option Addr) (ts : List ByteArray) : Prop := ts = [] ∨ ∃ b off, a = some ⟨b, off, none⟩ ∧ b < w.heap.size ∧ ∀ i (h : i < ts.length), w.cell? ⟨b, off + i, none⟩ = some (.string ts[i])

theorem LiesT.at {w wr : World} {a : Option Addr} {ts : List ByteArray} (h : LiesT w a ts) (k : Nat) (hk : k < ts.length) (hb : Below w.heap.size w wr) : ∃ b off, a = some ⟨b, off, none⟩ ∧ wr.cell? ⟨b, off + k, none⟩ = some (.string ts[k]) := by
  rcases h with rfl | ⟨b, off, rfl, hlt, hl⟩
  · simp at hk
  · exact ⟨b, off, rfl, (hb.cell (p := ⟨b, off + k, none⟩) hlt).trans (hl k hk)⟩

theorem LiesT.later {w wr : World} {a : Option Addr} {ts : List ByteArray} (h : LiesT w a ts) (hb : Below w.heap.size w wr) : LiesT wr a ts := by
  rcases h with rfl | ⟨b, off, rfl, hlt, hl⟩
  · exact Or.inl rfl
  · exact Or.inr ⟨b, off, rfl, Nat.lt_of_lt_of_le hlt hb.size, fun k hk => (hb.cell (p := ⟨b, off + k, none⟩) hlt).trans (hl k hk)⟩

theorem own_liesT {w : World} {B : Nat} {v : Value} {l : List ByteArray} (h : w.ownsRow B 9 1 v l.length (tcells l)) : ∃ a cap, v = .slice a l.length cap ∧ LiesT w a l := by
  rcases h.2 with ⟨rfl, h0⟩ | ⟨g, cap, cur, rfl, hb, hg, rest⟩
  · exact ⟨none, 0, by rw [h0], Or.inl (List.eq_nil_of_length_eq_zero h0)⟩
  · refine ⟨_, cap, rfl, Or.inr ⟨g, 0, rfl, (Array.getElem?_eq_some_iff.1 hg).1, fun i hi => ?_⟩⟩
    rw [Nat.zero_add, h.cellAt _ (by omega)]
    simp [tcells, List.getElem?_eq_getElem hi]

end Go.Proofs.YtmpahgklcabihaaGreat.Dk

namespace Go.Proofs.YtmpahgklcabihaaGreat.Dk
open Go.Maps

abbrev Bs := List UInt8
section
variable {α β : Type}
/-- a pair into its place -/
def insL (x : Bs × α) : List (Bs × α) → List (Bs × α)
  | [] => [x]
  | y :: r => if bytesBefore x.1 y.1 then x :: y :: r else y :: insL x r
def delL (k : Bs) (l : List (Bs × α)) : List (Bs × α) := l.filter fun p => !(p.1 == k)
def putL (k : Bs) (a : α) (l : List (Bs × α)) : List (Bs × α) := insL (k, a) (delL k l)
def getL (k : Bs) (l : List (Bs × α)) : Option α := (l.find? fun p => p.1 == k).map (·.2)
def Rising (l : List (Bs × α)) : Prop := l.Pairwise fun p q => bytesBefore p.1 q.1 = true

theorem insL_map (f : α → β) (x : Bs × α) : ∀ l : List (Bs × α), (insL x l).map (fun p => (p.1, f p.2)) = insL (x.1, f x.2) (l.map fun p => (p.1, f p.2))
  | [] => rfl
  | y :: r => by
    simp only [insL, List.map_cons]
    split
    · rfl
    · rw [List.map_cons, insL_map f x r]
theorem delL_map (f : α → β) (k : Bs) (l : List (Bs × α)) : (delL k l).map (fun p => (p.1, f p.2)) = delL k (l.map fun p => (p.1, f p.2)) := by
  simp only [delL, List.filter_map]; rfl
theorem putL_map (f : α → β) (k : Bs) (a : α) (l : List (Bs × α)) : (putL k a l).map (fun p => (p.1, f p.2)) = putL k (f a) (l.map fun p => (p.1, f p.2)) := by
  rw [putL, insL_map, delL_map]; rfl
theorem getL_map (f : α → β) (k : Bs) (l : List (Bs × α)) : getL k (l.map fun p => (p.1, f p.2)) = (getL k l).map f := by
  simp only [getL, List.find?_map, Option.map_map]
  rfl

theorem insL_perm (x : Bs × α) : ∀ l : List (Bs × α), (insL x l).Perm (x :: l)
  | [] => List.Perm.refl _
  | y :: r => by
    simp only [insL]
    split
    · exact List.Perm.refl _
    · exact ((insL_perm x r).cons y).trans (List.Perm.swap x y r)
theorem putL_perm (k : Bs) (a : α) (l : List (Bs × α)) : (putL k a l).Perm ((k, a) :: delL k l) := insL_perm _ _
theorem mem_delL {k : Bs} {l : List (Bs × α)} {p : Bs × α} : p ∈ delL k l ↔ p ∈ l ∧ p.1 ≠ k := by simp [delL]
theorem mem_putL {k : Bs} {a : α} {l : List (Bs × α)} {p : Bs × α} : p ∈ putL k a l ↔ p = (k, a) ∨ (p ∈ l ∧ p.1 ≠ k) := by
  rw [(putL_perm k a l).mem_iff, List.mem_cons, mem_delL]

theorem Rising.del {k : Bs} {l : List (Bs × α)} (h : Rising l) : Rising (delL k l) := List.Pairwise.filter _ h
theorem insL_rising {x : Bs × α} : ∀ {l : List (Bs × α)}, Rising l → (∀ p ∈ l, p.1 ≠ x.1) → Rising (insL x l)
  | [], _, _ => by simp [insL, Rising]
  | y :: r, h, hne => by
    rw [Rising, List.pairwise_cons] at h
    simp only [insL]
    by_cases hb : bytesBefore x.1 y.1 = true
    · rw [if_pos hb, Rising, List.pairwise_cons, List.pairwise_cons]
      refine ⟨fun p hp => ?_, h⟩
      rcases List.mem_cons.1 hp with rfl | hp
      · exact hb
      · exact WideShapes.bytes_trans _ _ _ hb (h.1 p hp)
    · rw [if_neg hb, Rising, List.pairwise_cons]
      refine ⟨fun p hp => ?_, insL_rising h.2 fun p hp => hne p (List.mem_cons_of_mem _ hp)⟩
      rcases List.mem_cons.1 ((insL_perm x r).mem_iff.1 hp) with rfl | hp
      · rcases WideAt.bytes_total y.1 p.1 (hne y (List.mem_cons_self ..)) with h1 | h1
        · exact h1
        · exact absurd h1 hb
      · exact h.1 p hp
theorem Rising.put {k : Bs} {a : α} {l : List (Bs × α)} (h : Rising l) : Rising (putL k a l) := insL_rising h.del fun _ hp => (mem_delL.1 hp).2
theorem Rising.inj {l : List (Bs × α)} (h : Rising l) : ∀ {p q}, p ∈ l → q ∈ l → p.1 = q.1 → p = q := by
  induction l with
  | nil => intro p q hp; simp at hp
  | cons y r ih =>
    rw [Rising, List.pairwise_cons] at h
    intro p q hp hq e
    rcases List.mem_cons.1 hp with rfl | hp' <;> rcases List.mem_cons.1 hq with rfl | hq'
    · rfl
    · have := h.1 q hq'; rw [e, WideAt.bytes_irrefl] at this; cases this
    · have := h.1 p hp'; rw [e, WideAt.bytes_irrefl] at this; cases this
    · exact ih h.2 hp' hq' e
/-- two rising lists of the same members are one -/
theorem Rising.ext {l₁ l₂ : List (Bs × α)} (h1 : Rising l₁) (h2 : Rising l₂) (h : ∀ p, p ∈ l₁ ↔ p ∈ l₂) : l₁ = l₂ := by
  have nd : ∀ {l : List (Bs × α)}, Rising l → l.Nodup := fun hl => List.Pairwise.imp (fun {a b} hab e => by subst e; rw [WideAt.bytes_irrefl] at hab; cases hab) hl
  refine List.Perm.eq_of_pairwise (le := fun (a b : Bs × α) => bytesBefore a.1 b.1 = true) (fun a b ha hb hab hba => ?_) h1 h2 ((List.perm_ext_iff_of_nodup (nd h1) (nd h2)).2 h)
  have := WideShapes.bytes_trans _ _ _ hab hba
  rw [WideAt.bytes_irrefl] at this; cases this

theorem getL_some {l : List (Bs × α)} {k : Bs} {a : α} (h : getL k l = some a) : (k, a) ∈ l := by
  simp only [getL, Option.map_eq_some_iff] at h
  obtain ⟨p, hp, rfl⟩ := h
  have h1 := List.mem_of_find?_eq_some hp
  have h2 := List.find?_some hp
  simp only [beq_iff_eq] at h2
  subst h2
  exact h1
theorem getL_of_mem {l : List (Bs × α)} (hr : Rising l) {k : Bs} {a : α} (h : (k, a) ∈ l) : getL k l = some a := by
  cases hg : getL k l with
  | none =>
    simp only [getL, Option.map_eq_none_iff, List.find?_eq_none] at hg
    exact absurd (by simp) (hg _ h)
  | some b => have := hr.inj (getL_some hg) h rfl; simp only [Prod.mk.injEq, true_and] at this; rw [this]
theorem getL_none {l : List (Bs × α)} {k : Bs} (h : getL k l = none) : ∀ p ∈ l, p.1 ≠ k := by
  simp only [getL, Option.map_eq_none_iff, List.find?_eq_none, beq_iff_eq] at h
  exact h
theorem delL_none {l : List (Bs × α)} {k : Bs} (h : getL k l = none) : delL k l = l := by
  rw [delL, List.filter_eq_self]
  intro p hp
  simpa using getL_none h p hp
theorem putL_same {l : List (Bs × α)} (hr : Rising l) {k : Bs} {a : α} (h : getL k l = some a) : putL k a l = l := by
  refine hr.put.ext hr fun p => ?_
  rw [mem_putL]
  constructor
  · rintro (rfl | ⟨h1, _⟩)
    · exact getL_some h
    · exact h1
  · intro hp
    by_cases e : p.1 = k
    · left; have := hr.inj hp (getL_some h) e; rw [this]
    · exact Or.inr ⟨hp, e⟩
theorem putL_put {l : List (Bs × α)} (hr : Rising l) {k : Bs} {a b : α} : putL k b (putL k a l) = putL k b l := by
  refine hr.put.put.ext hr.put fun p => ?_
  simp only [mem_putL]
  constructor
  · rintro (rfl | ⟨rfl | ⟨h1, h2⟩, h3⟩)
    · exact Or.inl rfl
    · exact absurd rfl h3
    · exact Or.inr ⟨h1, h2⟩
  · rintro (rfl | ⟨h1, h2⟩)
    · exact Or.inl rfl
    · exact Or.inr ⟨Or.inr ⟨h1, h2⟩, h2⟩
theorem getL_put {l : List (Bs × α)} (hr : Rising l) (k : Bs) (a : α) : getL k (putL k a l) = some a := getL_of_mem hr.put (mem_putL.2 (Or.inl rfl))
theorem delL_length {l : List (Bs × α)} (hr : Rising l) {k : Bs} {a : α} (h : getL k l = some a) : (delL k l).length + 1 = l.length := by
  have := (putL_perm k a l).length_eq
  rw [putL_same hr h] at this
  simpa using this.symm

/-- the sum over a list -/
def sumL (g : α → Nat) (l : List (Bs × α)) : Nat := (l.map fun p => g p.2).sum
theorem sumL_perm (g : α → Nat) {l l' : List (Bs × α)} (h : l.Perm l') : sumL g l = sumL g l' := (h.map _).sum_nat
theorem sumL_put (g : α → Nat) (k : Bs) (a : α) (l : List (Bs × α)) : sumL g (putL k a l) = g a + sumL g (delL k l) := by
  rw [sumL_perm g (putL_perm k a l)]; rfl
theorem sumL_del (g : α → Nat) {l : List (Bs × α)} (hr : Rising l) {k : Bs} {a : α} (h : getL k l = some a) : g a + sumL g (delL k l) = sumL g l := by
  rw [← sumL_put, putL_same hr h]
end

/-- a file -/
structure Fil where
  data : Bs
  safe : Nat
abbrev Fls := List (Bs × Fil)
def used (l : Fls) : Nat := sumL (fun f => f.data.length) l

/-- a map's elements as they are -/
abbrev RV : Value → Option (DataW Value × List MemPlace) := fun v => some (.held v, [])
/-- a file as the map has it: its slice, its safe bytes -/
abbrev FV (v : Value) (safe : Nat) : Value := .agg #[v, .int .i64 safe]
abbrev Ent := Value × Fil
def encE (p : Bs × Ent) : Lit × DataW Value := (.string p.1, .held (FV p.2.1 p.2.2.safe))
def DD (l : List (Bs × Ent)) : DataW Value := .map (l.map encE)

theorem DD_has (l : List (Bs × Ent)) (k : Bs) : has (DD l) (.string k) = (getL k l).isSome := by
  simp only [DD, has_eq, getL, Option.isSome_map]
  induction l with
  | nil => rfl
  | cons p r ih =>
    simp only [List.map_cons, List.any_cons, ih, List.find?_cons]
    have : (encE p).1.sameKey (.string k) = (p.1 == k) := rfl
    rw [this]
    cases p.1 == k <;> simp
theorem DD_at (l : List (Bs × Ent)) (k : Bs) (z : DataW Value) : (DD l).atKey (.string k) z = match getL k l with | some x => .held (FV x.1 x.2.safe) | none => z := by
  simp only [DD, DataW.atKey, getL]
  induction l with
  | nil => rfl
  | cons p r ih =>
    simp only [List.map_cons, List.find?_cons]
    have : (encE p).1.sameKey (.string k) = (p.1 == k) := rfl
    rw [this]
    cases p.1 == k
    · exact ih
    · rfl
theorem DD_size (l : List (Bs × Ent)) : Maps.size (DD l) = l.length := by simp [DD, Maps.size]
theorem DD_ins (k : Bs) (x : Ent) : ∀ l : List (Bs × Ent), DataW.insert (encE (k, x)) (l.map encE) = (insL (k, x) l).map encE
  | [] => rfl
  | y :: r => by
    simp only [List.map_cons, DataW.insert, insL]
    have : (encE (k, x)).1.before (encE y).1 = bytesBefore k y.1 := rfl
    rw [this]
    split
    · rfl
    · rw [List.map_cons, DD_ins k x r]
theorem DD_filter (k : Bs) (l : List (Bs × Ent)) : (l.map encE).filter (fun p => !p.1.sameKey (.string k)) = (delL k l).map encE := by
  rw [List.filter_map]; rfl
theorem DD_put (l : List (Bs × Ent)) (k : Bs) (v : Value) (f : Fil) : (DD l).put (.string k) (.held (FV v f.safe)) = DD (putL k (v, f) l) := by
  simp only [DD, DataW.put, DD_filter]
  exact congrArg DataW.map (DD_ins k (v, f) _)
theorem DD_del (l : List (Bs × Ent)) (k : Bs) : (DD l).del (.string k) = DD (delL k l) := by
  simp only [DD, DataW.del, DD_filter]
theorem DD_keys (l : List (Bs × Ent)) : strKeys (DD l) = l.map (·.1) := by
  simp only [strKeys, DD, List.map_map]; rfl
theorem DD_rising {l : List (Bs × Ent)} (h : Canon (DD l)) : Rising l := by
  obtain ⟨es, he, hp, _⟩ := h
  simp only [DD, DataW.map.injEq] at he
  subst he
  exact List.pairwise_map.1 hp

theorem before_le : ∀ (a b : Bs), bytesBefore a b = true → a ≤ b
  | [], _, _ => by simp
  | _ :: _, [], h => by simp [bytesBefore] at h
  | x :: r, y :: s, h => by
    simp only [bytesBefore, Bool.or_eq_true, decide_eq_true_eq, Bool.and_eq_true, beq_iff_eq] at h
    rw [List.cons_le_cons_iff]
    rcases h with h | ⟨rfl, h⟩
    · exact Or.inl h
    · exact Or.inr ⟨rfl, before_le r s h⟩
theorem keys_sorted {α : Type} {l : List (Bs × α)} (h : Rising l) : (l.map (·.1)).mergeSort leB = l.map (·.1) := by
  refine List.mergeSort_of_pairwise (List.pairwise_map.2 (List.Pairwise.imp (fun {a b} hab => ?_) h))
  simp only [leB, decide_eq_true_eq]
  exact before_le _ _ hab

end Go.Proofs.YtmpahgklcabihaaGreat.Dk

namespace Go.Proofs.YtmpahgklcabihaaGreat.Dk
open Go.RowKit Go.Maps Go.Joins

/-- nothing but what is owned has turned -/
structure Only (own : Nat → Prop) (w w' : World) : Prop where
  os : w'.os = w.os
  tape : w'.tape = w.tape
  output : w'.output = w.output
  size : w.heap.size ≤ w'.heap.size
  block : ∀ k, k < w.heap.size → ¬ own k → w'.heap[k]? = w.heap[k]?
theorem Only.refl (own : Nat → Prop) (w : World) : Only own w w := ⟨rfl, rfl, rfl, Nat.le_refl _, fun _ _ _ => rfl⟩
theorem Only.trans {own : Nat → Prop} {a b c : World} (h : Only own a b) (k : Only own b c) : Only own a c :=
  ⟨k.os.trans h.os, k.tape.trans h.tape, k.output.trans h.output, Nat.le_trans h.size k.size, fun i hi hn => (k.block i (Nat.lt_of_lt_of_le hi h.size) hn).trans (h.block i hi hn)⟩
theorem Only.of_below {own : Nat → Prop} {w w' : World} (h : Below w.heap.size w w') : Only own w w' := ⟨h.os, h.tape, h.output, h.size, fun k hk _ => h.block k hk⟩
theorem Only.of_grown {own : Nat → Prop} {w w' : World} {row : Option Nat} (h : w.grownBy w' row) (hr : ∀ k, row = some k → own k) : Only own w w' :=
  ⟨h.os, h.tape, h.output, h.size, fun k hk hn => h.block k hk fun e => hn (hr k e.symm)⟩
theorem Only.of_set {own : Nat → Prop} (w : World) {a : Addr} (h : own a.block) (v : Value) : Only own w (w.setCell a v) :=
  ⟨rfl, rfl, rfl, by simp, fun k _ hn => Below.heap_setCell w a v k fun e => hn (by rw [e]; exact h)⟩
theorem Only.below {own : Nat → Prop} {w w' : World} (h : Only own w w') {B : Nat} (hB : B ≤ w.heap.size) (ho : ∀ b, own b → B ≤ b) : Below B w w' :=
  ⟨h.os, h.tape, h.output, h.size, fun k hk => h.block k (Nat.lt_of_lt_of_le hk hB) fun e => by have := ho k e; omega⟩
theorem Only.mono {own own' : Nat → Prop} {w w' : World} (h : Only own w w') (ho : ∀ b, b < w.heap.size → own b → own' b) : Only own' w w' :=
  ⟨h.os, h.tape, h.output, h.size, fun k hk hn => h.block k hk fun e => hn (ho k hk e)⟩
/-- what is not there yet is owned -/
def Fresh (own : Nat → Prop) (w : World) : Prop := ∀ b, w.heap.size ≤ b → own b
theorem Fresh.later {own : Nat → Prop} {w w' : World} (h : Fresh own w) (hs : w.heap.size ≤ w'.heap.size) : Fresh own w' := fun b hb => h b (Nat.le_trans hs hb)

abbrev Dsk : TypeId := 72
abbrev MapT : TypeId := 70
theorem keyed : Keyed Tryz.prog 9 := string_keyed Tryz.underlying9
theorem zero_file (w : World) : (zeroValue 131).run Tryz.prog w = .ok (FV (.slice none 0 0) 0) w := by kernel_rfl
theorem key_str (s : ByteArray) (h : s.size ≤ 140737488351232) : keyOf Tryz.prog 9 (.string s) = some (.string s.data.toList) := by
  have hm : s.size ≤ maxLen := by unfold maxLen; omega
  simp [keyOf, mapKey, Tryz.underlying9, hm]

/-- a file's row -/
def RowOk (w : World) (own : Nat → Prop) (x : Ent) : Prop := w.ownsRow 0 5 1 x.1 x.2.data.length (bys x.2.data) ∧ ∀ g, x.1.ownBlock = some g → own g
/-- no block is two files' -/
def Apart (x y : Ent) : Prop := ∀ g, x.1.ownBlock = some g → y.1.ownBlock ≠ some g
def RowsOk (w : World) (own : Nat → Prop) (l : List (Bs × Ent)) : Prop := (∀ p ∈ l, RowOk w own p.2) ∧ l.Pairwise fun p q => Apart p.2 q.2
structure Base (w : World) (own : Nat → Prop) (bd bm : Nat) (room : Nat) (l : List (Bs × Ent)) (fuse : Int) (down : Bool) : Prop where
  block : w.heap[bd]? = some (.cells #[.int .i64 room, .map (some bm), .int .i64 fuse, .bool down] Dsk (0, 0))
  map : w.ownsMap Tryz.prog 9 RV bm l.length (DD l)
  ownD : own bd
  ownM : own bm
structure HeldL (w : World) (own : Nat → Prop) (bd bm : Nat) (room : Nat) (l : List (Bs × Ent)) (fuse : Int) (down : Bool) : Prop where
  base : Base w own bd bm room l fuse down
  rows : RowsOk w own l

theorem Apart.symm {x y : Ent} (h : Apart x y) : Apart y x := fun g h1 h2 => h g h2 h1
theorem RowOk.cell {w : World} {own : Nat → Prop} {x : Ent} (h : RowOk w own x) {g : Nat} (hg : x.1.ownBlock = some g) : ∃ cur, w.heap[g]? = some (.cells cur 5 (0, 0)) := by
  rcases h.1.2 with ⟨e, _⟩ | ⟨g', cap, cur, e, _, hg', _⟩
  · rw [e] at hg; simp [Value.ownBlock] at hg
  · rw [e] at hg; simp [Value.ownBlock] at hg; subst hg; exact ⟨cur, hg'⟩
theorem Base.ne {w : World} {own : Nat → Prop} {bd bm room : Nat} {l : List (Bs × Ent)} {fuse : Int} {down : Bool} (h : Base w own bd bm room l fuse down) : bd ≠ bm := fun e => by
  obtain ⟨es, clock, hb, _⟩ := h.map
  rw [← e, h.block] at hb; cases hb
theorem Base.lt {w : World} {own : Nat → Prop} {bd bm room : Nat} {l : List (Bs × Ent)} {fuse : Int} {down : Bool} (h : Base w own bd bm room l fuse down) : bd < w.heap.size := (Array.getElem?_eq_some_iff.1 h.block).1
theorem Base.rowNe {w : World} {own : Nat → Prop} {bd bm room : Nat} {l : List (Bs × Ent)} {fuse : Int} {down : Bool} (h : Base w own bd bm room l fuse down) {x : Ent} (hr : RowOk w own x) {g : Nat} (hg : x.1.ownBlock = some g) : g ≠ bd ∧ g ≠ bm := by
  obtain ⟨cur, hc⟩ := hr.cell hg
  constructor
  · intro e; rw [e, h.block] at hc; cases hc
  · intro e; obtain ⟨es, clock, hb, _⟩ := h.map; rw [e, hb] at hc; cases hc

theorem ownsMap_stay {w w' : World} {b n : Nat} {D : DataW Value} (h : w.ownsMap Tryz.prog 9 RV b n D) (e : w'.heap[b]? = w.heap[b]?) : w'.ownsMap Tryz.prog 9 RV b n D := by
  obtain ⟨es, clock, hb, rest⟩ := h; exact ⟨es, clock, e.trans hb, rest⟩
theorem ownsMap_tight {w : World} {b n : Nat} {l : List (Bs × Ent)} (h : w.ownsMap Tryz.prog 9 RV b n (DD l)) : w.ownsMap Tryz.prog 9 RV b l.length (DD l) := by
  obtain ⟨es, clock, hb, F, hs, hD⟩ := h
  refine ⟨es, clock, hb, F, ?_, hD⟩
  have := congrArg Maps.size hD
  rw [DD_size] at this
  simp only [Maps.size, length_sorted, List.length_map, Array.length_toList] at this
  omega
theorem ownsRow_stay {w w' : World} {B e size n : Nat} {v : Value} {xs : List Value} (h : w.ownsRow B e size v n xs) (hs : ∀ g, v.ownBlock = some g → w'.heap[g]? = w.heap[g]?) : w'.ownsRow B e size v n xs := by
  refine ⟨h.1, ?_⟩
  rcases h.2 with hn | ⟨g, cap, cur, rfl, hb, hg, rest⟩
  · exact .inl hn
  · exact .inr ⟨g, cap, cur, rfl, hb, (hs g rfl).trans hg, rest⟩
theorem RowOk.stay {w w' : World} {own : Nat → Prop} {x : Ent} (h : RowOk w own x) (hs : ∀ g, x.1.ownBlock = some g → w'.heap[g]? = w.heap[g]?) : RowOk w' own x := ⟨ownsRow_stay h.1 hs, h.2⟩
theorem RowOk.lt {w : World} {own : Nat → Prop} {x : Ent} (h : RowOk w own x) {g : Nat} (hg : x.1.ownBlock = some g) : g < w.heap.size := by
  obtain ⟨cur, hc⟩ := h.cell hg; exact (Array.getElem?_eq_some_iff.1 hc).1
theorem Base.stay {w w' : World} {own : Nat → Prop} {bd bm room : Nat} {l : List (Bs × Ent)} {fuse : Int} {down : Bool} (h : Base w own bd bm room l fuse down) (h1 : w'.heap[bd]? = w.heap[bd]?) (h2 : w'.heap[bm]? = w.heap[bm]?) : Base w' own bd bm room l fuse down :=
  ⟨h1.trans h.block, ownsMap_stay h.map h2, h.ownD, h.ownM⟩
theorem Base.rising {w : World} {own : Nat → Prop} {bd bm room : Nat} {l : List (Bs × Ent)} {fuse : Int} {down : Bool} (h : Base w own bd bm room l fuse down) : Rising l := DD_rising (h.map.canon keyed)

/-- it stays where nothing that is its own turns -/
theorem HeldL.frame {w w' : World} {own : Nat → Prop} {bd bm room : Nat} {l : List (Bs × Ent)} {fuse : Int} {down : Bool} (h : HeldL w own bd bm room l fuse down) (hs : ∀ k, k < w.heap.size → own k → w'.heap[k]? = w.heap[k]?) : HeldL w' own bd bm room l fuse down :=
  ⟨h.base.stay (hs _ h.base.lt h.base.ownD) (hs _ h.base.map.lt h.base.ownM), fun p hp => (h.rows.1 p hp).stay fun g hg => hs g ((h.rows.1 p hp).lt hg) ((h.rows.1 p hp).2 g hg), h.rows.2⟩
theorem HeldL.below {w w' : World} {own : Nat → Prop} {bd bm room : Nat} {l : List (Bs × Ent)} {fuse : Int} {down : Bool} (h : HeldL w own bd bm room l fuse down) (hb : Below w.heap.size w w') : HeldL w' own bd bm room l fuse down := h.frame fun k hk _ => hb.block k hk
/-- what it owns, anew -/
theorem HeldL.own {w : World} {own own' : Nat → Prop} {bd bm room : Nat} {l : List (Bs × Ent)} {fuse : Int} {down : Bool} (h : HeldL w own bd bm room l fuse down) (ho : ∀ b, b < w.heap.size → own b → own' b) : HeldL w own' bd bm room l fuse down :=
  ⟨⟨h.base.block, h.base.map, ho _ h.base.lt h.base.ownD, ho _ h.base.map.lt h.base.ownM⟩, fun p hp => ⟨(h.rows.1 p hp).1, fun g hg => ho g ((h.rows.1 p hp).lt hg) ((h.rows.1 p hp).2 g hg)⟩, h.rows.2⟩

theorem RowsOk.perm {w : World} {own : Nat → Prop} {l l' : List (Bs × Ent)} (h : RowsOk w own l) (hp : l.Perm l') : RowsOk w own l' :=
  ⟨fun p hp' => h.1 p (hp.mem_iff.2 hp'), hp.pairwise h.2 fun {_ _} hab => hab.symm⟩
theorem RowsOk.del {w : World} {own : Nat → Prop} {l : List (Bs × Ent)} (h : RowsOk w own l) (k : Bs) : RowsOk w own (delL k l) := ⟨fun p hp => h.1 p (mem_delL.1 hp).1, h.2.filter _⟩
theorem RowsOk.put {w : World} {own : Nat → Prop} {l : List (Bs × Ent)} {k : Bs} (h : RowsOk w own (delL k l)) {x : Ent} (hx : RowOk w own x) (ha : ∀ p ∈ delL k l, Apart x p.2) : RowsOk w own (putL k x l) := by
  refine RowsOk.perm (l := (k, x) :: delL k l) ⟨fun p hp => ?_, List.pairwise_cons.2 ⟨ha, h.2⟩⟩ (putL_perm k x l).symm
  rcases List.mem_cons.1 hp with rfl | hp
  · exact hx
  · exact h.1 p hp
/-- the files but one are apart from that one -/
theorem RowsOk.others {w : World} {own : Nat → Prop} {l : List (Bs × Ent)} (h : RowsOk w own l) (hr : Rising l) {k : Bs} {x : Ent} (hk : getL k l = some x) : ∀ p ∈ delL k l, Apart x p.2 := by
  have := (h.perm ((putL_same hr hk) ▸ putL_perm k x l)).2
  exact (List.pairwise_cons.1 this).1

/-- a cell of the disk's own block is set -/
theorem Base.set {w : World} {own : Nat → Prop} {bd bm room : Nat} {l : List (Bs × Ent)} {fuse : Int} {down : Bool} (h : HeldL w own bd bm room l fuse down) {i : Nat} {u : Value} {fuse' : Int} {down' : Bool}
    (e : (#[.int .i64 room, .map (some bm), .int .i64 fuse, .bool down] : Array Value).setIfInBounds i u = #[.int .i64 room, .map (some bm), .int .i64 fuse', .bool down']) : HeldL (w.setCell ⟨bd, i, none⟩ u) own bd bm room l fuse' down' := by
  have hs : ∀ k, k ≠ bd → (w.setCell ⟨bd, i, none⟩ u).heap[k]? = w.heap[k]? := fun k hk => Below.heap_setCell w _ u k hk
  refine ⟨⟨?_, ownsMap_stay h.base.map (hs _ h.base.ne.symm), h.base.ownD, h.base.ownM⟩, fun p hp => (h.rows.1 p hp).stay fun g hg => hs g (h.base.rowNe (h.rows.1 p hp) hg).1, h.rows.2⟩
  rw [block_setCell h.base.block, e]

theorem Base.c0 {w : World} {own : Nat → Prop} {bd bm room : Nat} {l : List (Bs × Ent)} {fuse : Int} {down : Bool} (h : Base w own bd bm room l fuse down) : w.cell? ⟨bd, 0, none⟩ = some (.int .i64 room) := by rw [cell_of_block h.block]; rfl
theorem Base.c1 {w : World} {own : Nat → Prop} {bd bm room : Nat} {l : List (Bs × Ent)} {fuse : Int} {down : Bool} (h : Base w own bd bm room l fuse down) : w.cell? ⟨bd, 1, none⟩ = some (.map (some bm)) := by rw [cell_of_block h.block]; rfl
theorem Base.c2 {w : World} {own : Nat → Prop} {bd bm room : Nat} {l : List (Bs × Ent)} {fuse : Int} {down : Bool} (h : Base w own bd bm room l fuse down) : w.cell? ⟨bd, 2, none⟩ = some (.int .i64 fuse) := by rw [cell_of_block h.block]; rfl
theorem Base.c3 {w : World} {own : Nat → Prop} {bd bm room : Nat} {l : List (Bs × Ent)} {fuse : Int} {down : Bool} (h : Base w own bd bm room l fuse down) : w.cell? ⟨bd, 3, none⟩ = some (.bool down) := by rw [cell_of_block h.block]; rfl
theorem Base.fz {w : World} {own : Nat → Prop} {bd bm room : Nat} {l : List (Bs × Ent)} {fuse : Int} {down : Bool} (h : Base w own bd bm room l fuse down) (i : Nat) : w.frozen? ⟨bd, i, none⟩ = false := unfrozen_of_block h.block i

/-- does the disk take one call more; the fuse and whether it is down behind it -/
def taken (fuse : Int) (down : Bool) : Bool × Int × Bool := if fuse = 0 ∨ down = true then (false, fuse, true) else (true, if fuse = -1 then -1 else fuse - 1, false)

end Go.Proofs.YtmpahgklcabihaaGreat.Dk

namespace Go.Proofs.YtmpahgklcabihaaGreat.Dk
open Go.RowKit Go.Maps Go.Joins

theorem grown_refl (w : World) (r : Option Nat) : w.grownBy w r := ⟨rfl, rfl, rfl, Nat.le_refl _, fun _ _ _ => rfl⟩
theorem grown_set (w : World) (b i : Nat) (v : Value) : w.grownBy (w.setCell ⟨b, i, none⟩ v) (some b) := ⟨rfl, rfl, rfl, by simp, fun k _ hn => Below.heap_setCell w _ v k fun e => hn (by rw [e])⟩
theorem grown_below {w w' : World} (h : Below w.heap.size w w') (r : Option Nat) : w.grownBy w' r := ⟨h.os, h.tape, h.output, h.size, fun k hk _ => h.block k hk⟩

set_option maxRecDepth 100000 in
set_option maxHeartbeats 400000 in
theorem takes_any {own : Nat → Prop} {bd bm room : Nat} {l : List (Bs × Ent)} {fuse : Int} {down : Bool} (w : World) (h : HeldL w own bd bm room l fuse down) (f0 : -1 ≤ fuse) (f1 : fuse ≤ 9223372036854775807) :
    Calls Tryz.prog 139 #[.pointer (some ⟨bd, 0, none⟩)] w fun e w' => e = .returned (.bool (taken fuse down).1) ∧ HeldL w' own bd bm room l (taken fuse down).2.1 (taken fuse down).2.2 ∧ w.grownBy w' (some bd) := by
  have c2 := h.base.c2
  have c3 := h.base.c3
  have z2 := h.base.fz 2
  have z3 := h.base.fz 3
  by_cases hf : fuse = 0
  · subst hf
    go_enter Tryz.func139, Tryz.ntmps139
    go_wp2
    go_ret
    refine ⟨by simp [taken], ?_, grown_set w bd _ _⟩
    simpa [taken] using Base.set h (i := 3) (u := .bool true) (fuse' := 0) (down' := true) rfl
  · cases down
    · by_cases hn : fuse = -1
      · subst hn
        go_enter Tryz.func139, Tryz.ntmps139
        go_wp2
        go_ret
        exact ⟨by simp [taken], by simpa [taken] using h, grown_refl _ _⟩
      · have b1 : (fuse == 0) = false := by rw [beq_eq_false_iff_ne]; exact hf
        have b2 : (fuse != -1) = true := by rw [bne_iff_ne]; exact hn
        have b3 : (fuse == -1) = false := by rw [beq_eq_false_iff_ne]; exact hn
        go_enter Tryz.func139, Tryz.ntmps139
        go_wp2
        go_ret
        refine ⟨by simp [taken, hf], ?_, grown_set w bd _ _⟩
        simpa [taken, hf, hn] using Base.set h (i := 2) (u := .int .i64 (fuse - 1)) (fuse' := fuse - 1) (down' := false) rfl
    · have b1 : (fuse == 0) = false := by rw [beq_eq_false_iff_ne]; exact hf
      go_enter Tryz.func139, Tryz.ntmps139
      go_wp2
      go_ret
      exact ⟨by simp [taken], by simpa [taken] using h, grown_refl _ _⟩

end Go.Proofs.YtmpahgklcabihaaGreat.Dk

namespace Go.Proofs.YtmpahgklcabihaaGreat.Dk
open Go.RowKit Go.Maps Go.Joins

def byOk (c : Nat) : Bool := (decide (97 ≤ c) && decide (c ≤ 122)) || (decide (48 ≤ c) && decide (c ≤ 57)) || decide (c = 46)
/-- may a file have that name? -/
def named (k : Bs) : Bool := decide (1 ≤ k.length) && decide (k.length ≤ 32) && k.all fun c => byOk c.toNat

set_option maxRecDepth 100000 in
set_option maxHeartbeats 400000 in
theorem byte_any (c : Nat) (w : World) (hc : c < 256) :
    Calls Tryz.prog 162 #[.int .u8 c] w fun e w' => e = .returned (.bool (byOk c)) ∧ w' = w := by
  go_enter Tryz.func162, Tryz.ntmps162
  go_wp2
  all_goals
    go_ret
    refine ⟨?_, rfl⟩
    simp only [byOk]
    simp_all
    try omega

set_option maxRecDepth 100000 in
set_option maxHeartbeats 800000 in
theorem name_any (s : ByteArray) (w : World) (hs : s.size ≤ 140737488351232) :
    Calls Tryz.prog 116 #[.string s] w fun e w' => e = .returned (.bool (named s.data.toList)) ∧ Below w.heap.size w w' := by
  have hlen : s.data.toList.length = s.size := (Lib.size_eq s).symm
  by_cases h0 : s.size < 1 ∨ 32 < s.size
  · have hn : named s.data.toList = false := by
      simp only [named, hlen]
      rcases h0 with h | h
      · simp; omega
      · rw [decide_eq_false (by omega : ¬ s.size ≤ 32)]; simp
    rw [hn]
    go_enter Tryz.func116, Tryz.ntmps116
    go_wp2
    all_goals
      go_ret
      exact ⟨rfl, Below.refl _ _⟩
  · have h1 : (1 : Int) ≤ (s.size : Int) := by omega
    have h2 : (s.size : Int) ≤ 32 := by omega
    go_enter Tryz.func116, Tryz.ntmps116
    go_wp2
    go_loopw [14] (fun i wr => ∃ k : Nat, k ≤ s.size ∧ i = .int .i64 k ∧ (s.data.toList.take k).all (fun c => byOk c.toNat) = true ∧ wr = w) (fun i _ => s.size - (intOf i).toNat)
    case atStart => exact ⟨0, by omega, rfl, by simp, rfl⟩
    case round =>
      obtain ⟨k, hk, rfl, hall, rfl⟩ := hrel
      by_cases hlt : k < s.size
      · obtain ⟨c, hc⟩ : ∃ c, c = (s[k]'hlt).toNat := ⟨_, rfl⟩
        have hc1 : (s.data.toList[k]'(by rw [hlen]; exact hlt)).toNat = c := by rw [hc]; rfl
        have hc2 : (s[k]'hlt).toNat = c := hc.symm
        have hcl : c < 256 := by rw [hc]; exact UInt8.toNat_lt _
        have HT := hide (show (s.data.toList.take (k + 1)).all (fun c => byOk c.toNat) = ((s.data.toList.take k).all (fun c => byOk c.toNat) && byOk c) by
          rw [List.take_succ_eq_append_getElem (by rw [hlen]; exact hlt), List.all_append, List.all_cons, List.all_nil, hc1, Bool.and_true])
        have HN := hide (show byOk c = false → named s.data.toList = false by
          intro hb
          have hm : s.data.toList.all (fun c => byOk c.toNat) = false := by
            rw [List.all_eq_false]; exact ⟨s.data.toList[k]'(by rw [hlen]; exact hlt), List.getElem_mem _, by rw [hc1, hb]; simp⟩
          simp [named, hm])
        have i1 : (0 : Int) ≤ (k : Int) := by omega
        have i2 : (k : Int) < (s.size : Int) := by omega
        clear hc1 hc
        have hB := byte_any c wr hcl
        cases hb : byOk c
        · have HN' := hide (HN.out hb)
          rw [hb] at hB
          clear HN HT hb
          go_wp2_with fail
          refine hB.mono ?_
          rintro e w' ⟨rfl, rfl⟩
          go_wp2
          go_ret
          rw [HN'.out]
          exact ⟨rfl, Below.refl _ _⟩
        · have HT' := hide (show (s.data.toList.take (k + 1)).all (fun c => byOk c.toNat) = true by rw [HT.out, hall, hb]; rfl)
          rw [hb] at hB
          clear HN HT hb hall
          go_wp2_with fail
          refine hB.mono ?_
          rintro e w' ⟨rfl, rfl⟩
          go_wp2
          go_roundw
          case rel => exact ⟨k + 1, by omega, by go_num, HT'.out, trivial⟩
          case measure => simp [intOf]; omega
      · obtain rfl : k = s.size := by omega
        rw [List.take_of_length_le (by rw [hlen]; exact Nat.le_refl _)] at hall
        have HN := hide (show named s.data.toList = true by simp only [named, hlen, hall]; simp; omega)
        clear hall
        go_wp2
        go_ret
        rw [HN.out]
        exact ⟨rfl, Below.refl _ _⟩

end Go.Proofs.YtmpahgklcabihaaGreat.Dk
