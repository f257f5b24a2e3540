/- The ground for layers whose things are slices of structs: rows of elements of some cells each; what a call may touch. -/
import Derived.Test.YtcmdglmcmifflaaDoorProg
import Derived.WalkKit
import Derived.WalkSpells
import Derived.WalkLawsBesides
import Derived.Maps.AppendAt
import Derived.Maps.OwnSet
import Derived.Maps.Ext
import Derived.Laws.IdiomStrings
import Derived.Laws.MakeOwn
import Derived.Laws.AppendOwnNone
import Derived.Lib.AppendStr
import Derived.Lib.BufferWrite
import Derived.Lib.UnsafeStr
import Derived.Lib.SmallJoins
import Derived.Lib.Hide
import Derived.Lib.Walk
import Derived.Deep.RegionHeld3
import Derived.Deep.DrawnRows
import Derived.Deep.QuietTactic
import Derived.Deep.AppendLies
import Derived.BigQuiet
import Derived.WalkSmall
import Derived.Laws.EntriesVeiled
namespace Go.Proofs.YtcmdglmcmifflaaDoor.Gk
open Go.RowKit Go.Joins

theorem hide {p : Prop} (h : p) : Hid p := h
theorem ret_int {k : IntKind} {a b : Int} (h : a = b) : Ending.returned (.int k a) = .returned (.int k b) := by rw [h]
theorem val_int {k : IntKind} {a b : Int} (h : a = b) : Value.int k a = .int k b := by rw [h]

/-- nothing but what is owned has turned -/
structure Only (own : Nat → Prop) (w w' : World) : Prop where
  os : w'.os = w.os
  tape : w'.tape = w.tape
  output : w'.output = w.output
  size : w.heap.size ≤ w'.heap.size
  block : ∀ k, k < w.heap.size → ¬ own k → w'.heap[k]? = w.heap[k]?
theorem Only.refl (own : Nat → Prop) (w : World) : Only own w w := ⟨rfl, rfl, rfl, Nat.le_refl _, fun _ _ _ => rfl⟩
theorem Only.trans {own : Nat → Prop} {a b c : World} (h : Only own a b) (k : Only own b c) : Only own a c :=
  ⟨k.os.trans h.os, k.tape.trans h.tape, k.output.trans h.output, Nat.le_trans h.size k.size, fun i hi hn => (k.block i (Nat.lt_of_lt_of_le hi h.size) hn).trans (h.block i hi hn)⟩
theorem Only.of_below {own : Nat → Prop} {w w' : World} (h : Below w.heap.size w w') : Only own w w' := ⟨h.os, h.tape, h.output, h.size, fun k hk _ => h.block k hk⟩
theorem Only.of_grown {own : Nat → Prop} {w w' : World} {row : Option Nat} (h : w.grownBy w' row) (hr : ∀ k, row = some k → own k) : Only own w w' :=
  ⟨h.os, h.tape, h.output, h.size, fun k hk hn => h.block k hk fun e => hn (hr k e.symm)⟩
theorem Only.of_set {own : Nat → Prop} (w : World) {a : Addr} (h : own a.block) (v : Value) : Only own w (w.setCell a v) :=
  ⟨rfl, rfl, rfl, by simp, fun k _ hn => Below.heap_setCell w a v k fun e => hn (by rw [e]; exact h)⟩
theorem Only.below {own : Nat → Prop} {w w' : World} (h : Only own w w') {B : Nat} (hB : B ≤ w.heap.size) (ho : ∀ b, own b → B ≤ b) : Below B w w' :=
  ⟨h.os, h.tape, h.output, h.size, fun k hk => h.block k (Nat.lt_of_lt_of_le hk hB) fun e => by have := ho k e; omega⟩
theorem Only.mono {own own' : Nat → Prop} {w w' : World} (h : Only own w w') (ho : ∀ b, b < w.heap.size → own b → own' b) : Only own' w w' :=
  ⟨h.os, h.tape, h.output, h.size, fun k hk hn => h.block k hk fun e => hn (ho k hk e)⟩
/-- what is not there yet is owned -/
def Fresh (own : Nat → Prop) (w : World) : Prop := ∀ b, w.heap.size ≤ b → own b
theorem Fresh.later {own : Nat → Prop} {w w' : World} (h : Fresh own w) (hs : w.heap.size ≤ w'.heap.size) : Fresh own w' := fun b hb => h b (Nat.le_trans hs hb)

theorem grown_refl (w : World) (r : Option Nat) : w.grownBy w r := ⟨rfl, rfl, rfl, Nat.le_refl _, fun _ _ _ => rfl⟩
theorem grown_set (w : World) (b i : Nat) (u : Value) : w.grownBy (w.setCell ⟨b, i, none⟩ u) (some b) :=
  ⟨rfl, rfl, rfl, by simp, fun k _ hn => Below.heap_setCell w ⟨b, i, none⟩ u k fun e => hn (by rw [e])⟩
theorem grown_setRow (w : World) (b : Nat) (cs : Array Value) : w.grownBy (w.setRow b cs) (some b) :=
  ⟨rfl, rfl, rfl, by simp, fun k _ hn => setRow_other _ _ _ _ fun e => hn (by rw [e])⟩
theorem grown_trans {a b c : World} {r : Option Nat} (h : a.grownBy b r) (k : b.grownBy c r) : a.grownBy c r :=
  ⟨k.os.trans h.os, k.tape.trans h.tape, k.output.trans h.output, Nat.le_trans h.size k.size, fun i hi hn => (k.block i (Nat.lt_of_lt_of_le hi h.size) hn).trans (h.block i hi hn)⟩
theorem grown_below {a b : World} (h : Below a.heap.size a b) (r : Option Nat) : a.grownBy b r := ⟨h.os, h.tape, h.output, h.size, fun k hk _ => h.block k hk⟩
theorem grown_drewN (w : World) (n : Nat) (r : Option Nat) : w.grownBy (w.drewN n) r := ⟨rfl, rfl, rfl, Nat.le_refl _, fun _ _ _ => rfl⟩

/-- the value of an owned row is a slice of its length -/
theorem own_slice {w : World} {B e size n : Nat} {v : Value} {l : List Value} (h : w.ownsRow B e size v n l) : ∃ a cap, v = .slice a n cap := by
  rcases h.2 with ⟨rfl, rfl⟩ | ⟨g, cap, cur, rfl, _⟩
  · exact ⟨none, 0, rfl⟩
  · exact ⟨_, cap, rfl⟩
theorem own_form {w : World} {B e size n : Nat} {v : Value} {l : List Value} (h : w.ownsRow B e size v n l) (hn : 0 < n) : ∃ g cap cur, v = .slice (some ⟨g, 0, none⟩) n cap ∧ w.heap[g]? = some (.cells cur e (0, 0)) ∧ n ≤ cap ∧ cap ≤ maxLen ∧ cur.size = cap * size ∧ cur.toList.take (n * size) = l := by
  rcases h.2 with ⟨rfl, rfl⟩ | ⟨g, cap, cur, rfl, _, rest⟩
  · omega
  · exact ⟨g, cap, cur, rfl, rest⟩
theorem own_mono {w : World} {B B' e size n : Nat} {v : Value} {l : List Value} (h : w.ownsRow B e size v n l) (hB : B' ≤ B) : w.ownsRow B' e size v n l := by
  refine ⟨h.1, ?_⟩
  rcases h.2 with hn | ⟨g, cap, cur, rfl, h1, rest⟩
  · exact .inl hn
  · exact .inr ⟨g, cap, cur, rfl, by omega, rest⟩
theorem own_stay {w w' : World} {B e size n : Nat} {v : Value} {xs : List Value} (h : w.ownsRow B e size v n xs) (hs : ∀ g, v.ownBlock = some g → w'.heap[g]? = w.heap[g]?) : w'.ownsRow B e size v n xs := by
  refine ⟨h.1, ?_⟩
  rcases h.2 with hn | ⟨g, cap, cur, rfl, hb, hg, rest⟩
  · exact .inl hn
  · exact .inr ⟨g, cap, cur, rfl, hb, (hs g rfl).trans hg, rest⟩
theorem own_below {w w' : World} {B e size n : Nat} {v : Value} {xs : List Value} (h : w.ownsRow B e size v n xs) (hb : Below w.heap.size w w') : w'.ownsRow B e size v n xs :=
  own_stay h fun g hg => hb.block g (h.lt g hg).2
/-- a row and a block of another make -/
theorem own_ne {w : World} {B e size n : Nat} {v : Value} {xs : List Value} (h : w.ownsRow B e size v n xs) {b t : Nat} {cs : Array Value} (hb : w.heap[b]? = some (.cells cs t (0, 0))) (ht : t ≠ e) {g : Nat} (hg : v.ownBlock = some g) : g ≠ b := by
  intro e1
  rcases h.2 with ⟨e2, _⟩ | ⟨g', _, cur, e2, _, hc, _⟩
  · rw [e2] at hg; simp [Value.ownBlock] at hg
  · rw [e2] at hg; simp only [Value.ownBlock, Option.some.injEq] at hg
    rw [hg, e1, hb] at hc; cases hc; exact ht rfl

section
variable {α : Type} (enc : α → List Value)
/-- the cells of a list -/
def rc (l : List α) : List Value := l.flatMap enc
variable {enc} {k : Nat}
theorem rc_append (a b : List α) : rc enc (a ++ b) = rc enc a ++ rc enc b := by simp [rc]
theorem rc_cons (x : α) (b : List α) : rc enc (x :: b) = enc x ++ rc enc b := by simp [rc]
theorem rc_one (x : α) : rc enc [x] = enc x := by simp [rc]
theorem rc_length (hk : ∀ x, (enc x).length = k) (l : List α) : (rc enc l).length = l.length * k := by
  induction l with
  | nil => simp [rc]
  | cons x r ih => rw [rc_cons, List.length_append, ih, hk, List.length_cons, Nat.add_mul, Nat.one_mul, Nat.add_comm]
theorem rc_at (hk : ∀ x, (enc x).length = k) (l : List α) (i : Nat) (h : i < l.length) (j : Nat) (hj : j < k) : (rc enc l)[i * k + j]? = (enc l[i])[j]? := by
  induction l generalizing i with
  | nil => simp at h
  | cons x r ih =>
    cases i with
    | zero => rw [rc_cons, Nat.zero_mul, Nat.zero_add, List.getElem?_append_left (by rw [hk]; exact hj)]; rfl
    | succ i =>
      rw [rc_cons, List.getElem?_append_right (by rw [hk, Nat.add_mul, Nat.one_mul]; omega), hk, show (i + 1) * k + j - k = i * k + j by rw [Nat.add_mul, Nat.one_mul]; omega]
      exact ih i (by simpa using h)
theorem rc_take (hk : ∀ x, (enc x).length = k) (l : List α) (i : Nat) (hi : i ≤ l.length) : (rc enc l).take (i * k) = rc enc (l.take i) := by
  conv => lhs; rw [← List.take_append_drop i l, rc_append]
  exact List.take_left' (by rw [rc_length hk, List.length_take, Nat.min_eq_left hi])
theorem rc_drop (hk : ∀ x, (enc x).length = k) (l : List α) (i : Nat) (hi : i ≤ l.length) : (rc enc l).drop (i * k) = rc enc (l.drop i) := by
  conv => lhs; rw [← List.take_append_drop i l, rc_append]
  exact List.drop_left' (by rw [rc_length hk, List.length_take, Nat.min_eq_left hi])
theorem rc_oneCell (h1 : ∀ x, ∀ u ∈ enc x, u.oneCell' = true) (l : List α) : ∀ u ∈ rc enc l, u.oneCell' = true := by
  intro u hu
  obtain ⟨x, _, h⟩ := List.mem_flatMap.1 hu
  exact h1 x u h

/-- a row of such elements -/
def Row (w : World) (enc : α → List Value) (e k : Nat) (v : Value) (l : List α) : Prop := w.ownsRow 0 e k v l.length (rc enc l)
/-- elements lie behind an address -/
def Lies (w : World) (enc : α → List Value) (a : Option Addr) (l : List α) : Prop := l = [] ∨ ∃ b off, a = some ⟨b, off, none⟩ ∧ b < w.heap.size ∧ ∀ j u, (rc enc l)[j]? = some u → w.cell? ⟨b, off + j, none⟩ = some u
theorem Lies.later {w wr : World} {a : Option Addr} {l : List α} (h : Lies w enc a l) (hs : ∀ b off, a = some ⟨b, off, none⟩ → b < w.heap.size → wr.heap[b]? = w.heap[b]?) (hz : w.heap.size ≤ wr.heap.size) : Lies wr enc a l := by
  rcases h with rfl | ⟨b, off, rfl, hlt, hl⟩
  · exact Or.inl rfl
  · exact Or.inr ⟨b, off, rfl, Nat.lt_of_lt_of_le hlt hz, fun j u hj => (World.cell?_of_block (a := ⟨b, off + j, none⟩) (hs b off rfl hlt)).trans (hl j u hj)⟩
theorem Lies.below {w wr : World} {a : Option Addr} {l : List α} (h : Lies w enc a l) (hb : Below w.heap.size w wr) : Lies wr enc a l := h.later (fun b _ _ hlt => hb.block b hlt) hb.size
theorem Lies.at {w : World} {a : Option Addr} {l : List α} (h : Lies w enc a l) (hk : ∀ x, (enc x).length = k) (i : Nat) (hi : i < l.length) : ∃ b off, a = some ⟨b, off, none⟩ ∧ b < w.heap.size ∧ ∀ j u, (enc l[i])[j]? = some u → w.cell? ⟨b, off + i * k + j, none⟩ = some u := by
  rcases h with rfl | ⟨b, off, rfl, hlt, hl⟩
  · simp at hi
  · refine ⟨b, off, rfl, hlt, fun j u hj => ?_⟩
    have hjk : j < k := by have := (List.getElem?_eq_some_iff.1 hj).1; rwa [hk] at this
    rw [Nat.add_assoc]
    exact hl _ _ ((rc_at hk l i hi j hjk).trans hj)
theorem Row.slice {w : World} {e : Nat} {v : Value} {l : List α} (h : Row w enc e k v l) : ∃ a cap, v = .slice a l.length cap := own_slice h
theorem Row.lies {w : World} {e : Nat} {a : Option Addr} {n cap : Nat} {l : List α} (h : Row w enc e k (.slice a n cap) l) : Lies w enc a l := by
  rcases h.2 with ⟨e1, h0⟩ | ⟨g, cap', cur, e1, _, hg, h1, h2, h3, h4⟩
  · exact Or.inl (List.eq_nil_of_length_eq_zero h0)
  · cases e1
    refine Or.inr ⟨g, 0, rfl, (Array.getElem?_eq_some_iff.1 hg).1, fun j u hj => ?_⟩
    rw [cell_of_block hg, Nat.zero_add]
    rw [← h4, List.getElem?_take] at hj
    split at hj
    · simpa using hj
    · cases hj
theorem Row.stay {w w' : World} {e : Nat} {v : Value} {l : List α} (h : Row w enc e k v l) (hs : ∀ g, v.ownBlock = some g → w'.heap[g]? = w.heap[g]?) : Row w' enc e k v l := own_stay h hs
theorem Row.below {w w' : World} {e : Nat} {v : Value} {l : List α} (h : Row w enc e k v l) (hb : Below w.heap.size w w') : Row w' enc e k v l := own_below h hb
theorem Row.nil (w : World) (e : Nat) : Row w enc e k (.slice none 0 0) [] := World.ownsRow_nil w 0 e k
theorem Row.at {w : World} {e : Nat} {v : Value} {l : List α} (h : Row w enc e k v l) (hk : ∀ x, (enc x).length = k) (i : Nat) (hi : i < l.length) : ∃ g cap, v = .slice (some ⟨g, 0, none⟩) l.length cap ∧ g < w.heap.size ∧ ∀ j u, (enc l[i])[j]? = some u → w.cell? ⟨g, i * k + j, none⟩ = some u := by
  obtain ⟨g, cap, cur, rfl, hg, h1, h2, h3, h4⟩ := own_form h (by omega)
  refine ⟨g, cap, rfl, (Array.getElem?_eq_some_iff.1 hg).1, fun j u hj => ?_⟩
  have hjk : j < k := by have := (List.getElem?_eq_some_iff.1 hj).1; rwa [hk] at this
  rw [cell_of_block hg]
  have := (rc_at hk l i hi j hjk).trans hj
  rw [← h4, List.getElem?_take] at this
  split at this
  · simpa using this
  · cases this
theorem Row.celled {w : World} {e : Nat} {g n cap : Nat} {l : List α} (h : Row w enc e k (.slice (some ⟨g, 0, none⟩) n cap) l) (hk : ∀ x, (enc x).length = k) (i : Nat) (hi : i < l.length) : g < w.heap.size ∧ ∀ j u, (enc l[i])[j]? = some u → w.cell? ⟨g, i * k + j, none⟩ = some u := by
  obtain ⟨g', cap', e1, h1, h2⟩ := h.at hk i hi
  cases e1
  exact ⟨h1, h2⟩
/-- cells are there, of elements that the row has -/
theorem Row.there {w : World} {e : Nat} {g n cap : Nat} {l : List α} (h : Row w enc e k (.slice (some ⟨g, 0, none⟩) n cap) l) (j : Nat) (hj : j < cap * k) : (w.cell? ⟨g, j, none⟩).isSome = true ∧ w.frozen? ⟨g, j, none⟩ = false := by
  rcases h.2 with ⟨e1, h0⟩ | ⟨g, cap', cur, e1, _, hg, h1, h2, h3, h4⟩
  · cases e1
  · cases e1
    rw [cell_of_block hg, unfrozen_of_block hg]
    exact ⟨by rw [Array.getElem?_eq_getElem (by omega)]; rfl, rfl⟩
/-- a row's first elements -/
theorem Row.take {w : World} {e : Nat} {g n cap : Nat} {l : List α} (h : Row w enc e k (.slice (some ⟨g, 0, none⟩) n cap) l) (hk : ∀ x, (enc x).length = k) (i : Nat) (hi : i ≤ l.length) : Row w enc e k (.slice (some ⟨g, 0, none⟩) i cap) (l.take i) := by
  rcases h.2 with ⟨e1, h0⟩ | ⟨g, cap', cur, e1, hb, hg, h1, h2, h3, h4⟩
  · cases e1
  · cases e1
    have hli : (l.take i).length = i := by rw [List.length_take, Nat.min_eq_left hi]
    refine ⟨rc_length hk _, Or.inr ⟨g, cap, cur, by rw [hli], hb, hg, by omega, h2, h3, ?_⟩⟩
    rw [hli, ← rc_take hk l i hi, ← h4, List.take_take, Nat.min_eq_left (Nat.mul_le_mul_right k hi)]
/-- its elements from a place on -/
theorem Row.drop {w : World} {e : Nat} {g n cap : Nat} {l : List α} (h : Row w enc e k (.slice (some ⟨g, 0, none⟩) n cap) l) (hk : ∀ x, (enc x).length = k) (i : Nat) (hi : i ≤ l.length) : Lies w enc (some ⟨g, i * k, none⟩) (l.drop i) := by
  rcases h.2 with ⟨e1, h0⟩ | ⟨g, cap', cur, e1, hb, hg, h1, h2, h3, h4⟩
  · cases e1
  · cases e1
    refine Or.inr ⟨g, i * k, rfl, (Array.getElem?_eq_some_iff.1 hg).1, fun j u hj => ?_⟩
    rw [cell_of_block hg]
    rw [← rc_drop hk l i hi, List.getElem?_drop, ← h4, List.getElem?_take] at hj
    split at hj
    · simpa using hj
    · cases hj
end

end Go.Proofs.YtcmdglmcmifflaaDoor.Gk
