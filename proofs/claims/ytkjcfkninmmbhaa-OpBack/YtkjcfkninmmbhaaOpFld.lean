/- Layer 8: the fields of a request: the walks over fields.go. -/
import Derived.Test.YtkjcfkninmmbhaaOpMay
import Derived.Test.YtkjcfkninmmbhaaArgs
import Derived.Test.YtkjcfkninmmbhaaGKeep
namespace Go.Proofs.Ytkjcfkninmmbhaa.Oq
open Go.RowKit Go.Joins Go.Proofs.Ytkjcfkninmmbhaa.Gk

theorem within_iff {n a b : Int} : within n a b = true ↔ a ≤ n ∧ n ≤ b := by simp [within]
abbrev numF (n : Int) : Fld := ⟨false, n, ⟨#[]⟩⟩
abbrev txtF (s : ByteArray) : Fld := ⟨true, 0, s⟩
def fenc (x : Fld) : List Value := [.bool x.text, .int .i64 x.n, .string x.s]
theorem fenc_len (x : Fld) : (fenc x).length = 3 := rfl
theorem fenc_one (x : Fld) : ∀ u ∈ fenc x, u.oneCell' = true := by
  intro u hu
  simp only [fenc, List.mem_cons, List.not_mem_nil, or_false] at hu
  rcases hu with rfl | rfl | rfl <;> rfl
theorem fcells_rc (l : List Fld) : fcells l = rc fenc l := rfl

set_option maxRecDepth 100000 in
set_option maxHeartbeats 400000 in
theorem number_op (n : Int) (w : World) :
    Calls Try.prog 56 #[.int .i64 n] w fun e w' => e = .returned (.agg #[.bool false, .int .i64 n, .string ⟨#[]⟩]) ∧ Below w.heap.size w w' := by
  go_enter Try.func56, Try.ntmps56
  go_wp2
  exact bodyPost_ret (v := .agg #[.bool false, .int .i64 n, .string ⟨#[]⟩]) (by simp [results, Try.results56, go_sem]) rfl ⟨rfl, (Below.refl _ _).alloc (Nat.le_refl _) _⟩

set_option maxRecDepth 100000 in
set_option maxHeartbeats 400000 in
theorem text_op (s : ByteArray) (w : World) :
    Calls Try.prog 57 #[.string s] w fun e w' => e = .returned (.agg #[.bool true, .int .i64 0, .string s]) ∧ Below w.heap.size w w' := by
  go_enter Try.func57, Try.ntmps57
  go_wp2
  exact bodyPost_ret (v := .agg #[.bool true, .int .i64 0, .string s]) (by simp [results, Try.results57, go_sem]) rfl ⟨rfl, (Below.refl _ _).alloc (Nat.le_refl _) _⟩

/-- a request -/
structure Req where
  client : Int
  seq : Int
  ops : List Opn

def Opn.fields (x : Opn) : List Fld := [numF x.kind, txtF x.key, txtF x.val, numF x.stamp, numF x.test, numF x.most]
def Req.fields (r : Req) : List Fld := [numF r.client, numF r.seq, numF r.ops.length] ++ r.ops.flatMap Opn.fields
theorem ops_len (l : List Opn) : (l.flatMap Opn.fields).length = 6 * l.length := by
  induction l with
  | nil => rfl
  | cons x l ih => rw [List.flatMap_cons, List.length_append, ih, List.length_cons]; simp [Opn.fields]; omega
theorem Req.fields_len (r : Req) : r.fields.length = 3 + 6 * r.ops.length := by
  unfold Req.fields; rw [List.length_append, ops_len]; rfl

/-- cells of a block of the call's own, a row that it owns, and what lies below -/
structure Keep (B H : Nat) (w : World) (v : Value) (l : List Fld) (W : World) : Prop where
  lt : H < W.heap.size
  own : W.ownsRow B 77 3 v l.length (fcells l)
  bel : Below B w W
  ne : some H ≠ v.ownBlock
theorem Keep.call {B H : Nat} {w : World} {v : Value} {l : List Fld} {a b : World} (hb : Below a.heap.size a b) (hB : B ≤ a.heap.size) (h : Keep B H w v l a) : Keep B H w v l b :=
  ⟨Nat.lt_of_lt_of_le h.lt hb.size, Gk.own_below h.own hb, h.bel.trans (hb.mono hB), h.ne⟩

/-- an operation's six cells, and the rest -/
abbrev OS (B H : Nat) (w : World) (x : Opn) (v : Value) (l : List Fld) (W : World) : Prop :=
  (W.cell? ⟨H, 0, none⟩ = some (.int .i64 x.kind) ∧ W.cell? ⟨H, 1, none⟩ = some (.string x.key) ∧ W.cell? ⟨H, 2, none⟩ = some (.string x.val) ∧
    W.cell? ⟨H, 3, none⟩ = some (.int .i64 x.stamp) ∧ W.cell? ⟨H, 4, none⟩ = some (.int .i64 x.test) ∧ W.cell? ⟨H, 5, none⟩ = some (.int .i64 x.most)) ∧ B ≤ H ∧ Keep B H w v l W
theorem OS.call {B H : Nat} {w : World} {x : Opn} {v : Value} {l : List Fld} {a b : World} (hb : Below a.heap.size a b) (h : OS B H w x v l a) : OS B H w x v l b := by
  obtain ⟨⟨c0, c1, c2, c3, c4, c5⟩, hB, hk⟩ := h
  have hc : ∀ j, b.cell? ⟨H, j, none⟩ = a.cell? ⟨H, j, none⟩ := fun j => hb.cell (p := ⟨H, j, none⟩) hk.lt
  exact ⟨⟨(hc 0).trans c0, (hc 1).trans c1, (hc 2).trans c2, (hc 3).trans c3, (hc 4).trans c4, (hc 5).trans c5⟩, hB, hk.call hb (by have := hk.lt; omega)⟩
theorem OS.drew {B H : Nat} {w : World} {x : Opn} {v : Value} {l : List Fld} {a : World} (h : OS B H w x v l a) : OS B H w x v l a.drew := h.call ((Below.refl _ _).drew)
theorem OS.alloc {B H : Nat} {w : World} {x : Opn} {v : Value} {l : List Fld} {a : World} (h : OS B H w x v l a) (o : Obj) : OS B H w x v l (a.alloc o) := h.call ((Below.refl _ _).alloc (Nat.le_refl _) o)
theorem OS.app {B H : Nat} {w : World} {x : Opn} {v : Value} {l : List Fld} {a b : World} (hg : a.grownBy b v.ownBlock) (ho : b.ownsRow B 77 3 v l.length (rc fenc l)) (h : OS B H w x v l a) : OS B H w x v l b := by
  obtain ⟨⟨c0, c1, c2, c3, c4, c5⟩, hB, hk⟩ := h
  have hc : ∀ j, b.cell? ⟨H, j, none⟩ = a.cell? ⟨H, j, none⟩ := fun j => World.cell?_of_block (a := ⟨H, j, none⟩) (hg.block H hk.lt hk.ne)
  exact ⟨⟨(hc 0).trans c0, (hc 1).trans c1, (hc 2).trans c2, (hc 3).trans c3, (hc 4).trans c4, (hc 5).trans c5⟩, hB,
    ⟨Nat.lt_of_lt_of_le hk.lt hg.size, ho, hk.bel.grown hg (by have := hk.lt; omega) (fun k hk' => (hk.own.lt k hk').1), hk.ne⟩⟩

theorem OS.row {B H : Nat} {w : World} {x : Opn} {v : Value} {l : List Fld} {a : World} (h : OS B H w x v l a) : a.ownsRow B 77 3 v l.length (rc fenc l) := h.2.2.own
theorem OS.room {B H : Nat} {w : World} {x : Opn} {v : Value} {l : List Fld} {a : World} (h : OS B H w x v l a) : B ≤ a.heap.size := by have := h.2.2.lt; have := h.2.1; omega

/-- the row that an append leaves is not in the operation's box -/
theorem OS.apart {B H : Nat} {w : World} {x : Opn} {v v' : Value} {l : List Fld} {a : World} (h : OS B H w x v l a) (hat : ∀ g, v'.ownBlock = some g → v.ownBlock = some g ∨ a.heap.size ≤ g) : some H ≠ v'.ownBlock := fun e => by
  rcases hat H e.symm with e2 | e2
  · exact h.2.2.ne e2.symm
  · have := h.2.2.lt; omega
def Opn.f1 (x : Opn) : List Fld := [numF x.kind, txtF x.key, txtF x.val]
def Opn.f2 (x : Opn) : List Fld := [numF x.stamp, numF x.test, numF x.most]
/-- a new row -/
theorem own_new (w : World) (B : Nat) (hB : B ≤ w.heap.size) (l : List Fld) (hl : l.length ≤ 10000) : (w.alloc (.cells (fcells l).toArray 77)).ownsRow B 77 3 (.slice (some ⟨w.heap.size, 0, none⟩) l.length l.length) l.length (fcells l) :=
  ⟨fcells_length l, Or.inr ⟨w.heap.size, l.length, _, rfl, hB, heap_alloc_new w _, Nat.le_refl _, by unfold maxLen; omega, by simp [fcells_length], by rw [List.toList_toArray, ← fcells_length]; exact List.take_length⟩⟩

/-- a block's cells -/
theorem new_cells (w : World) (cs : List Value) (t : TypeId) : ∀ j u, cs[j]? = some u → (w.alloc (.cells cs.toArray t)).cell? ⟨w.heap.size, 0 + j, none⟩ = some u := by
  intro j u hj
  rw [Nat.zero_add, cell_of_block (heap_alloc_new w _)]
  simpa using hj

end Go.Proofs.Ytkjcfkninmmbhaa.Oq
