/- Layer 8: replies: what they are, and their fields: the ground. -/
import Derived.Test.YtkjcfkninmmbhaaOpReqF
namespace Go.Proofs.Ytkjcfkninmmbhaa.Oq
open Go.RowKit Go.Joins Go.Proofs.Ytkjcfkninmmbhaa.Gk

/-- a row -/
structure Rw where
  key : ByteArray
  stamp : Int
  val : ByteArray
/-- a result -/
structure Rs where
  code : Int
  stamp : Int
  val : ByteArray
  rows : List Rw
/-- a reply -/
structure Rp where
  client : Int
  seq : Int
  results : List Rs
  at_ : Int
  code : Int
/-- a result, and where its rows lie -/
structure RsA where
  r : Rs
  a : Option Addr
  cap : Nat
def rwenc (x : Rw) : List Value := [.string x.key, .int .i64 x.stamp, .string x.val]
theorem rwenc_len (x : Rw) : (rwenc x).length = 3 := rfl
theorem rwenc_one (x : Rw) : ∀ u ∈ rwenc x, u.oneCell' = true := by
  intro u hu
  simp only [rwenc, List.mem_cons, List.not_mem_nil, or_false] at hu
  rcases hu with rfl | rfl | rfl <;> rfl
def rsenc (x : RsA) : List Value := [.int .i64 x.r.code, .int .i64 x.r.stamp, .string x.r.val, .slice x.a x.r.rows.length x.cap]
theorem rsenc_len (x : RsA) : (rsenc x).length = 4 := rfl
theorem rsenc_one (x : RsA) : ∀ u ∈ rsenc x, u.oneCell' = true := by
  intro u hu
  simp only [rsenc, List.mem_cons, List.not_mem_nil, or_false] at hu
  rcases hu with rfl | rfl | rfl | rfl <;> rfl
/-- results lie there, and their rows -/
structure ResL (w : World) (a : Option Addr) (l : List RsA) : Prop where
  lies : Gk.Lies w rsenc a l
  rows : ∀ x ∈ l, Gk.Lies w rwenc x.a x.r.rows
theorem ResL.below {w w' : World} {a : Option Addr} {l : List RsA} (h : ResL w a l) (hb : Below w.heap.size w w') : ResL w' a l := ⟨h.lies.below hb, fun x hx => (h.rows x hx).below hb⟩

def Rw.may (x : Rw) : Bool := keyB x.key && stampB x.stamp && valB x.val
def Rs.may (x : Rs) : Bool := within x.code 0 300 && stampZ x.stamp && valB x.val && decide (x.rows.length ≤ 100) && x.rows.all Rw.may
def Rw.fields (x : Rw) : List Fld := [txtF x.key, numF x.stamp, txtF x.val]
def Rs.fields (x : Rs) : List Fld := [numF x.code, numF x.stamp, txtF x.val, numF x.rows.length] ++ x.rows.flatMap Rw.fields
def Rp.fields (x : Rp) : List Fld := [numF x.client, numF x.seq, numF x.at_, numF x.code, numF x.results.length] ++ x.results.flatMap Rs.fields
theorem rows_flen (l : List Rw) : (l.flatMap Rw.fields).length = 3 * l.length := by
  induction l with
  | nil => rfl
  | cons x l ih => rw [List.flatMap_cons, List.length_append, ih, List.length_cons]; simp [Rw.fields]; omega
theorem Rs.flen (x : Rs) : x.fields.length = 4 + 3 * x.rows.length := by
  unfold Rs.fields; rw [List.length_append, rows_flen]; rfl
theorem ress_flen (l : List Rs) (h : ∀ x ∈ l, x.rows.length ≤ 100) : (l.flatMap Rs.fields).length ≤ 304 * l.length := by
  induction l with
  | nil => exact Nat.le_refl _
  | cons x l ih =>
    have := h x (List.mem_cons_self ..)
    have := ih (fun y hy => h y (List.mem_cons_of_mem _ hy))
    rw [List.flatMap_cons, List.length_append, List.length_cons, Rs.flen]
    omega

/-- a result's box, and the rest -/
abbrev S4 (B H : Nat) (w : World) (x : RsA) (v : Value) (l : List Fld) (W : World) : Prop :=
  (W.cell? ⟨H, 0, none⟩ = some (.int .i64 x.r.code) ∧ W.cell? ⟨H, 1, none⟩ = some (.int .i64 x.r.stamp) ∧ W.cell? ⟨H, 2, none⟩ = some (.string x.r.val) ∧ W.cell? ⟨H, 3, none⟩ = some (.slice x.a x.r.rows.length x.cap)) ∧ B ≤ H ∧ Keep B H w v l W
theorem S4.call {B H : Nat} {w : World} {x : RsA} {v : Value} {l : List Fld} {a b : World} (hb : Below a.heap.size a b) (h : S4 B H w x v l a) : S4 B H w x v l b := by
  obtain ⟨⟨c0, c1, c2, c3⟩, hB, hk⟩ := h
  have hc : ∀ j, b.cell? ⟨H, j, none⟩ = a.cell? ⟨H, j, none⟩ := fun j => hb.cell (p := ⟨H, j, none⟩) hk.lt
  exact ⟨⟨(hc 0).trans c0, (hc 1).trans c1, (hc 2).trans c2, (hc 3).trans c3⟩, hB, hk.call hb (by have := hk.lt; omega)⟩
theorem S4.drew {B H : Nat} {w : World} {x : RsA} {v : Value} {l : List Fld} {a : World} (h : S4 B H w x v l a) : S4 B H w x v l a.drew := h.call ((Below.refl _ _).drew)
theorem S4.alloc {B H : Nat} {w : World} {x : RsA} {v : Value} {l : List Fld} {a : World} (h : S4 B H w x v l a) (o : Obj) : S4 B H w x v l (a.alloc o) := h.call ((Below.refl _ _).alloc (Nat.le_refl _) o)
theorem S4.app {B H : Nat} {w : World} {x : RsA} {v : Value} {l : List Fld} {a b : World} (hg : a.grownBy b v.ownBlock) (ho : b.ownsRow B 77 3 v l.length (rc fenc l)) (h : S4 B H w x v l a) : S4 B H w x v l b := by
  obtain ⟨⟨c0, c1, c2, c3⟩, hB, hk⟩ := h
  have hc : ∀ j, b.cell? ⟨H, j, none⟩ = a.cell? ⟨H, j, none⟩ := fun j => World.cell?_of_block (a := ⟨H, j, none⟩) (hg.block H hk.lt hk.ne)
  exact ⟨⟨(hc 0).trans c0, (hc 1).trans c1, (hc 2).trans c2, (hc 3).trans c3⟩, hB, ⟨Nat.lt_of_lt_of_le hk.lt hg.size, ho, hk.bel.grown hg (by have := hk.lt; omega) (fun k hk' => (hk.own.lt k hk').1), hk.ne⟩⟩
theorem S4.row {B H : Nat} {w : World} {x : RsA} {v : Value} {l : List Fld} {a : World} (h : S4 B H w x v l a) : a.ownsRow B 77 3 v l.length (rc fenc l) := h.2.2.own
theorem S4.room {B H : Nat} {w : World} {x : RsA} {v : Value} {l : List Fld} {a : World} (h : S4 B H w x v l a) : B ≤ a.heap.size := by have := h.2.2.lt; have := h.2.1; omega
/-- a row's box, and the rest -/
abbrev S3 (B H : Nat) (w : World) (x : Rw) (v : Value) (l : List Fld) (W : World) : Prop :=
  (W.cell? ⟨H, 0, none⟩ = some (.string x.key) ∧ W.cell? ⟨H, 1, none⟩ = some (.int .i64 x.stamp) ∧ W.cell? ⟨H, 2, none⟩ = some (.string x.val)) ∧ B ≤ H ∧ Keep B H w v l W
theorem S3.call {B H : Nat} {w : World} {x : Rw} {v : Value} {l : List Fld} {a b : World} (hb : Below a.heap.size a b) (h : S3 B H w x v l a) : S3 B H w x v l b := by
  obtain ⟨⟨c0, c1, c2⟩, hB, hk⟩ := h
  have hc : ∀ j, b.cell? ⟨H, j, none⟩ = a.cell? ⟨H, j, none⟩ := fun j => hb.cell (p := ⟨H, j, none⟩) hk.lt
  exact ⟨⟨(hc 0).trans c0, (hc 1).trans c1, (hc 2).trans c2⟩, hB, hk.call hb (by have := hk.lt; omega)⟩
theorem S3.drew {B H : Nat} {w : World} {x : Rw} {v : Value} {l : List Fld} {a : World} (h : S3 B H w x v l a) : S3 B H w x v l a.drew := h.call ((Below.refl _ _).drew)
theorem S3.alloc {B H : Nat} {w : World} {x : Rw} {v : Value} {l : List Fld} {a : World} (h : S3 B H w x v l a) (o : Obj) : S3 B H w x v l (a.alloc o) := h.call ((Below.refl _ _).alloc (Nat.le_refl _) o)
theorem S3.app {B H : Nat} {w : World} {x : Rw} {v : Value} {l : List Fld} {a b : World} (hg : a.grownBy b v.ownBlock) (ho : b.ownsRow B 77 3 v l.length (rc fenc l)) (h : S3 B H w x v l a) : S3 B H w x v l b := by
  obtain ⟨⟨c0, c1, c2⟩, hB, hk⟩ := h
  have hc : ∀ j, b.cell? ⟨H, j, none⟩ = a.cell? ⟨H, j, none⟩ := fun j => World.cell?_of_block (a := ⟨H, j, none⟩) (hg.block H hk.lt hk.ne)
  exact ⟨⟨(hc 0).trans c0, (hc 1).trans c1, (hc 2).trans c2⟩, hB, ⟨Nat.lt_of_lt_of_le hk.lt hg.size, ho, hk.bel.grown hg (by have := hk.lt; omega) (fun k hk' => (hk.own.lt k hk').1), hk.ne⟩⟩
theorem S3.row {B H : Nat} {w : World} {x : Rw} {v : Value} {l : List Fld} {a : World} (h : S3 B H w x v l a) : a.ownsRow B 77 3 v l.length (rc fenc l) := h.2.2.own
theorem S3.room {B H : Nat} {w : World} {x : Rw} {v : Value} {l : List Fld} {a : World} (h : S3 B H w x v l a) : B ≤ a.heap.size := by have := h.2.2.lt; have := h.2.1; omega
/-- a reply's box: its five cells, and what lies below -/
abbrev S5 (B H : Nat) (w : World) (c0 c1 c2 c3 c4 : Value) (W : World) : Prop :=
  (W.cell? ⟨H, 0, none⟩ = some c0 ∧ W.cell? ⟨H, 1, none⟩ = some c1 ∧ W.cell? ⟨H, 2, none⟩ = some c2 ∧ W.cell? ⟨H, 3, none⟩ = some c3 ∧ W.cell? ⟨H, 4, none⟩ = some c4) ∧ B ≤ H ∧ H < W.heap.size ∧ Below B w W
theorem S5.call {B H : Nat} {w : World} {c0 c1 c2 c3 c4 : Value} {a b : World} (hb : Below a.heap.size a b) (h : S5 B H w c0 c1 c2 c3 c4 a) : S5 B H w c0 c1 c2 c3 c4 b := by
  obtain ⟨⟨k0, k1, k2, k3, k4⟩, hB, hlt, hbel⟩ := h
  have hc : ∀ j, b.cell? ⟨H, j, none⟩ = a.cell? ⟨H, j, none⟩ := fun j => hb.cell (p := ⟨H, j, none⟩) hlt
  exact ⟨⟨(hc 0).trans k0, (hc 1).trans k1, (hc 2).trans k2, (hc 3).trans k3, (hc 4).trans k4⟩, hB, Nat.lt_of_lt_of_le hlt hb.size, hbel.trans (hb.mono (by omega))⟩
theorem S5.drew {B H : Nat} {w : World} {c0 c1 c2 c3 c4 : Value} {a : World} (h : S5 B H w c0 c1 c2 c3 c4 a) : S5 B H w c0 c1 c2 c3 c4 a.drew := h.call ((Below.refl _ _).drew)
theorem S5.alloc {B H : Nat} {w : World} {c0 c1 c2 c3 c4 : Value} {a : World} (h : S5 B H w c0 c1 c2 c3 c4 a) (x : Obj) : S5 B H w c0 c1 c2 c3 c4 (a.alloc x) := h.call ((Below.refl _ _).alloc (Nat.le_refl _) x)

end Go.Proofs.Ytkjcfkninmmbhaa.Oq
