/- Layer 9: where tables, rows and results lie. -/
import Derived.Test.YthdempdiibjabaaTbPure
import Derived.Test.YthdempdiibjabaaGKeep
import Derived.Test.YthdempdiibjabaaGBase
import Derived.Test.YthdempdiibjabaaGGrow
namespace Go.Proofs.Ythdempdiibjabaa.Tb
open Go.RowKit Go.Joins Go.Proofs.Ythdempdiibjabaa.Gk Go.Proofs.Ythdempdiibjabaa.Oq Go.Proofs.Ythdempdiibjabaa.Sp

abbrev RowT : TypeId := 53
abbrev RowsT : TypeId := 26
abbrev TabT : TypeId := 68
abbrev ResT : TypeId := 56
abbrev RessT : TypeId := 38

/-- a result, and where its rows lie -/
structure RsA where
  r : Rs
  a : Option Addr
  cap : Nat
def rwenc (x : Rw) : List Value := [.string x.key, .int .i64 x.stamp, .string x.val]
theorem rwenc_len (x : Rw) : (rwenc x).length = 3 := rfl
theorem rwenc_one (x : Rw) : ∀ u ∈ rwenc x, u.oneCell' = true := by
  intro u hu
  simp only [rwenc, List.mem_cons, List.not_mem_nil, or_false] at hu
  rcases hu with rfl | rfl | rfl <;> rfl
abbrev Rw.v (x : Rw) : Value := .agg #[.string x.key, .int .i64 x.stamp, .string x.val]
def rsenc (x : RsA) : List Value := [.int .i64 x.r.code, .int .i64 x.r.stamp, .string x.r.val, .slice x.a x.r.rows.length x.cap]
theorem rsenc_len (x : RsA) : (rsenc x).length = 4 := rfl
theorem rsenc_one (x : RsA) : ∀ u ∈ rsenc x, u.oneCell' = true := by
  intro u hu
  simp only [rsenc, List.mem_cons, List.not_mem_nil, or_false] at hu
  rcases hu with rfl | rfl | rfl | rfl <;> rfl
abbrev RsA.v (x : RsA) : Value := .agg #[.int .i64 x.r.code, .int .i64 x.r.stamp, .string x.r.val, .slice x.a x.r.rows.length x.cap]
def noRw : Value := .agg #[.string ⟨#[]⟩, .int .i64 0, .string ⟨#[]⟩]
def noRs : Value := .agg #[.int .i64 0, .int .i64 0, .string ⟨#[]⟩, .slice none 0 0]
theorem row_info : (Try.prog.info? RowT).map (fun i => (i.zero, i.size, i.bytes)) = some (some noRw, 3, 40) := by kernel_rfl
theorem res_info : (Try.prog.info? ResT).map (fun i => (i.zero, i.size, i.bytes)) = some (some noRs, 4, 56) := by kernel_rfl

/-- rows lie there: a slice's cells, and its room -/
def RL (w : World) (a : Option Addr) (cap : Nat) (l : List Rw) : Prop :=
  (a = none ∧ l = [] ∧ cap = 0) ∨ ∃ g off cur, a = some ⟨g, off, none⟩ ∧ w.heap[g]? = some (.cells cur RowT (0, 0)) ∧ off + cap * 3 ≤ cur.size ∧ l.length ≤ cap ∧ cap ≤ maxLen ∧ ∀ j u, (rc rwenc l)[j]? = some u → cur[off + j]? = some u
theorem RL.nil (w : World) : RL w none 0 [] := Or.inl ⟨rfl, rfl, rfl⟩
theorem RL.lies {w : World} {a : Option Addr} {cap : Nat} {l : List Rw} (h : RL w a cap l) : Lies w rwenc a l := by
  rcases h with ⟨_, rfl, _⟩ | ⟨g, off, cur, rfl, hg, _, _, _, hc⟩
  · exact Or.inl rfl
  · exact Or.inr ⟨g, off, rfl, (Array.getElem?_eq_some_iff.1 hg).1, fun j u hj => by rw [cell_of_block hg]; exact hc j u hj⟩
theorem RL.room {w : World} {a : Option Addr} {cap : Nat} {l : List Rw} (h : RL w a cap l) : l.length ≤ cap := by
  rcases h with ⟨_, rfl, rfl⟩ | ⟨g, off, cur, rfl, hg, _, h, _, hc⟩
  · simp
  · exact h
theorem RL.max {w : World} {a : Option Addr} {cap : Nat} {l : List Rw} (h : RL w a cap l) : cap ≤ maxLen := by
  rcases h with ⟨_, rfl, rfl⟩ | ⟨g, off, cur, rfl, hg, _, h, hm, hc⟩
  · unfold maxLen; omega
  · exact hm
theorem RL.nocap {w : World} {a : Option Addr} {cap : Nat} {l : List Rw} (h : RL w a cap l) : a = none → cap = 0 := by
  intro e
  rcases h with ⟨_, rfl, rfl⟩ | ⟨g, off, cur, rfl, hg, _, h, hc⟩
  · rfl
  · cases e
/-- the block of a slice -/
def blk (a : Option Addr) : Option Nat := a.map fun p => p.block
theorem RL.stay {w w' : World} {a : Option Addr} {cap : Nat} {l : List Rw} (h : RL w a cap l) (hs : ∀ g, blk a = some g → w'.heap[g]? = w.heap[g]?) : RL w' a cap l := by
  rcases h with h | ⟨g, off, cur, rfl, hg, rest⟩
  · exact Or.inl h
  · exact Or.inr ⟨g, off, cur, rfl, (hs g rfl).trans hg, rest⟩
theorem RL.lt {w : World} {a : Option Addr} {cap : Nat} {l : List Rw} (h : RL w a cap l) {g : Nat} (hg : blk a = some g) : ∃ cur, w.heap[g]? = some (.cells cur RowT (0, 0)) := by
  rcases h with ⟨rfl, _⟩ | ⟨g', off, cur, rfl, hb, rest⟩
  · cases hg
  · cases hg; exact ⟨cur, hb⟩
theorem RL.below {w w' : World} {a : Option Addr} {cap : Nat} {l : List Rw} (h : RL w a cap l) (hb : Below w.heap.size w w') : RL w' a cap l :=
  h.stay fun g hg => hb.block g (by obtain ⟨cur, hc⟩ := h.lt hg; exact (Array.getElem?_eq_some_iff.1 hc).1)
/-- a part of a list: from a place to a place, with less room -/
theorem RL.part {w : World} {g off cap : Nat} {l : List Rw} (h : RL w (some ⟨g, off, none⟩) cap l) (i j m : Nat) (hij : i ≤ j) (hj : j ≤ l.length) (hm : j ≤ m) (hmc : m ≤ cap) : RL w (some ⟨g, off + i * 3, none⟩) (m - i) ((l.take j).drop i) := by
  rcases h with ⟨e, _⟩ | ⟨g', off', cur, e, hg, h1, h2, h3, h4⟩
  · cases e
  · cases e
    refine Or.inr ⟨g, off + i * 3, cur, rfl, hg, ?_, ?_, by omega, fun t u ht => ?_⟩
    · have : (i + (m - i)) * 3 ≤ cap * 3 := Nat.mul_le_mul_right 3 (by omega)
      omega
    · rw [List.length_drop, List.length_take]; omega
    · rw [Nat.add_assoc]
      refine h4 _ _ ?_
      rw [← rc_drop rwenc_len _ i (by rw [List.length_take]; omega), ← rc_take rwenc_len l j hj, List.getElem?_drop, List.getElem?_take] at ht
      split at ht
      · exact ht
      · cases ht
theorem RL.sub {w : World} {a : Option Addr} {cap : Nat} {l : List Rw} (h : RL w a cap l) (p q : Nat) (hpq : p ≤ q) (hq : q ≤ l.length) : RL w (if cap = p then a else a.map fun x => x.add (p * 3)) (cap - p) ((l.take q).drop p) := by
  have hr := h.room
  rcases h with ⟨rfl, rfl, rfl⟩ | ⟨g, off, cur, rfl, hg, rest⟩
  · have : p = 0 := by simp at hq; omega
    subst this
    exact Or.inl ⟨by simp, by simp, by simp⟩
  · have h : RL w (some ⟨g, off, none⟩) cap l := Or.inr ⟨g, off, cur, rfl, hg, rest⟩
    by_cases e : cap = p
    · rw [if_pos e]
      have h1 := h.part 0 0 0 (Nat.le_refl _) (Nat.zero_le _) (Nat.le_refl _) (Nat.zero_le _)
      have h2 : (l.take q).drop p = [] := List.drop_of_length_le (by rw [List.length_take]; omega)
      rw [h2, show cap - p = 0 by omega]
      simpa using h1
    · rw [if_neg e]
      have h1 := h.part p q cap hpq hq (by omega) (Nat.le_refl _)
      simpa [Go.WideShapes.add_plain] using h1
/-- a new row of rows -/
theorem RL.of_own {w : World} {B : Nat} {a : Option Addr} {n cap : Nat} {l : List Rw} (h : w.ownsRow B RowT 3 (.slice a n cap) l.length (rc rwenc l)) : RL w a cap l := by
  rcases h.2 with ⟨e, h0⟩ | ⟨g, cap', cur, e, hb, hg, h1, h2, h3, h4⟩
  · cases e
    exact Or.inl ⟨rfl, List.eq_nil_of_length_eq_zero h0, rfl⟩
  · cases e
    refine Or.inr ⟨g, 0, cur, rfl, hg, by omega, h1, h2, fun j u hj => ?_⟩
    rw [← h4, List.getElem?_take] at hj
    rw [Nat.zero_add]
    split at hj
    · simpa using hj
    · cases hj

/-- a table lies there -/
def TH (w : World) (bt : Nat) (l : List Rw) : Prop := Tok l ∧ ∃ a cap, w.heap[bt]? = some (.cells #[.slice a l.length cap] TabT (0, 0)) ∧ RL w a cap l
theorem TH.lt {w : World} {bt : Nat} {l : List Rw} (h : TH w bt l) : bt < w.heap.size := by
  obtain ⟨_, a, cap, hg, _⟩ := h
  exact (Array.getElem?_eq_some_iff.1 hg).1
theorem TH.below {w w' : World} {bt : Nat} {l : List Rw} (h : TH w bt l) (hb : Below w.heap.size w w') : TH w' bt l := by
  obtain ⟨ht, a, cap, hg, hr⟩ := h
  exact ⟨ht, a, cap, (hb.block bt (Array.getElem?_eq_some_iff.1 hg).1).trans hg, hr.below hb⟩
/-- nothing but one table has turned -/
abbrev Turn (bt : Nat) (w w' : World) : Prop := Only (fun b => b = bt) w w'
theorem RL.turn {w w' : World} {a : Option Addr} {cap : Nat} {l m : List Rw} {bt : Nat} (h : RL w a cap l) (ht : TH w bt m) (k : Turn bt w w') : RL w' a cap l := by
  refine h.stay fun g hg => ?_
  obtain ⟨cur, hc⟩ := h.lt hg
  refine k.block g (Array.getElem?_eq_some_iff.1 hc).1 ?_
  rintro rfl
  obtain ⟨_, a', cap', hg', _⟩ := ht
  rw [hc] at hg'
  simp only [Option.some.injEq, Obj.cells.injEq] at hg'
  exact absurd hg'.2.1 (by decide)
theorem TH.turn {w w' : World} {b bt : Nat} {l m : List Rw} (h : TH w b l) (ht : TH w bt m) (hne : b ≠ bt) (k : Turn bt w w') : TH w' b l := by
  obtain ⟨h1, a, cap, hg, hr⟩ := h
  exact ⟨h1, a, cap, (k.block b (Array.getElem?_eq_some_iff.1 hg).1 hne).trans hg, hr.turn ht k⟩

/-- results lie there, and their rows -/
structure ResL (w : World) (a : Option Addr) (l : List RsA) : Prop where
  lies : Gk.Lies w rsenc a l
  rows : ∀ x ∈ l, RL w x.a x.cap x.r.rows
theorem ResL.below {w w' : World} {a : Option Addr} {l : List RsA} (h : ResL w a l) (hb : Below w.heap.size w w') : ResL w' a l := ⟨h.lies.below hb, fun x hx => (h.rows x hx).below hb⟩

/-- a table's cells -/
theorem TH.cell {w : World} {bt : Nat} {l : List Rw} {a : Option Addr} {cap : Nat} (hg : w.heap[bt]? = some (.cells #[.slice a l.length cap] TabT (0, 0))) : w.cell? ⟨bt, 0, none⟩ = some (.slice a l.length cap) := by rw [cell_of_block hg]; rfl

end Go.Proofs.Ythdempdiibjabaa.Tb
