/- append of files, for skylarkref02. -/
import Derived.Test.YtokcknfbanpjjaaERead
import Derived.Laws.AppendOwnNone
namespace Go.Proofs.Ytokcknfbanpjjaa.Dk
open Go.RowKit Go.Maps Go.Joins

/-- files lie behind an address -/
def LiesR (w : World) (a : Option Addr) (l : Fls) : Prop := l = [] ∨ ∃ b off, a = some ⟨b, off, none⟩ ∧ b < w.heap.size ∧ ∀ j u, (rcells l)[j]? = some u → w.cell? ⟨b, off + j, none⟩ = some u
theorem LiesR.later {w wr : World} {a : Option Addr} {l : Fls} (h : LiesR w a l) (hs : ∀ b off, a = some ⟨b, off, none⟩ → b < w.heap.size → wr.heap[b]? = w.heap[b]?) (hz : w.heap.size ≤ wr.heap.size) : LiesR wr a l := by
  rcases h with rfl | ⟨b, off, rfl, hlt, hl⟩
  · exact Or.inl rfl
  · exact Or.inr ⟨b, off, rfl, Nat.lt_of_lt_of_le hlt hz, fun j u hj => (World.cell?_of_block (a := ⟨b, off + j, none⟩) (hs b off rfl hlt)).trans (hl j u hj)⟩
theorem rcells_one (l : Fls) : ∀ u ∈ rcells l, u.oneCell' = true := by
  intro u hu
  simp only [rcells, rcell, List.mem_flatMap, List.mem_cons, List.not_mem_nil, or_false] at hu
  obtain ⟨x, _, h⟩ := hu
  rcases h with rfl | rfl | rfl <;> rfl
theorem rfil_info : (Try.prog.info? RFil).map (fun i => (i.zero, i.size, i.bytes)) = some (some (.agg #[.string ⟨#[]⟩, .string ⟨#[]⟩, .int .i64 0]), 3, 40) := by kernel_rfl

/-- a row's first files, and those from a place on -/
theorem row_take {w : World} {a : Option Addr} {cap : Nat} {l : Fls} (h : w.ownsRow 0 RFil 3 (.slice a l.length cap) l.length (rcells l)) (i : Nat) (hi : i ≤ l.length) : LiesR w a (l.take i) := by
  by_cases h0 : l.take i = []
  · exact Or.inl h0
  · have hp : 0 < l.length := by
      rcases Nat.eq_zero_or_pos l.length with e | e
      · exact absurd (by rw [List.eq_nil_of_length_eq_zero e]; simp) h0
      · exact e
    obtain ⟨g, cap', e⟩ := ownsRow_form h hp
    cases e
    refine Or.inr ⟨g, 0, rfl, (h.lt g rfl).2, fun j u hj => ?_⟩
    have e1 : rcells l = rcells (l.take i) ++ rcells (l.drop i) := by rw [← rcells_append, List.take_append_drop]
    have hjl := (List.getElem?_eq_some_iff.1 hj).1
    have hjl' : j < l.length * 3 := by rw [rcells_length, List.length_take] at hjl; omega
    rw [Nat.zero_add, h.cellAt _ hjl', e1, List.getElem?_append_left hjl]
    exact hj

theorem wpList_append_files {w : World} {ops : Array Oper} {rest : List Oper} {o : Oper} {a : Act} {Q : Exit → Act → World → Prop} (hgd : o.guard = none) (s x : Operand)
    (ho : o.op = .call { callee := .builtin .append, args := #[s, x], argTypes := #[40, 40] })
    (B : Nat) (v : Value) (l : Fls) (hs : a.eval s = v) (hown : w.ownsRow B RFil 3 v l.length (rcells l)) (ad : Option Addr) (fs : Fls) (cap : Nat) (hx : a.eval x = .slice ad fs.length cap)
    (hl : LiesR w ad fs) (hnil : ad = none → cap = 0) (hlen : l.length + fs.length ≤ 1000) (hB : B ≤ w.heap.size)
    (h : ∀ v' w', w'.ownsRow B RFil 3 v' (l ++ fs).length (rcells (l ++ fs)) → w.grownBy w' v.ownBlock → wpList Try.prog ops Q rest (a.put o.dst v') w') : wpList Try.prog ops Q (o :: rest) a w := by
  obtain ⟨i0, hi, hz0, hz1, hz2⟩ := info_parts rfil_info
  cases ad with
  | none =>
    have hfs : fs = [] := by
      rcases hl with h | ⟨_, _, h, _⟩
      · exact h
      · cases h
    have hc := hnil rfl
    subst hfs hc
    refine wpList_append_own_none hgd s x 40 ho B RFil i0 3 Try.underlying40 hi v _ _ hs hown hx ?_
    refine h v w ?_ (World.grownBy.refl _ _)
    rw [List.append_nil]; exact hown
  | some ad =>
    refine wpList_append_own w hgd s x 40 ho B RFil i0 _ 3 40 Try.underlying40 hi hz0 hz1 hz2 rfl (by decide) v _ _ hs hown ad fs.length cap (rcells fs) hx (rcells_length fs) ?_ (rcells_one fs) (by unfold maxLen; omega) (by omega) hB ?_
    · rcases hl with rfl | ⟨b, off, e, _, hl⟩
      · intro j u hj; simp [rcells] at hj
      · cases e
        intro j u hj
        rw [Go.WideShapes.add_plain]
        exact hl j u hj
    · intro v' w' h1 h2 _
      refine h v' w' ?_ h2
      rw [rcells_append, List.length_append]; exact h1

end Go.Proofs.Ytokcknfbanpjjaa.Dk
