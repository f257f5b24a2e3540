/- What is no net's stays through its calls. -/
import Derived.Test.YtmdpkkipjdpopaaNtWorks
namespace Go.Proofs.Ytmdpkkipjdpopaa.Nk
open Go.RowKit Go.Joins Gk

/-- a net owns no more than it has, and what is not there yet -/
theorem NHeld.free {W : World} {own : Nat → Prop} {bn : Nat} {S : Nst} (h : NHeld W own bn S) (hfr : Fresh own W) : ∃ own' : Nat → Prop, NHeld W own' bn S ∧ Fresh own' W ∧ (∀ b, own' b → own b) ∧ (∀ b, b < W.heap.size → own' b → ∃ cs t, W.heap[b]? = some (.cells cs t (0, 0)) ∧ (t = NetT ∨ t = LetT ∨ t = PairT)) := by
  obtain ⟨v, u, h⟩ := h
  refine ⟨fun b => (b = bn ∨ v.ownBlock = some b ∨ u.ownBlock = some b) ∨ W.heap.size ≤ b, ⟨v, u, h.block, h.row, h.prow, Or.inl (Or.inl rfl), fun _ hg => Or.inl (Or.inr (Or.inl hg)), fun _ hg => Or.inl (Or.inr (Or.inr hg))⟩, fun b hb => Or.inr hb, fun b hb => ?_, fun b hlt hb => ?_⟩
  · rcases hb with (rfl | hb | hb) | hb
    · exact h.ownD
    · exact h.ownR b hb
    · exact h.ownP b hb
    · exact hfr b hb
  · rcases hb with (rfl | hb | hb) | hb
    · exact ⟨_, _, h.block, Or.inl rfl⟩
    · rcases h.row.2 with ⟨e, _⟩ | ⟨g, _, cur, e, _, hc, _⟩
      · rw [e] at hb; simp [Value.ownBlock] at hb
      · rw [e] at hb; simp only [Value.ownBlock, Option.some.injEq] at hb; subst hb
        exact ⟨_, _, hc, Or.inr (Or.inl rfl)⟩
    · rcases h.prow.2 with ⟨e, _⟩ | ⟨g, _, cur, e, _, hc, _⟩
      · rw [e] at hb; simp [Value.ownBlock] at hb
      · rw [e] at hb; simp only [Value.ownBlock, Option.some.injEq] at hb; subst hb
        exact ⟨_, _, hc, Or.inr (Or.inr rfl)⟩
    · omega

/-- what a call of a net leaves, seen from without: the net anew, and all that is of another make -/
structure Kept (w W W' : World) (bn : Nat) (S' : Nst) : Prop where
  held : NHeld W' (above w) bn S'
  below : Below w.heap.size w W'
  size : W.heap.size ≤ W'.heap.size
  cells : ∀ (b : Nat) (cs : Array Value) (t : TypeId), W.heap[b]? = some (.cells cs t (0, 0)) → t ≠ NetT → t ≠ LetT → t ≠ PairT → W'.heap[b]? = W.heap[b]?
  maps : ∀ (b : Nat) es c, W.heap[b]? = some (Obj.map es c) → W'.heap[b]? = W.heap[b]?
theorem Kept.row {α : Type} {enc : α → List Value} {k : Nat} {w W W' : World} {bn : Nat} {S' : Nst} (h : Kept w W W' bn S') {e : Nat} {v : Value} {l : List α} (hr : Row W enc e k v l) (h1 : e ≠ NetT) (h2 : e ≠ LetT) (h3 : e ≠ PairT) : Row W' enc e k v l :=
  hr.stay fun g hg => by
    rcases hr.2 with ⟨e1, _⟩ | ⟨g', _, cur, e1, _, hc, _⟩
    · rw [e1] at hg; simp [Value.ownBlock] at hg
    · rw [e1] at hg; simp only [Value.ownBlock, Option.some.injEq] at hg; subst hg
      exact h.cells _ _ _ hc h1 h2 h3
theorem kept_of {w W W' : World} {own' : Nat → Prop} {bn : Nat} {S' : Nst} (hb : Below w.heap.size w W) (ho : ∀ b, own' b → above w b) (hty : ∀ b, b < W.heap.size → own' b → ∃ cs t, W.heap[b]? = some (.cells cs t (0, 0)) ∧ (t = NetT ∨ t = LetT ∨ t = PairT))
    (hh : NHeld W' own' bn S') (hO : Only own' W W') : Kept w W W' bn S' := by
  refine ⟨hh.owns fun b _ hb => ho b hb, hb.trans (hO.below hb.size ho), hO.size, fun b cs t hc h1 h2 h3 => hO.block b (Array.getElem?_eq_some_iff.1 hc).1 fun e => ?_, fun b es c hc => hO.block b (Array.getElem?_eq_some_iff.1 hc).1 fun e => ?_⟩
  · obtain ⟨cs', t', hc', h⟩ := hty b (Array.getElem?_eq_some_iff.1 hc).1 e
    rw [hc] at hc'; cases hc'
    rcases h with h | h | h
    · exact h1 h
    · exact h2 h
    · exact h3 h
  · obtain ⟨cs', t', hc', h⟩ := hty b (Array.getElem?_eq_some_iff.1 hc).1 e
    rw [hc] at hc'; cases hc'
theorem kept_below {w W W' : World} {bn : Nat} {S : Nst} (hh : NHeld W (above w) bn S) (hb : Below w.heap.size w W) (hb' : Below W.heap.size W W') : Kept w W W' bn S :=
  ⟨hh.below hb', hb.trans (hb'.mono hb.size), hb'.size, fun b _ _ hc _ _ _ => hb'.block b (Array.getElem?_eq_some_iff.1 hc).1, fun b _ _ hc => hb'.block b (Array.getElem?_eq_some_iff.1 hc).1⟩

/-- a row of another make grows: the net stays -/
theorem NHeld.grown {α : Type} {enc : α → List Value} {k : Nat} {W W' : World} {own : Nat → Prop} {bn : Nat} {S : Nst} (h : NHeld W own bn S) {e : Nat} {v : Value} {l : List α} (hr : Row W enc e k v l) (h1 : e ≠ NetT) (h2 : e ≠ LetT) (h3 : e ≠ PairT) (hg : W.grownBy W' v.ownBlock) : NHeld W' own bn S := by
  obtain ⟨v', u', h⟩ := h
  have hne : ∀ (b : Nat) (cs : Array Value) (t : TypeId), W.heap[b]? = some (.cells cs t (0, 0)) → t ≠ e → W'.heap[b]? = W.heap[b]? := fun b cs t hc ht => hg.block b (Array.getElem?_eq_some_iff.1 hc).1 fun e1 => own_ne hr hc ht e1.symm rfl
  refine ⟨v', u', (hne _ _ _ h.block (Ne.symm h1)).trans h.block, h.row.stay fun g hg' => ?_, h.prow.stay fun g hg' => ?_, h.ownD, h.ownR, h.ownP⟩
  · rcases h.row.2 with ⟨e1, _⟩ | ⟨g', _, cur, e1, _, hc, _⟩
    · rw [e1] at hg'; simp [Value.ownBlock] at hg'
    · rw [e1] at hg'; simp only [Value.ownBlock, Option.some.injEq] at hg'; subst hg'
      exact hne _ _ _ hc (Ne.symm h2)
  · rcases h.prow.2 with ⟨e1, _⟩ | ⟨g', _, cur, e1, _, hc, _⟩
    · rw [e1] at hg'; simp [Value.ownBlock] at hg'
    · rw [e1] at hg'; simp only [Value.ownBlock, Option.some.injEq] at hg'; subst hg'
      exact hne _ _ _ hc (Ne.symm h3)
theorem below_grown {w W W' : World} {row : Option Nat} (hb : Below w.heap.size w W) (hg : W.grownBy W' row) (hr : ∀ g, row = some g → w.heap.size ≤ g) : Below w.heap.size w W' := hb.grown hg hb.size hr

section
variable {w W : World} {bn : Nat} {S : Nst}
theorem send_kept (hh : NHeld W (above w) bn S) (hb : Below w.heap.size w W) (hok : S.Ok) (a b : Int) (s : ByteArray) (hs : s.size ≤ 140737488351232) :
    Calls Try.prog 13 #[.pointer (some ⟨bn, 0, none⟩), .int .i64 a, .int .i64 b, .string s] W fun e w' => e = .returned (.tuple #[.int .i64 (S.send a b s).1.1, .int .i64 (S.send a b s).1.2]) ∧ Kept w W w' bn (S.send a b s).2 := by
  obtain ⟨own', h', hf', ho', hty⟩ := hh.free (fresh_above w hb.size)
  refine (send_any W h' hf' hok a b s hs).mono ?_
  rintro e w' ⟨h1, h2, h3⟩
  exact ⟨h1, kept_of hb ho' hty h2 h3⟩
theorem copy_kept (hh : NHeld W (above w) bn S) (hb : Below w.heap.size w W) (hok : S.Ok) (id : Int) :
    Calls Try.prog 14 #[.pointer (some ⟨bn, 0, none⟩), .int .i64 id] W fun e w' => e = .returned (.tuple #[.int .i64 (S.copy id).1.1, .int .i64 (S.copy id).1.2]) ∧ Kept w W w' bn (S.copy id).2 := by
  obtain ⟨own', h', hf', ho', hty⟩ := hh.free (fresh_above w hb.size)
  refine (copy_any W h' hf' hok id).mono ?_
  rintro e w' ⟨h1, h2, h3⟩
  exact ⟨h1, kept_of hb ho' hty h2 h3⟩
theorem lose_kept (hh : NHeld W (above w) bn S) (hb : Below w.heap.size w W) (hok : S.Ok) (id : Int) :
    Calls Try.prog 15 #[.pointer (some ⟨bn, 0, none⟩), .int .i64 id] W fun e w' => e = .returned (.int .i64 (S.lose id).1) ∧ Kept w W w' bn (S.lose id).2 := by
  obtain ⟨own', h', hf', ho', hty⟩ := hh.free (fresh_above w hb.size)
  refine (lose_any W h' hok id).mono ?_
  rintro e w' ⟨h1, h2, h3⟩
  exact ⟨h1, kept_of hb ho' hty h2 h3⟩
theorem take_kept (hh : NHeld W (above w) bn S) (hb : Below w.heap.size w W) (hok : S.Ok) (id : Int) :
    Calls Try.prog 18 #[.pointer (some ⟨bn, 0, none⟩), .int .i64 id] W fun e w' => e = .returned (.tuple #[optV (S.take id).1.1, .int .i64 (S.take id).1.2]) ∧ Kept w W w' bn (S.take id).2 := by
  obtain ⟨own', h', hf', ho', hty⟩ := hh.free (fresh_above w hb.size)
  refine (take_any W h' hok id).mono ?_
  rintro e w' ⟨h1, h2, h3⟩
  exact ⟨h1, kept_of hb ho' hty h2 h3⟩
theorem part_kept (hh : NHeld W (above w) bn S) (hb : Below w.heap.size w W) (hok : S.Ok) (a b : Int) :
    Calls Try.prog 20 #[.pointer (some ⟨bn, 0, none⟩), .int .i64 a, .int .i64 b] W fun e w' => e = .returned (.int .i64 (S.part a b).1) ∧ Kept w W w' bn (S.part a b).2 := by
  obtain ⟨own', h', hf', ho', hty⟩ := hh.free (fresh_above w hb.size)
  refine (part_any W h' hf' hok a b).mono ?_
  rintro e w' ⟨h1, h2, h3⟩
  exact ⟨h1, kept_of hb ho' hty h2 h3⟩
theorem join_kept (hh : NHeld W (above w) bn S) (hb : Below w.heap.size w W) (hok : S.Ok) (a b : Int) :
    Calls Try.prog 21 #[.pointer (some ⟨bn, 0, none⟩), .int .i64 a, .int .i64 b] W fun e w' => e = .returned (.int .i64 (S.join a b).1) ∧ Kept w W w' bn (S.join a b).2 := by
  obtain ⟨own', h', hf', ho', hty⟩ := hh.free (fresh_above w hb.size)
  refine (join_any W h' hok a b).mono ?_
  rintro e w' ⟨h1, h2, h3⟩
  exact ⟨h1, kept_of hb ho' hty h2 h3⟩
theorem drop_kept (hh : NHeld W (above w) bn S) (hb : Below w.heap.size w W) (hok : S.Ok) (a : Int) :
    Calls Try.prog 22 #[.pointer (some ⟨bn, 0, none⟩), .int .i64 a] W fun e w' => e = .returned (.tuple #[.int .i64 (S.drop a).1.1, .int .i64 (S.drop a).1.2]) ∧ Kept w W w' bn (S.drop a).2 := by
  obtain ⟨own', h', hf', ho', hty⟩ := hh.free (fresh_above w hb.size)
  refine (drop_any W h' hok a).mono ?_
  rintro e w' ⟨h1, h2, h3⟩
  exact ⟨h1, kept_of hb ho' hty h2 h3⟩
theorem parted_kept (hh : NHeld W (above w) bn S) (hb : Below w.heap.size w W) (hok : S.Ok) (a b : Int) :
    Calls Try.prog 19 #[.pointer (some ⟨bn, 0, none⟩), .int .i64 a, .int .i64 b] W fun e w' => e = .returned (.tuple #[.bool (S.isParted a b).1, .int .i64 (S.isParted a b).2]) ∧ Kept w W w' bn S := by
  refine (parted_any W hh hok a b).mono ?_
  rintro e w' ⟨h1, h2⟩
  exact ⟨h1, kept_below hh hb h2⟩
end

end Go.Proofs.Ytmdpkkipjdpopaa.Nk
