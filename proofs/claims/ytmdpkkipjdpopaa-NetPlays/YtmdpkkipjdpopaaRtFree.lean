/- Both nets: each stays through the other's calls. -/
import Derived.Test.YtmdpkkipjdpopaaRtNew
namespace Go.Proofs.Ytmdpkkipjdpopaa.Nk
open Go.RowKit Go.Joins Gk

theorem RNHeld.free {W : World} {own : Nat → Prop} {br : Nat} {S : Nst} (h : RNHeld W own br S) (hfr : Fresh own W) : ∃ own' : Nat → Prop, RNHeld W own' br S ∧ Fresh own' W ∧ (∀ b, own' b → own b) ∧ (∀ b, b < W.heap.size → own' b → ∃ cs t, W.heap[b]? = some (.cells cs t (0, 0)) ∧ (t = RNetT ∨ t = RLetT ∨ t = BoolsT ∨ t = BoolT)) := by
  obtain ⟨v, u, gs, h⟩ := h
  refine ⟨fun b => (b = br ∨ v.ownBlock = some b ∨ u.ownBlock = some b ∨ b ∈ gs) ∨ W.heap.size ≤ b, ⟨v, u, gs, h.block, h.row, h.crow, h.glen, h.gnod, h.cut, Or.inl (Or.inl rfl), fun _ hg => Or.inl (Or.inr (Or.inl hg)), fun _ hg => Or.inl (Or.inr (Or.inr (Or.inl hg))), fun _ hg => Or.inl (Or.inr (Or.inr (Or.inr hg)))⟩, fun b hb => Or.inr hb, fun b hb => ?_, fun b hlt hb => ?_⟩
  · rcases hb with (rfl | hb | hb | hb) | hb
    · exact h.ownD
    · exact h.ownR b hb
    · exact h.ownC b hb
    · exact h.ownG b hb
    · exact hfr b hb
  · rcases hb with (rfl | hb | hb | hb) | hb
    · exact ⟨_, _, h.block, Or.inl rfl⟩
    · obtain ⟨cs, hc⟩ := row_block h.row hb
      exact ⟨_, _, hc, Or.inr (Or.inl rfl)⟩
    · obtain ⟨cs, hc⟩ := row_block h.crow hb
      exact ⟨_, _, hc, Or.inr (Or.inr (Or.inl rfl))⟩
    · obtain ⟨i, hi, rfl⟩ := List.getElem_of_mem hb
      exact ⟨_, _, h.cut i hi, Or.inr (Or.inr (Or.inr rfl))⟩
    · omega

/-- the calls that were laid down stay -/
def Box (W W' : World) : Prop := ∀ (b : Nat) (cs : Array Value), W.heap[b]? = some (.cells cs 32 (0, 0)) → W'.heap[b]? = some (.cells cs 32 (0, 0))
theorem Box.of_kept {w W W' : World} {bn : Nat} {S' : Nst} (h : Kept w W W' bn S') : Box W W' := fun b cs hc => (h.cells b cs _ hc (by decide) (by decide) (by decide)).trans hc
theorem Box.of_below {W W' : World} (h : Below W.heap.size W W') : Box W W' := fun b _ hc => (h.block b (Array.getElem?_eq_some_iff.1 hc).1).trans hc
theorem Box.of_only {W W' : World} {own' : Nat → Prop} (hty : ∀ b, b < W.heap.size → own' b → ∃ cs t, W.heap[b]? = some (.cells cs t (0, 0)) ∧ (t = RNetT ∨ t = RLetT ∨ t = BoolsT ∨ t = BoolT)) (hO : Only own' W W') : Box W W' := fun b cs hc => (hO.block b (Array.getElem?_eq_some_iff.1 hc).1 fun e => by
  obtain ⟨cs', t', hc', h⟩ := hty b (Array.getElem?_eq_some_iff.1 hc).1 e
  rw [hc] at hc'; cases hc'
  rcases h with h | h | h | h <;> exact absurd h (by decide)).trans hc
/-- what is not of the document's make stays -/
def RBox (W W' : World) : Prop := ∀ (b : Nat) (cs : Array Value) (t : TypeId), W.heap[b]? = some (.cells cs t (0, 0)) → t ≠ RNetT → t ≠ RLetT → t ≠ BoolsT → t ≠ BoolT → W'.heap[b]? = some (.cells cs t (0, 0))
theorem RBox.of_only {W W' : World} {own' : Nat → Prop} (hty : ∀ b, b < W.heap.size → own' b → ∃ cs t, W.heap[b]? = some (.cells cs t (0, 0)) ∧ (t = RNetT ∨ t = RLetT ∨ t = BoolsT ∨ t = BoolT)) (hO : Only own' W W') : RBox W W' := fun b cs t hc h1 h2 h3 h4 => (hO.block b (Array.getElem?_eq_some_iff.1 hc).1 fun e => by
  obtain ⟨cs', t', hc', h⟩ := hty b (Array.getElem?_eq_some_iff.1 hc).1 e
  rw [hc] at hc'; cases hc'
  rcases h with h | h | h | h
  · exact h1 h
  · exact h2 h
  · exact h3 h
  · exact h4 h).trans hc
/-- a net lies at one place, and the document's at another -/
structure Duo (w W : World) (bn br : Nat) (S R : Nst) : Prop where
  net : NHeld W (above w) bn S
  ref : RNHeld W (above w) br R
  below : Below w.heap.size w W
section
variable {w W W' : World} {bn br : Nat} {S S' R R' : Nst}
theorem Duo.kept (h : Duo w W bn br S R) (hK : Kept w W W' bn S') : Duo w W' bn br S' R := by
  obtain ⟨v, u, gs, hr⟩ := h.ref
  exact ⟨hK.held, ⟨v, u, gs, hr.stay fun b cs t hc ht _ => hK.cells b cs t hc (by rcases ht with rfl | rfl | rfl | rfl <;> decide) (by rcases ht with rfl | rfl | rfl | rfl <;> decide) (by rcases ht with rfl | rfl | rfl | rfl <;> decide)⟩, hK.below⟩
theorem Duo.rkept (h : Duo w W bn br S R) {own' : Nat → Prop} (ho : ∀ b, own' b → above w b) (hty : ∀ b, b < W.heap.size → own' b → ∃ cs t, W.heap[b]? = some (.cells cs t (0, 0)) ∧ (t = RNetT ∨ t = RLetT ∨ t = BoolsT ∨ t = BoolT))
    (hh : RNHeld W' own' br R') (hO : Only own' W W') : Duo w W' bn br S R' := by
  have hne : ∀ (b : Nat) (cs : Array Value) (t : TypeId), W.heap[b]? = some (.cells cs t (0, 0)) → (t ≠ RNetT ∧ t ≠ RLetT ∧ t ≠ BoolsT ∧ t ≠ BoolT) → W'.heap[b]? = W.heap[b]? := fun b cs t hc ht => hO.block b (Array.getElem?_eq_some_iff.1 hc).1 fun e => by
    obtain ⟨cs', t', hc', h⟩ := hty b (Array.getElem?_eq_some_iff.1 hc).1 e
    rw [hc] at hc'; cases hc'
    rcases h with h | h | h | h
    · exact ht.1 h
    · exact ht.2.1 h
    · exact ht.2.2.1 h
    · exact ht.2.2.2 h
  obtain ⟨v, u, hn⟩ := h.net
  obtain ⟨v', u', gs', hr⟩ := hh
  exact ⟨⟨v, u, (hne _ _ _ hn.block (by decide)).trans hn.block, hn.row.stay fun g hg => let ⟨_, hc⟩ := row_block hn.row hg; hne _ _ _ hc (by decide), hn.prow.stay fun g hg => let ⟨_, hc⟩ := row_block hn.prow hg; hne _ _ _ hc (by decide), hn.ownD, hn.ownR, hn.ownP⟩,
    ⟨v', u', gs', hr.owns ho⟩, h.below.trans (hO.below h.below.size ho)⟩
theorem Duo.drew (h : Duo w W bn br S R) : Duo w W.drew bn br S R :=
  ⟨h.net.below (Below.refl _ _).drew, h.ref.below (Below.refl _ _).drew, h.below.drew⟩
theorem Duo.later (h : Duo w W bn br S R) (hb : Below W.heap.size W W') : Duo w W' bn br S R :=
  ⟨h.net.below hb, h.ref.below hb, h.below.trans (hb.mono h.below.size)⟩

theorem Duo.nsend (h : Duo w W bn br S R) (hok : S.Ok) (a b : Int) (s : ByteArray) (hs : s.size ≤ 140737488351232) :
    Calls Try.prog 13 #[.pointer (some ⟨bn, 0, none⟩), .int .i64 a, .int .i64 b, .string s] W fun e w' => e = .returned (.tuple #[.int .i64 (S.send a b s).1.1, .int .i64 (S.send a b s).1.2]) ∧ Duo w w' bn br (S.send a b s).2 R ∧ Box W w' := by
  refine (send_kept h.net h.below hok a b s hs).mono ?_
  rintro e w' ⟨h1, h2⟩
  exact ⟨h1, h.kept h2, Box.of_kept h2⟩
theorem Duo.ncopy (h : Duo w W bn br S R) (hok : S.Ok) (id : Int) :
    Calls Try.prog 14 #[.pointer (some ⟨bn, 0, none⟩), .int .i64 id] W fun e w' => e = .returned (.tuple #[.int .i64 (S.copy id).1.1, .int .i64 (S.copy id).1.2]) ∧ Duo w w' bn br (S.copy id).2 R ∧ Box W w' := by
  refine (copy_kept h.net h.below hok id ).mono ?_
  rintro e w' ⟨h1, h2⟩
  exact ⟨h1, h.kept h2, Box.of_kept h2⟩
theorem Duo.nlose (h : Duo w W bn br S R) (hok : S.Ok) (id : Int) :
    Calls Try.prog 15 #[.pointer (some ⟨bn, 0, none⟩), .int .i64 id] W fun e w' => e = .returned (.int .i64 (S.lose id).1) ∧ Duo w w' bn br (S.lose id).2 R ∧ Box W w' := by
  refine (lose_kept h.net h.below hok id ).mono ?_
  rintro e w' ⟨h1, h2⟩
  exact ⟨h1, h.kept h2, Box.of_kept h2⟩
theorem Duo.ntake (h : Duo w W bn br S R) (hok : S.Ok) (id : Int) :
    Calls Try.prog 18 #[.pointer (some ⟨bn, 0, none⟩), .int .i64 id] W fun e w' => e = .returned (.tuple #[optV (S.take id).1.1, .int .i64 (S.take id).1.2]) ∧ Duo w w' bn br (S.take id).2 R ∧ Box W w' := by
  refine (take_kept h.net h.below hok id ).mono ?_
  rintro e w' ⟨h1, h2⟩
  exact ⟨h1, h.kept h2, Box.of_kept h2⟩
theorem Duo.npart (h : Duo w W bn br S R) (hok : S.Ok) (a b : Int) :
    Calls Try.prog 20 #[.pointer (some ⟨bn, 0, none⟩), .int .i64 a, .int .i64 b] W fun e w' => e = .returned (.int .i64 (S.part a b).1) ∧ Duo w w' bn br (S.part a b).2 R ∧ Box W w' := by
  refine (part_kept h.net h.below hok a b ).mono ?_
  rintro e w' ⟨h1, h2⟩
  exact ⟨h1, h.kept h2, Box.of_kept h2⟩
theorem Duo.njoin (h : Duo w W bn br S R) (hok : S.Ok) (a b : Int) :
    Calls Try.prog 21 #[.pointer (some ⟨bn, 0, none⟩), .int .i64 a, .int .i64 b] W fun e w' => e = .returned (.int .i64 (S.join a b).1) ∧ Duo w w' bn br (S.join a b).2 R ∧ Box W w' := by
  refine (join_kept h.net h.below hok a b ).mono ?_
  rintro e w' ⟨h1, h2⟩
  exact ⟨h1, h.kept h2, Box.of_kept h2⟩
theorem Duo.ndrop (h : Duo w W bn br S R) (hok : S.Ok) (a : Int) :
    Calls Try.prog 22 #[.pointer (some ⟨bn, 0, none⟩), .int .i64 a] W fun e w' => e = .returned (.tuple #[.int .i64 (S.drop a).1.1, .int .i64 (S.drop a).1.2]) ∧ Duo w w' bn br (S.drop a).2 R ∧ Box W w' := by
  refine (drop_kept h.net h.below hok a ).mono ?_
  rintro e w' ⟨h1, h2⟩
  exact ⟨h1, h.kept h2, Box.of_kept h2⟩
theorem Duo.rsend (h : Duo w W bn br S R) (hok : R.Ok) (a b : Int) (s : ByteArray) :
    Calls Try.prog 23 #[.pointer (some ⟨br, 0, none⟩), .int .i64 a, .int .i64 b, .string s] W fun e w' => e = .returned (.tuple #[.int .i64 (R.send a b s).1.1, .int .i64 (R.send a b s).1.2]) ∧ Duo w w' bn br S (R.send a b s).2 ∧ RBox W w' := by
  have _ := hok
  obtain ⟨own', h', hf', ho', hty⟩ := h.ref.free (fresh_above w h.below.size)
  refine (rsend_any W h' hf' hok a b s).mono ?_
  rintro e w' ⟨h1, h2, h3⟩
  exact ⟨h1, h.rkept ho' hty h2 h3, RBox.of_only hty h3⟩
theorem Duo.rcopy (h : Duo w W bn br S R) (hok : R.Ok) (id : Int) :
    Calls Try.prog 26 #[.pointer (some ⟨br, 0, none⟩), .int .i64 id] W fun e w' => e = .returned (.tuple #[.int .i64 (R.copy id).1.1, .int .i64 (R.copy id).1.2]) ∧ Duo w w' bn br S (R.copy id).2 ∧ RBox W w' := by
  have _ := hok
  obtain ⟨own', h', hf', ho', hty⟩ := h.ref.free (fresh_above w h.below.size)
  refine (rcopy_any W h' hf' hok id).mono ?_
  rintro e w' ⟨h1, h2, h3⟩
  exact ⟨h1, h.rkept ho' hty h2 h3, RBox.of_only hty h3⟩
theorem Duo.rlose (h : Duo w W bn br S R) (hok : R.Ok) (id : Int) :
    Calls Try.prog 25 #[.pointer (some ⟨br, 0, none⟩), .int .i64 id] W fun e w' => e = .returned (.int .i64 (R.lose id).1) ∧ Duo w w' bn br S (R.lose id).2 ∧ RBox W w' := by
  have _ := hok
  obtain ⟨own', h', hf', ho', hty⟩ := h.ref.free (fresh_above w h.below.size)
  refine (rlose_any W h' hf' hok id).mono ?_
  rintro e w' ⟨h1, h2, h3⟩
  exact ⟨h1, h.rkept ho' hty h2 h3, RBox.of_only hty h3⟩
theorem Duo.rtake (h : Duo w W bn br S R) (hok : R.Ok) (id : Int) :
    Calls Try.prog 24 #[.pointer (some ⟨br, 0, none⟩), .int .i64 id] W fun e w' => e = .returned (.tuple #[optV (R.take id).1.1, .int .i64 (R.take id).1.2]) ∧ Duo w w' bn br S (R.take id).2 ∧ RBox W w' := by
  have _ := hok
  obtain ⟨own', h', hf', ho', hty⟩ := h.ref.free (fresh_above w h.below.size)
  refine (rtake_any W h' hf' hok id).mono ?_
  rintro e w' ⟨h1, h2, h3⟩
  exact ⟨h1, h.rkept ho' hty h2 h3, RBox.of_only hty h3⟩
theorem Duo.rpart (h : Duo w W bn br S R) (hok : R.Ok) (a b : Int) :
    Calls Try.prog 27 #[.pointer (some ⟨br, 0, none⟩), .int .i64 a, .int .i64 b] W fun e w' => e = .returned (.int .i64 (R.part a b).1) ∧ Duo w w' bn br S (R.part a b).2 ∧ RBox W w' := by
  have _ := hok
  obtain ⟨own', h', hf', ho', hty⟩ := h.ref.free (fresh_above w h.below.size)
  refine (rpart_any W h'  a b).mono ?_
  rintro e w' ⟨h1, h2, h3⟩
  exact ⟨h1, h.rkept ho' hty h2 h3, RBox.of_only hty h3⟩
theorem Duo.rjoin (h : Duo w W bn br S R) (hok : R.Ok) (a b : Int) :
    Calls Try.prog 28 #[.pointer (some ⟨br, 0, none⟩), .int .i64 a, .int .i64 b] W fun e w' => e = .returned (.int .i64 (R.join a b).1) ∧ Duo w w' bn br S (R.join a b).2 ∧ RBox W w' := by
  have _ := hok
  obtain ⟨own', h', hf', ho', hty⟩ := h.ref.free (fresh_above w h.below.size)
  refine (rjoin_any W h'  a b).mono ?_
  rintro e w' ⟨h1, h2, h3⟩
  exact ⟨h1, h.rkept ho' hty h2 h3, RBox.of_only hty h3⟩
theorem Duo.rdrop (h : Duo w W bn br S R) (hok : R.Ok) (a : Int) :
    Calls Try.prog 30 #[.pointer (some ⟨br, 0, none⟩), .int .i64 a] W fun e w' => e = .returned (.tuple #[.int .i64 (R.drop a).1.1, .int .i64 (R.drop a).1.2]) ∧ Duo w w' bn br S (R.drop a).2 ∧ RBox W w' := by
  have _ := hok
  obtain ⟨own', h', hf', ho', hty⟩ := h.ref.free (fresh_above w h.below.size)
  refine (rdrops_any W h' hf' hok a).mono ?_
  rintro e w' ⟨h1, h2, h3⟩
  exact ⟨h1, h.rkept ho' hty h2 h3, RBox.of_only hty h3⟩
theorem Duo.nparted (h : Duo w W bn br S R) (hok : S.Ok) (a b : Int) :
    Calls Try.prog 19 #[.pointer (some ⟨bn, 0, none⟩), .int .i64 a, .int .i64 b] W fun e w' => e = .returned (.tuple #[.bool (S.isParted a b).1, .int .i64 (S.isParted a b).2]) ∧ Duo w w' bn br S R ∧ Box W w' := by
  refine (parted_any W h.net hok a b).mono ?_
  rintro e w' ⟨h1, h2⟩
  exact ⟨h1, h.later h2, Box.of_below h2⟩
theorem Duo.rparted (h : Duo w W bn br S R) (a b : Int) :
    Calls Try.prog 29 #[.pointer (some ⟨br, 0, none⟩), .int .i64 a, .int .i64 b] W fun e w' => e = .returned (.tuple #[.bool (R.isParted a b).1, .int .i64 (R.isParted a b).2]) ∧ Duo w w' bn br S R ∧ Box W w' := by
  refine (rparted_any W h.ref a b).mono ?_
  rintro e w' ⟨h1, h2⟩
  exact ⟨h1, h.later h2, Box.of_below h2⟩
end

end Go.Proofs.Ytmdpkkipjdpopaa.Nk
