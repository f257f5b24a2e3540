/- Walks over skylarkref03: set, Part, Join. -/
import Derived.Test.YtmdpkkipjdpopaaRtCalls
namespace Go.Proofs.Ytmdpkkipjdpopaa.Nk
open Go.RowKit Go.Joins Gk

theorem prOf_eq {i j a b : Nat} : prOf i j = prOf a b ↔ (i = a ∧ j = b) ∨ (i = b ∧ j = a) := by
  simp only [prOf, Prod.mk.injEq]; omega
theorem parted_iff {S : Nst} {i j : Nat} : S.parted i j = true ↔ prOf i j ∈ S.ps := memP_iff
theorem part_parted (S : Nst) (a b : Nat) (hab : a ≠ b) (ha : a < S.nodes) (hb : b < S.nodes) : (S.part a b).1 = 0 ∧ (S.part a b).2.nodes = S.nodes ∧ (S.part a b).2.ls = S.ls ∧ (S.part a b).2.sent = S.sent ∧ ∀ i j, (S.part a b).2.parted i j = if (i = a ∧ j = b) ∨ (i = b ∧ j = a) then true else S.parted i j := by
  have h1 : hasN S.nodes (a : Int) = true := by rw [hasN_iff]; omega
  have h2 : hasN S.nodes (b : Int) = true := by rw [hasN_iff]; omega
  rw [Nst.part, if_neg (by rw [h1, h2]; simp), if_neg (by omega)]
  simp only [Int.toNat_natCast]
  by_cases hp : S.parted a b = true
  · rw [if_pos hp]
    refine ⟨rfl, rfl, rfl, rfl, fun i j => ?_⟩
    split
    · rename_i h
      rw [parted_iff, prOf_eq.2 h]; exact parted_iff.1 hp
    · rfl
  · rw [if_neg hp]
    refine ⟨rfl, rfl, rfl, rfl, fun i j => ?_⟩
    rw [Bool.eq_iff_iff, parted_iff]
    simp only [List.mem_append, List.mem_singleton, prOf_eq]
    split
    · rename_i h; simp [h]
    · rename_i h; rw [parted_iff]; simp [h]
theorem join_parted (S : Nst) (a b : Nat) (ha : a < S.nodes) (hb : b < S.nodes) : (S.join a b).1 = 0 ∧ (S.join a b).2.nodes = S.nodes ∧ (S.join a b).2.ls = S.ls ∧ (S.join a b).2.sent = S.sent ∧ ∀ i j, (S.join a b).2.parted i j = if (i = a ∧ j = b) ∨ (i = b ∧ j = a) then false else S.parted i j := by
  have h1 : hasN S.nodes (a : Int) = true := by rw [hasN_iff]; omega
  have h2 : hasN S.nodes (b : Int) = true := by rw [hasN_iff]; omega
  rw [Nst.join, if_neg (by rw [h1, h2]; simp)]
  simp only [Int.toNat_natCast]
  refine ⟨trivial, trivial, trivial, trivial, fun i j => ?_⟩
  rw [Bool.eq_iff_iff, parted_iff]
  simp only [List.mem_filter, Bool.not_eq_true', ← Bool.not_eq_true, isPr_iff, prOf_eq]
  split
  · rename_i h; simp [h]
  · rename_i h; rw [parted_iff]; simp [h]

theorem set_at (X : Array Value) (p j : Nat) (z : Value) (hj : j < X.size) : (X.setIfInBounds p z)[j]? = if p = j then some z else X[j]? := by
  rw [Array.getElem?_setIfInBounds]
  split
  · rename_i e; rw [if_pos (by omega)]
  · rfl
theorem cutRow_set {S S' : Nst} {a b : Nat} {c : Bool} (hn : S'.nodes = S.nodes) (hc : ∀ i j, S'.parted i j = if (i = a ∧ j = b) ∨ (i = b ∧ j = a) then c else S.parted i j) (i : Nat) :
    (if i = b then (if i = a then (cutRow S i).setIfInBounds b (.bool c) else cutRow S i).setIfInBounds a (.bool c) else if i = a then (cutRow S i).setIfInBounds b (.bool c) else cutRow S i) = cutRow S' i := by
  apply Array.ext_getElem?
  intro j
  by_cases hj : j < S.nodes
  · rw [cutRow_at S' i j (by rw [hn]; exact hj), hc]
    have hs := cutRow_size S i
    have hat := cutRow_at S i j hj
    by_cases h1 : i = b
    · rw [if_pos h1]
      by_cases h2 : i = a
      · rw [if_pos h2, set_at _ _ _ _ (by simp [hs, hj]), set_at _ _ _ _ (by rw [hs]; exact hj), hat]
        grind
      · rw [if_neg h2, set_at _ _ _ _ (by rw [hs]; exact hj), hat]
        grind
    · rw [if_neg h1]
      by_cases h2 : i = a
      · rw [if_pos h2, set_at _ _ _ _ (by rw [hs]; exact hj), hat]
        grind
      · rw [if_neg h2, hat]
        grind
  · have e1 : (cutRow S' i)[j]? = none := Array.getElem?_eq_none (by rw [cutRow_size, hn]; omega)
    rw [e1]
    have hs := cutRow_size S i
    split <;> (try split) <;> exact Array.getElem?_eq_none (by simp only [Array.size_setIfInBounds, hs]; omega)

theorem RNHeldL.setCut {w : World} {own : Nat → Prop} {br : Nat} {S S' : Nst} {v u : Value} {gs : List Nat} (h : RNHeldL w own br S v u gs) {a b ga gb : Nat} {c : Bool} (ha : gs[a]? = some ga) (hb : gs[b]? = some gb) (hn : S'.nodes = S.nodes) (hl : S'.ls = S.ls) (hs : S'.sent = S.sent)
    (hc : ∀ i j, S'.parted i j = if (i = a ∧ j = b) ∨ (i = b ∧ j = a) then c else S.parted i j) : RNHeldL ((w.setCell ⟨ga, b, none⟩ (.bool c)).setCell ⟨gb, a, none⟩ (.bool c)) own br S' v u gs := by
  obtain ⟨hal, rfl⟩ := List.getElem?_eq_some_iff.1 ha
  obtain ⟨hbl, rfl⟩ := List.getElem?_eq_some_iff.1 hb
  have hne : ∀ (x : Nat) (cs : Array Value) (t : TypeId), w.heap[x]? = some (.cells cs t (0, 0)) → t ≠ BoolT → ((w.setCell ⟨gs[a], b, none⟩ (.bool c)).setCell ⟨gs[b], a, none⟩ (.bool c)).heap[x]? = w.heap[x]? := fun x cs t hx ht => by
    have n1 : x ≠ gs[a] := fun e => by rw [e, h.cut a hal] at hx; cases hx; exact ht rfl
    have n2 : x ≠ gs[b] := fun e => by rw [e, h.cut b hbl] at hx; cases hx; exact ht rfl
    exact (Below.heap_setCell _ _ _ x n2).trans (Below.heap_setCell _ _ _ x n1)
  refine ⟨by rw [hne _ _ _ h.block (by decide), h.block, hn, hs], by rw [hl]; exact h.row.stay fun g hg => let ⟨_, hx⟩ := row_block h.row hg; hne _ _ _ hx (by decide), by rw [hn]; exact h.crow.stay fun g hg => let ⟨_, hx⟩ := row_block h.crow hg; hne _ _ _ hx (by decide), by rw [hn]; exact h.glen, h.gnod, fun i hi => ?_, h.ownD, h.ownR, h.ownC, h.ownG⟩
  rw [← cutRow_set hn hc i]
  have hinj : ∀ {p q : Nat} (hp : p < gs.length) (hq : q < gs.length), gs[p] = gs[q] → p = q := fun hp hq e => (List.getElem_inj (h₀ := hp) (h₁ := hq) h.gnod).1 e
  have h1 : (w.setCell ⟨gs[a], b, none⟩ (.bool c)).heap[gs[i]]? = some (.cells (if i = a then (cutRow S i).setIfInBounds b (.bool c) else cutRow S i) BoolT (0, 0)) := by
    by_cases e : i = a
    · subst e; rw [if_pos rfl]; exact block_setCell (h.cut i hi) _
    · rw [if_neg e, Below.heap_setCell _ _ _ _ (fun e' => e (hinj hi hal e'))]; exact h.cut i hi
  by_cases e : i = b
  · subst e; rw [if_pos rfl]; exact block_setCell h1 _
  · rw [if_neg e, Below.heap_setCell _ _ _ _ (fun e' => e (hinj hi hbl e'))]; exact h1

theorem rset_bad {own : Nat → Prop} {br : Nat} {S : Nst} {v u : Value} {gs : List Nat} (w : World) (h : RNHeldL w own br S v u gs) (a b : Int) (c : Bool) (hb : hasN S.nodes a = false ∨ hasN S.nodes b = false) :
    Calls Try.prog 48 #[.pointer (some ⟨br, 0, none⟩), .int .i64 a, .int .i64 b, .bool c] w fun e w' => e = .returned (.int .i64 30) ∧ w = w' := by
  have hX := rnone_any w h
  clear h
  cases ha : hasN S.nodes a
  · clear hb
    go_enter Try.func48, Try.ntmps48
    go_wp2_with (first | (go_at_call 44; refine (hX _).mono ?_; rintro e w1 ⟨rfl, rfl⟩))
    go_ret
    exact ⟨rfl, rfl⟩
  · have hb' : hasN S.nodes b = false := hb.resolve_left (by rw [ha]; simp)
    clear hb
    go_enter Try.func48, Try.ntmps48
    go_wp2_with (first | (go_at_call 44; refine (hX _).mono ?_; rintro e w1 ⟨rfl, rfl⟩))
    go_ret
    exact ⟨rfl, rfl⟩

set_option maxHeartbeats 1600000 in
theorem rset_same {own : Nat → Prop} {br : Nat} {S : Nst} {v u : Value} {gs : List Nat} (w : World) (h : RNHeldL w own br S v u gs) (a : Nat) (ha : a < S.nodes) :
    Calls Try.prog 48 #[.pointer (some ⟨br, 0, none⟩), .int .i64 a, .int .i64 a, .bool true] w fun e w' => e = .returned (.int .i64 4) ∧ w = w' := by
  have hX := rnone_any w h
  have h1 : hasN S.nodes (a : Int) = true := by rw [hasN_iff]; omega
  have hq : ((a : Int) == (a : Int)) = true := by simp
  clear h
  go_enter Try.func48, Try.ntmps48
  go_wp2_with (first | (go_at_call 44; refine (hX _).mono ?_; rintro e w1 ⟨rfl, rfl⟩))
  go_ret
  exact ⟨rfl, rfl⟩

set_option maxHeartbeats 1600000 in
theorem rset_any {own : Nat → Prop} {br : Nat} {S S' : Nst} {v u : Value} {gs : List Nat} (w : World) (h : RNHeldL w own br S v u gs) (a b : Nat) (c : Bool) (ha : a < S.nodes) (hb : b < S.nodes) (hcab : c = false ∨ a ≠ b) (hn : S'.nodes = S.nodes) (hl : S'.ls = S.ls) (hs : S'.sent = S.sent)
    (hc : ∀ i j, S'.parted i j = if (i = a ∧ j = b) ∨ (i = b ∧ j = a) then c else S.parted i j) :
    Calls Try.prog 48 #[.pointer (some ⟨br, 0, none⟩), .int .i64 a, .int .i64 b, .bool c] w fun e w' => e = .returned (.int .i64 0) ∧ RNHeld w' own br S' ∧ Only own w w' := by
  have hX := rnone_any w h
  have h1 : hasN S.nodes (a : Int) = true := by rw [hasN_iff]; omega
  have h2 : hasN S.nodes (b : Int) = true := by rw [hasN_iff]; omega
  obtain ⟨g, cap, ga, hu, d1, d2, z2, hgl, hgal, hga⟩ := h.cutAt a b ha hb
  obtain ⟨g', cap', gb, hu', d3, d4, z4, _, hgbl, hgb⟩ := h.cutAt b a hb ha
  rw [hu] at hu'
  cases hu'
  have c3 := h.c3
  rw [hu] at c3
  have i1 : (0 : Int) ≤ (a : Int) := by omega
  have i2 : (a : Int) < (S.nodes : Int) := by omega
  have i3 : (0 : Int) ≤ (b : Int) := by omega
  have i4 : (b : Int) < (S.nodes : Int) := by omega
  have hcutA : w.heap[ga]? = some (.cells (cutRow S a) BoolT (0, 0)) := by
    obtain ⟨hal, rfl⟩ := List.getElem?_eq_some_iff.1 hga; exact h.cut a hal
  have hcutB : w.heap[gb]? = some (.cells (cutRow S b) BoolT (0, 0)) := by
    obtain ⟨hbl, rfl⟩ := List.getElem?_eq_some_iff.1 hgb; exact h.cut b hbl
  have n1 : br ≠ ga := fun e => by
    have hbk := h.block
    rw [e, hcutA] at hbk
    generalize cutRow S a = X at hbk
    cases hbk
  have n2 : g ≠ ga := fun e => by
    obtain ⟨cur, hcur⟩ := row_block h.crow (g := g) (by rw [hu]; rfl)
    rw [e, hcutA] at hcur; cases hcur
  have HF := hide (h.setCut hga hgb hn hl hs hc)
  have HO := hide (⟨h.ownG ga (List.mem_of_getElem? hga), h.ownG gb (List.mem_of_getElem? hgb)⟩ : own ga ∧ own gb)
  have hfin : Only own w ((w.setCell ⟨ga, b, none⟩ (.bool c)).setCell ⟨gb, a, none⟩ (.bool c)) := (Only.of_set w HO.out.1 _).trans (Only.of_set _ HO.out.2 _)
  generalize S.parted a b = r1 at *
  generalize S.parted b a = r2 at *
  by_cases hab : a = b
  · obtain rfl : c = false := hcab.resolve_right fun h => h hab
    subst hab
    have hgg : gb = ga := by rw [hga] at hgb; exact (Option.some.inj hgb).symm
    subst hgg
    have hq : ((a : Int) == (a : Int)) = true := by simp
    clear h hcutA hcutB hu hn hl hs hc hga hgb hcab
    go_enter Try.func48, Try.ntmps48
    go_wp2_with (first | (go_at_call 44; refine (hX _).mono ?_; rintro e w1 ⟨rfl, rfl⟩))
    go_ret
    exact ⟨rfl, ⟨_, _, _, HF.out⟩, hfin⟩
  · have hq : ((a : Int) == (b : Int)) = false := by rw [beq_eq_false_iff_ne]; omega
    have n3 : gb ≠ ga := fun e => by
      obtain ⟨hal, e1⟩ := List.getElem?_eq_some_iff.1 hga
      obtain ⟨hbl, e2⟩ := List.getElem?_eq_some_iff.1 hgb
      exact hab ((List.getElem_inj (h₀ := hal) (h₁ := hbl) h.gnod).1 (by rw [e1, e2, e]))
    clear h hcutA hcutB hu hn hl hs hc hga hgb hcab
    cases c
    all_goals
      go_enter Try.func48, Try.ntmps48
      go_wp2_with (first | (go_at_call 44; refine (hX _).mono ?_; rintro e w1 ⟨rfl, rfl⟩))
      go_ret
      exact ⟨rfl, ⟨_, _, _, HF.out⟩, hfin⟩

set_option maxHeartbeats 1600000 in
theorem rpart_any {own : Nat → Prop} {br : Nat} {S : Nst} (w : World) (h : RNHeld w own br S) (a b : Int) :
    Calls Try.prog 27 #[.pointer (some ⟨br, 0, none⟩), .int .i64 a, .int .i64 b] w fun e w' => e = .returned (.int .i64 (S.part a b).1) ∧ RNHeld w' own br (S.part a b).2 ∧ Only own w w' := by
  obtain ⟨v, u, gs, h⟩ := h
  have key : Calls Try.prog 48 #[.pointer (some ⟨br, 0, none⟩), .int .i64 a, .int .i64 b, .bool true] w fun e w' => e = .returned (.int .i64 (S.part a b).1) ∧ RNHeld w' own br (S.part a b).2 ∧ Only own w w' := by
    by_cases hb : hasN S.nodes a = false ∨ hasN S.nodes b = false
    · have hv : S.part a b = (30, S) := by rw [Nst.part, if_pos hb]
      rw [hv]
      refine (rset_bad w h a b true hb).mono ?_
      rintro e w' ⟨rfl, rfl⟩
      exact ⟨rfl, ⟨v, u, gs, h⟩, Only.refl _ _⟩
    · simp only [not_or, Bool.not_eq_false] at hb
      obtain ⟨an, rfl⟩ : ∃ an : Nat, a = an := ⟨a.toNat, (Int.toNat_of_nonneg (hasN_iff.1 hb.1).1).symm⟩
      obtain ⟨bn, rfl⟩ : ∃ bn : Nat, b = bn := ⟨b.toNat, (Int.toNat_of_nonneg (hasN_iff.1 hb.2).1).symm⟩
      have ha := hasN_iff.1 hb.1
      have hb' := hasN_iff.1 hb.2
      by_cases hab : an = bn
      · subst hab
        have hv : S.part (an : Int) (an : Int) = (4, S) := by rw [Nst.part, if_neg (by rw [hb.1]; simp), if_pos rfl]
        rw [hv]
        refine (rset_same w h an (by omega)).mono ?_
        rintro e w' ⟨rfl, rfl⟩
        exact ⟨rfl, ⟨v, u, gs, h⟩, Only.refl _ _⟩
      · obtain ⟨p1, p2, p3, p4, p5⟩ := part_parted S an bn hab (by omega) (by omega)
        rw [p1]
        exact rset_any w h an bn true (by omega) (by omega) (Or.inr hab) p2 p3 p4 p5
  clear h
  generalize S.part a b = R at *
  go_enter Try.func27, Try.ntmps27
  go_wp2_with (go_at_call 48; refine key.mono ?_; rintro e w1 ⟨rfl, hh1, ho1⟩)
  go_ret
  exact ⟨rfl, hh1, ho1⟩

set_option maxHeartbeats 1600000 in
theorem rjoin_any {own : Nat → Prop} {br : Nat} {S : Nst} (w : World) (h : RNHeld w own br S) (a b : Int) :
    Calls Try.prog 28 #[.pointer (some ⟨br, 0, none⟩), .int .i64 a, .int .i64 b] w fun e w' => e = .returned (.int .i64 (S.join a b).1) ∧ RNHeld w' own br (S.join a b).2 ∧ Only own w w' := by
  obtain ⟨v, u, gs, h⟩ := h
  have key : Calls Try.prog 48 #[.pointer (some ⟨br, 0, none⟩), .int .i64 a, .int .i64 b, .bool false] w fun e w' => e = .returned (.int .i64 (S.join a b).1) ∧ RNHeld w' own br (S.join a b).2 ∧ Only own w w' := by
    by_cases hb : hasN S.nodes a = false ∨ hasN S.nodes b = false
    · have hv : S.join a b = (30, S) := by rw [Nst.join, if_pos hb]
      rw [hv]
      refine (rset_bad w h a b false hb).mono ?_
      rintro e w' ⟨rfl, rfl⟩
      exact ⟨rfl, ⟨v, u, gs, h⟩, Only.refl _ _⟩
    · simp only [not_or, Bool.not_eq_false] at hb
      obtain ⟨an, rfl⟩ : ∃ an : Nat, a = an := ⟨a.toNat, (Int.toNat_of_nonneg (hasN_iff.1 hb.1).1).symm⟩
      obtain ⟨bn, rfl⟩ : ∃ bn : Nat, b = bn := ⟨b.toNat, (Int.toNat_of_nonneg (hasN_iff.1 hb.2).1).symm⟩
      have ha := hasN_iff.1 hb.1
      have hb' := hasN_iff.1 hb.2
      obtain ⟨p1, p2, p3, p4, p5⟩ := join_parted S an bn (by omega) (by omega)
      rw [p1]
      exact rset_any w h an bn false (by omega) (by omega) (Or.inl rfl) p2 p3 p4 p5
  clear h
  generalize S.join a b = R at *
  go_enter Try.func28, Try.ntmps28
  go_wp2_with (go_at_call 48; refine key.mono ?_; rintro e w1 ⟨rfl, hh1, ho1⟩)
  go_ret
  exact ⟨rfl, hh1, ho1⟩

end Go.Proofs.Ytmdpkkipjdpopaa.Nk
