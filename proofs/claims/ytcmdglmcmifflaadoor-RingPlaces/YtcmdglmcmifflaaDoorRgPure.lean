/- Points on a ring, as plain data: their order, and which one owns a hash. -/
import Derived.WalkKit
import Derived.Lib.ItoaNum
namespace Go.Proofs.YtcmdglmcmifflaaDoor.Rg
open Go.RowKit

/-! ### hashes -/
def foldB (x : Int) (c : UInt8) : Int := IntKind.wrap .u64 (bits .xor .u64 x c.toNat * 1099511628211)
def foldL (x : Int) (l : List UInt8) : Int := l.foldl foldB x
theorem foldL_append (x : Int) (a b : List UInt8) : foldL x (a ++ b) = foldL (foldL x a) b := List.foldl_append
theorem foldL_snoc (x : Int) (a : List UInt8) (c : UInt8) : foldL x (a ++ [c]) = foldB (foldL x a) c := by rw [foldL_append]; rfl
def mixV (x : Int) : Int := bits .xor .u64 (IntKind.wrap .u64 (bits .xor .u64 x (x / 8589934592) * 18397679294719823053)) (IntKind.wrap .u64 (bits .xor .u64 x (x / 8589934592) * 18397679294719823053) / 8589934592)
def basis : Int := 14695981039346656037
def hashL (l : List UInt8) : Int := mixV (foldL basis l)
theorem u64_range (x : Int) : 0 ≤ IntKind.wrap .u64 x ∧ IntKind.wrap .u64 x < 18446744073709551616 := by rw [IntKind.wrap_u64]; omega
theorem mixV_range (x : Int) : 0 ≤ mixV x ∧ mixV x < 18446744073709551616 := by
  unfold mixV
  generalize IntKind.wrap .u64 (bits .xor .u64 x (x / 8589934592) * 18397679294719823053) = y
  exact u64_range _
theorem hashL_range (l : List UInt8) : 0 ≤ hashL l ∧ hashL l < 18446744073709551616 := mixV_range _
theorem foldL_range {x : Int} (h : 0 ≤ x ∧ x < 18446744073709551616) (l : List UInt8) : 0 ≤ foldL x l ∧ foldL x l < 18446744073709551616 := by
  induction l generalizing x with
  | nil => exact h
  | cons c r ih => exact ih (x := foldB x c) (u64_range _)

/-! ### points -/
/-- a point: its chain, its number there -/
abbrev Pt := Nat × Nat
def ptText (c : Nat) : List UInt8 := Lib.decDigits c ++ [46]
def hp (p : Pt) : Int := hashL (ptText p.1 ++ Lib.decDigits p.2)
theorem hp_range (p : Pt) : 0 ≤ hp p ∧ hp p < 18446744073709551616 := hashL_range _
theorem hp_eq (c i : Nat) : mixV (foldL (foldL basis (ptText c)) (Lib.decDigits i)) = hp (c, i) := by rw [hp, hashL, foldL_append]

def ptsC (c n : Nat) : List Pt := (List.range n).map fun i => (c, i)
theorem ptsC_succ (c n : Nat) : ptsC c (n + 1) = ptsC c n ++ [(c, n)] := by simp [ptsC, List.range_succ]
theorem mem_ptsC {c n : Nat} {p : Pt} : p ∈ ptsC c n ↔ p.1 = c ∧ p.2 < n := by
  obtain ⟨a, b⟩ := p
  simp only [ptsC, List.mem_map, List.mem_range, Prod.mk.injEq]
  constructor
  · rintro ⟨i, h, rfl, rfl⟩; exact ⟨rfl, h⟩
  · rintro ⟨rfl, h⟩; exact ⟨b, h, rfl, rfl⟩
/-- the points of the first n chains -/
def ptsN (ws : List Int) : Nat → List Pt
  | 0 => []
  | n + 1 => ptsN ws n ++ ptsC n (ws.getD n 0).toNat
def pts (ws : List Int) : List Pt := ptsN ws ws.length
theorem mem_ptsN {ws : List Int} {n : Nat} {p : Pt} : p ∈ ptsN ws n ↔ p.1 < n ∧ p.2 < (ws.getD p.1 0).toNat := by
  induction n with
  | zero => simp [ptsN]
  | succ n ih =>
    rw [ptsN, List.mem_append, ih, mem_ptsC]
    constructor
    · rintro (⟨h1, h2⟩ | ⟨h1, h2⟩)
      · exact ⟨by omega, h2⟩
      · subst h1; exact ⟨by omega, h2⟩
    · rintro ⟨h1, h2⟩
      by_cases h : p.1 < n
      · exact Or.inl ⟨h, h2⟩
      · have : p.1 = n := by omega
        subst this; exact Or.inr ⟨rfl, h2⟩
theorem mem_pts {ws : List Int} {p : Pt} : p ∈ pts ws ↔ p.1 < ws.length ∧ p.2 < (ws.getD p.1 0).toNat := mem_ptsN

/-- by chains, then by numbers -/
def lex (p q : Pt) : Prop := p.1 < q.1 ∨ p.1 = q.1 ∧ p.2 < q.2
theorem lex_ptsC (c n : Nat) : (ptsC c n).Pairwise lex := by
  rw [ptsC, List.pairwise_map]
  exact List.pairwise_lt_range.imp fun h => Or.inr ⟨rfl, h⟩
theorem lex_ptsN (ws : List Int) (n : Nat) : (ptsN ws n).Pairwise lex := by
  induction n with
  | zero => exact List.Pairwise.nil
  | succ n ih =>
    rw [ptsN, List.pairwise_append]
    refine ⟨ih, lex_ptsC _ _, fun p hp q hq => ?_⟩
    have h1 := (mem_ptsN.1 hp).1
    have h2 := (mem_ptsC.1 hq).1
    exact Or.inl (by omega)
theorem lex_pts (ws : List Int) : (pts ws).Pairwise lex := lex_ptsN _ _

/-- the order of points -/
def plt (p q : Pt) : Prop := hp p < hp q ∨ hp p = hp q ∧ lex p q
theorem lex.irr {p : Pt} (h : lex p p) : False := by unfold lex at h; omega
theorem lex.tr {p q r : Pt} (h : lex p q) (k : lex q r) : lex p r := by unfold lex at *; omega
theorem lex.total {p q : Pt} (h : p ≠ q) : lex p q ∨ lex q p := by
  obtain ⟨a, b⟩ := p; obtain ⟨c, d⟩ := q
  unfold lex; simp only [ne_eq, Prod.mk.injEq] at h; dsimp only; omega
theorem plt.irr {p : Pt} (h : plt p p) : False := by
  rcases h with h | ⟨_, h⟩
  · omega
  · exact h.irr
theorem plt.tr {p q r : Pt} (h : plt p q) (k : plt q r) : plt p r := by
  rcases h with h | ⟨h, h'⟩ <;> rcases k with k | ⟨k, k'⟩
  · exact Or.inl (by omega)
  · exact Or.inl (by omega)
  · exact Or.inl (by omega)
  · exact Or.inr ⟨by omega, h'.tr k'⟩

/-- a list is that of the points in order -/
structure Srt (ws : List Int) (l : List Pt) : Prop where
  perm : l.Perm (pts ws)
  sorted : l.Pairwise plt
theorem Srt.unique {ws : List Int} {l m : List Pt} (h : Srt ws l) (k : Srt ws m) : l = m := by
  refine List.Perm.eq_of_pairwise (le := plt) ?_ h.sorted k.sorted (h.perm.trans k.perm.symm)
  intro a b _ _ h1 h2
  exact (plt.irr (h1.tr h2)).elim

/-! ### who owns a hash -/
/-- how far up a point lies from a hash -/
def way (h : Int) (p : Pt) : Int := (hp p - h) % 18446744073709551616
theorem way_hi {h : Int} {p : Pt} (h0 : 0 ≤ h ∧ h < 18446744073709551616) (hle : h ≤ hp p) : way h p = hp p - h := by
  have := hp_range p; unfold way; omega
theorem way_lo {h : Int} {p : Pt} (h0 : 0 ≤ h ∧ h < 18446744073709551616) (hle : hp p < h) : way h p = hp p - h + 18446744073709551616 := by
  have := hp_range p; unfold way; omega
/-- nearer -/
def nr (h : Int) (p q : Pt) : Prop := way h p < way h q ∨ way h p = way h q ∧ lex p q
theorem nr.irr {h : Int} {p : Pt} (k : nr h p p) : False := by
  rcases k with k | ⟨_, k⟩
  · omega
  · exact k.irr
theorem nr.tr {h : Int} {p q r : Pt} (k : nr h p q) (m : nr h q r) : nr h p r := by
  rcases k with h1 | ⟨h1, h2⟩ <;> rcases m with k1 | ⟨k1, k2⟩
  · exact Or.inl (by omega)
  · exact Or.inl (by omega)
  · exact Or.inl (by omega)
  · exact Or.inr ⟨by omega, h2.tr k2⟩
theorem nr.asym {h : Int} {p q : Pt} (k : nr h p q) (m : nr h q p) : False := (k.tr m).irr
/-- the nearest of a list -/
def Near (h : Int) (l : List Pt) (p : Pt) : Prop := p ∈ l ∧ ∀ q ∈ l, q = p ∨ nr h p q
theorem Near.unique {h : Int} {l : List Pt} {p q : Pt} (a : Near h l p) (b : Near h l q) : p = q := by
  rcases a.2 q b.1 with e | k
  · exact e.symm
  · rcases b.2 p a.1 with e | m
    · exact e
    · exact (k.asym m).elim
theorem Near.perm {h : Int} {l m : List Pt} {p : Pt} (a : Near h l p) (e : l.Perm m) : Near h m p := ⟨e.mem_iff.1 a.1, fun q hq => a.2 q (e.mem_iff.2 hq)⟩
theorem Near.exists {h : Int} : ∀ {l : List Pt}, l ≠ [] → ∃ p, Near h l p
  | [], e => (e rfl).elim
  | [p], _ => ⟨p, List.mem_singleton.2 rfl, fun q hq => Or.inl (List.mem_singleton.1 hq)⟩
  | p :: q :: r, _ => by
    obtain ⟨x, hx, hm⟩ := Near.exists (h := h) (l := q :: r) (by simp)
    by_cases e : p = x
    · subst e
      exact ⟨p, List.mem_cons_self, fun y hy => (List.mem_cons.1 hy).elim Or.inl (hm y)⟩
    · have : nr h p x ∨ nr h x p := by
        rcases lex.total e with k | k
        · by_cases h1 : way h p ≤ way h x
          · rcases Int.lt_or_eq_of_le h1 with h2 | h2
            · exact Or.inl (Or.inl h2)
            · exact Or.inl (Or.inr ⟨h2, k⟩)
          · exact Or.inr (Or.inl (by omega))
        · by_cases h1 : way h x ≤ way h p
          · rcases Int.lt_or_eq_of_le h1 with h2 | h2
            · exact Or.inr (Or.inl h2)
            · exact Or.inr (Or.inr ⟨h2, k⟩)
          · exact Or.inl (Or.inl (by omega))
      rcases this with k | k
      · refine ⟨p, List.mem_cons_self, fun y hy => ?_⟩
        rcases List.mem_cons.1 hy with e1 | e1
        · exact Or.inl e1
        · rcases hm y e1 with e2 | e2
          · exact Or.inr (e2 ▸ k)
          · exact Or.inr (k.tr e2)
      · refine ⟨x, List.mem_cons_of_mem _ hx, fun y hy => ?_⟩
        rcases List.mem_cons.1 hy with e1 | e1
        · exact Or.inr (e1 ▸ k)
        · exact hm y e1
/-- a list, and one point more behind it -/
theorem Near.snoc_keep {h : Int} {l : List Pt} {p x : Pt} (a : Near h l p) (hx : ∀ q ∈ l, lex q x) (hw : way h p ≤ way h x) : Near h (l ++ [x]) p := by
  refine ⟨List.mem_append_left _ a.1, fun q hq => ?_⟩
  rcases List.mem_append.1 hq with h1 | h1
  · exact a.2 q h1
  · rw [List.mem_singleton.1 h1]
    rcases Int.lt_or_eq_of_le hw with h2 | h2
    · exact Or.inr (Or.inl h2)
    · exact Or.inr (Or.inr ⟨h2, hx p a.1⟩)
theorem Near.snoc_new {h : Int} {l : List Pt} {p x : Pt} (a : Near h l p) (hw : way h x < way h p) : Near h (l ++ [x]) x := by
  refine ⟨List.mem_append_right _ (List.mem_singleton.2 rfl), fun q hq => ?_⟩
  rcases List.mem_append.1 hq with h1 | h1
  · rcases a.2 q h1 with e | k
    · rw [e]; exact Or.inr (Or.inl hw)
    · exact Or.inr (nr.tr (Or.inl hw) k)
  · exact Or.inl (List.mem_singleton.1 h1)
theorem Near.one (h : Int) (x : Pt) : Near h [x] x := ⟨List.mem_singleton.2 rfl, fun _ hq => Or.inl (List.mem_singleton.1 hq)⟩

/-- of points in order: the first that is not below the hash; else the first of all -/
theorem Near.of_sorted {h : Int} (h0 : 0 ≤ h ∧ h < 18446744073709551616) {l : List Pt} (hs : l.Pairwise plt) {k : Nat} (hk : k < l.length) (hlo : ∀ j (hj : j < l.length), j < k → hp l[j] < h) (hhi : h ≤ hp l[k]) : Near h l l[k] := by
  refine ⟨List.getElem_mem hk, fun q hq => ?_⟩
  obtain ⟨j, hj, rfl⟩ := List.getElem_of_mem hq
  rcases Nat.lt_trichotomy j k with e | e | e
  · refine Or.inr (Or.inl ?_)
    have h1 := hlo j hj e
    have r1 := hp_range l[j]
    have r2 := hp_range l[k]
    rw [way_hi h0 hhi, way_lo h0 h1]; omega
  · subst e; exact Or.inl rfl
  · have hp' := List.pairwise_iff_getElem.1 hs k j hk hj e
    rcases hp' with h1 | ⟨h1, h2⟩
    · refine Or.inr (Or.inl ?_)
      rw [way_hi h0 hhi, way_hi h0 (by omega)]; omega
    · refine Or.inr (Or.inr ⟨?_, h2⟩)
      rw [way_hi h0 hhi, way_hi h0 (by omega)]; omega
theorem Near.of_sorted_top {h : Int} (h0 : 0 ≤ h ∧ h < 18446744073709551616) {l : List Pt} (hs : l.Pairwise plt) (hk : 0 < l.length) (hlo : ∀ j (hj : j < l.length), hp l[j] < h) : Near h l l[0] := by
  refine ⟨List.getElem_mem hk, fun q hq => ?_⟩
  obtain ⟨j, hj, rfl⟩ := List.getElem_of_mem hq
  rcases Nat.eq_zero_or_pos j with e | e
  · subst e; exact Or.inl rfl
  · have hp' := List.pairwise_iff_getElem.1 hs 0 j hk hj e
    have l0 := hlo 0 hk
    have lj := hlo j hj
    rcases hp' with h1 | ⟨h1, h2⟩
    · refine Or.inr (Or.inl ?_)
      rw [way_lo h0 l0, way_lo h0 lj]; omega
    · refine Or.inr (Or.inr ⟨?_, h2⟩)
      rw [way_lo h0 l0, way_lo h0 lj]; omega

/-! ### weights that may be -/
structure May (ws : List Int) : Prop where
  n1 : 1 ≤ ws.length
  n2 : ws.length ≤ 8
  each : ∀ x ∈ ws, 0 ≤ x ∧ x ≤ 128
  some : ∃ x ∈ ws, 0 < x
theorem May.pts_ne {ws : List Int} (h : May ws) : pts ws ≠ [] := by
  obtain ⟨x, hx, h1⟩ := h.some
  obtain ⟨c, hc, rfl⟩ := List.getElem_of_mem hx
  intro e
  have : ((c, 0) : Pt) ∈ pts ws := mem_pts.2 ⟨hc, by simp [List.getD_eq_getElem?_getD, hc]; omega⟩
  rw [e] at this; cases this
/-- the chain of a hash -/
def Owns (ws : List Int) (h : Int) (c : Nat) : Prop := ∃ p, Near h (pts ws) p ∧ p.1 = c
theorem Owns.unique {ws : List Int} {h : Int} {c d : Nat} (a : Owns ws h c) (b : Owns ws h d) : c = d := by
  obtain ⟨p, hp, rfl⟩ := a; obtain ⟨q, hq, rfl⟩ := b; rw [hp.unique hq]
theorem Owns.weighs {ws : List Int} {h : Int} {c : Nat} (a : Owns ws h c) : c < ws.length ∧ 1 ≤ ws.getD c 0 := by
  obtain ⟨p, hp, rfl⟩ := a
  have := mem_pts.1 hp.1
  exact ⟨this.1, by have := this.2; omega⟩
theorem length_pts_le {ws : List Int} (h : May ws) : (pts ws).length ≤ 1024 := by
  have key : ∀ n, n ≤ ws.length → (ptsN ws n).length ≤ n * 128 := by
    intro n
    induction n with
    | zero => intro _; simp [ptsN]
    | succ n ih =>
      intro hn
      have h1 := ih (by omega)
      have hlt : n < ws.length := by omega
      have h2 := h.each ws[n] (List.getElem_mem hlt)
      have h3 : ws.getD n 0 = ws[n] := by simp [List.getD_eq_getElem?_getD, hlt]
      rw [ptsN, List.length_append, ptsC, List.length_map, List.length_range, h3]
      omega
  have := key ws.length (Nat.le_refl _)
  have := h.n2
  unfold pts; omega

theorem plt_le {l : List Pt} (hs : l.Pairwise plt) {i j : Nat} (hij : i ≤ j) (hj : j < l.length) : hp l[i] ≤ hp l[j] := by
  rcases Nat.lt_or_eq_of_le hij with h | h
  · rcases List.pairwise_iff_getElem.1 hs i j (by omega) hj h with h1 | ⟨h1, _⟩ <;> omega
  · subst h; exact Int.le_refl _
theorem dec_len (k : Nat) (h : k < 1000) : (Lib.decDigits k).length ≤ 3 := by
  rw [Lib.decDigits]
  split
  · simp
  · rw [Lib.decDigits]
    split
    · simp
    · rw [Lib.decDigits, dif_pos (by omega)]; simp
theorem ptsN_pre (ws : List Int) {k n : Nat} (h : k ≤ n) : ptsN ws k <+: ptsN ws n := by
  induction n with
  | zero => have : k = 0 := by omega
            subst this; exact List.prefix_refl _
  | succ n ih =>
    by_cases e : k = n + 1
    · subst e; exact List.prefix_refl _
    · exact (ih (by omega)).trans (List.prefix_append _ _)

/-- the first place that is not below a hash -/
def fstHi (h : Int) : List Pt → Nat
  | [] => 0
  | p :: r => if hp p < h then fstHi h r + 1 else 0
theorem fstHi_le (h : Int) (l : List Pt) : fstHi h l ≤ l.length := by
  induction l with
  | nil => simp [fstHi]
  | cons p r ih => simp only [fstHi]; split <;> simp; omega
theorem fstHi_lo (h : Int) (l : List Pt) (j : Nat) (hj : j < l.length) (hlt : j < fstHi h l) : hp l[j] < h := by
  induction l generalizing j with
  | nil => simp at hj
  | cons p r ih =>
    simp only [fstHi] at hlt
    split at hlt
    · cases j with
      | zero => assumption
      | succ j => simp only [List.getElem_cons_succ]; exact ih j (by simpa using hj) (by omega)
    · omega
theorem fstHi_hi (h : Int) (l : List Pt) (hk : fstHi h l < l.length) : h ≤ hp l[fstHi h l] := by
  induction l with
  | nil => simp at hk
  | cons p r ih =>
    by_cases e : hp p < h
    · have e1 : fstHi h (p :: r) = fstHi h r + 1 := by simp [fstHi, e]
      have hk' : fstHi h r < r.length := by rw [e1] at hk; simpa using hk
      have := ih hk'
      simpa [e1] using this
    · have e1 : fstHi h (p :: r) = 0 := by simp [fstHi, e]
      simp only [e1, List.getElem_cons_zero]
      omega
/-- of a sorted list: all from there on are not below -/
theorem fstHi_unique {h : Int} {l : List Pt} {k : Nat} (hk : k ≤ l.length) (hlo : ∀ j (hj : j < l.length), j < k → hp l[j] < h) (hhi : ∀ j (hj : j < l.length), k ≤ j → h ≤ hp l[j]) : fstHi h l = k := by
  have h1 := fstHi_le h l
  rcases Nat.lt_trichotomy (fstHi h l) k with e | e | e
  · have := fstHi_hi h l (by omega)
    have := hlo (fstHi h l) (by omega) e
    omega
  · exact e
  · have := fstHi_lo h l k (by omega) e
    have := hhi k (by omega) (Nat.le_refl _)
    omega
/-- the point that owns a hash -/
theorem owns_sorted {ws : List Int} {l : List Pt} (hS : Srt ws l) {h : Int} (h0 : 0 ≤ h ∧ h < 18446744073709551616) (hne : 0 < l.length) (hlt : fstHi h l % l.length < l.length) : Owns ws h (l[fstHi h l % l.length]).1 := by
  refine ⟨l[fstHi h l % l.length], ?_, rfl⟩
  refine Near.perm ?_ hS.perm
  have h1 := fstHi_le h l
  by_cases e : fstHi h l < l.length
  · have e1 : fstHi h l % l.length = fstHi h l := Nat.mod_eq_of_lt e
    simp only [e1]
    exact Near.of_sorted h0 hS.sorted e (fun j hj hjk => fstHi_lo h l j hj hjk) (fstHi_hi h l e)
  · have e2 : fstHi h l = l.length := by omega
    have e1 : fstHi h l % l.length = 0 := by rw [e2, Nat.mod_self]
    simp only [e1]
    exact Near.of_sorted_top h0 hS.sorted hne (fun j hj => fstHi_lo h l j hj (by omega))

end Go.Proofs.YtcmdglmcmifflaaDoor.Rg
