/- The plain mathematics of layer 5: texts by bytes, spans, normal lists, ends that are swept over. -/
import Derived.Test.YthdempdiibjabaaGCore
namespace Go.Proofs.Ythdempdiibjabaa.Sp

/-- one text is below another one -/
def B4 (a b : ByteArray) : Bool := bytesBefore a.data.toList b.data.toList
abbrev nix : ByteArray := ⟨#[]⟩
theorem ba_ext {a b : ByteArray} (h : a.data.toList = b.data.toList) : a = b := by
  obtain ⟨⟨x⟩⟩ := a
  obtain ⟨⟨y⟩⟩ := b
  simp at h
  rw [h]
theorem B4.irr (a : ByteArray) : B4 a a = false := WideAt.bytes_irrefl _
theorem B4.tr {a b c : ByteArray} (h : B4 a b = true) (k : B4 b c = true) : B4 a c = true := WideShapes.bytes_trans _ _ _ h k
theorem B4.tot {a b : ByteArray} (h : a ≠ b) : B4 a b = true ∨ B4 b a = true := WideAt.bytes_total _ _ fun e => h (ba_ext e)
theorem B4.asym {a b : ByteArray} (h : B4 a b = true) : B4 b a = false := by
  by_cases k : B4 b a = true
  · have := B4.tr h k; rw [B4.irr] at this; cases this
  · simpa using k
theorem B4.ne {a b : ByteArray} (h : B4 a b = true) : a ≠ b := by rintro rfl; rw [B4.irr] at h; cases h
theorem B4.none (a : ByteArray) : B4 a nix = false := by
  show bytesBefore a.data.toList [] = false
  cases a.data.toList <;> rfl
theorem B4.some {a b : ByteArray} (h : B4 a b = true) : b ≠ nix := by rintro rfl; rw [B4.none] at h; cases h
/-- a ≤ b, b < c -/
theorem B4.le_lt {a b c : ByteArray} (h : B4 b a = false) (k : B4 b c = true) : B4 a c = true := by
  by_cases e : a = b
  · rw [e]; exact k
  · rcases B4.tot e with h1 | h1
    · exact B4.tr h1 k
    · rw [h] at h1; cases h1
/-- a < b, b ≤ c -/
theorem B4.lt_le {a b c : ByteArray} (h : B4 a b = true) (k : B4 c b = false) : B4 a c = true := by
  by_cases e : b = c
  · rw [← e]; exact h
  · rcases B4.tot e with h1 | h1
    · exact B4.tr h h1
    · rw [k] at h1; cases h1
theorem B4.le_tr {a b c : ByteArray} (h : B4 b a = false) (k : B4 c b = false) : B4 c a = false := by
  by_cases e : B4 c a = true
  · have := B4.lt_le e h; rw [k] at this; cases this
  · simpa using e
theorem B4.eq {a b : ByteArray} (h : B4 a b = false) (k : B4 b a = false) : a = b := by
  by_cases e : a = b
  · exact e
  · rcases B4.tot e with h1 | h1
    · rw [h] at h1; cases h1
    · rw [k] at h1; cases h1

structure Sp where
  fr : ByteArray
  to : ByteArray
deriving DecidableEq, Inhabited
def Sp.has (s : Sp) (t : ByteArray) : Bool := !B4 t s.fr && (decide (s.to = nix) || B4 t s.to)
def hasL (l : List Sp) (t : ByteArray) : Bool := l.any fun s => s.has t
structure Sp.May (s : Sp) : Prop where
  f64 : s.fr.size ≤ 64
  t64 : s.to.size ≤ 64
  up : s.to = nix ∨ B4 s.fr s.to = true
def MayL (l : List Sp) : Prop := ∀ s ∈ l, s.May
structure Norm (l : List Sp) : Prop where
  each : ∀ s ∈ l, s.to = nix ∨ B4 s.fr s.to = true
  pair : l.Pairwise fun s s' => s.to ≠ nix ∧ B4 s.to s'.fr = true
theorem Norm.nil : Norm [] := ⟨by simp, by simp⟩
theorem Norm.cons {s : Sp} {r : List Sp} (h : Norm (s :: r)) : Norm r := ⟨fun x hx => h.each x (List.mem_cons_of_mem _ hx), (List.pairwise_cons.1 h.pair).2⟩

theorem hasL_cons (s : Sp) (r : List Sp) (t : ByteArray) : hasL (s :: r) t = (s.has t || hasL r t) := rfl
theorem hasL_append (a b : List Sp) (t : ByteArray) : hasL (a ++ b) t = (hasL a t || hasL b t) := by simp [hasL]
theorem hasL_false {l : List Sp} {t : ByteArray} (h : ∀ s ∈ l, s.has t = false) : hasL l t = false := by
  simp only [hasL, List.any_eq_false]
  intro s hs; rw [h s hs]; simp
theorem hasL_true {l : List Sp} {t : ByteArray} : hasL l t = true ↔ ∃ s ∈ l, s.has t = true := by simp [hasL]
theorem Sp.has_fr {s : Sp} (h : s.to = nix ∨ B4 s.fr s.to = true) : s.has s.fr = true := by
  simp only [Sp.has, B4.irr]
  rcases h with h | h <;> simp [h]
theorem Sp.has_low {s : Sp} {t : ByteArray} (h : s.has t = true) : B4 t s.fr = false := by
  simp only [Sp.has, Bool.and_eq_true, Bool.not_eq_true'] at h; exact h.1
theorem Sp.has_above {s : Sp} {t : ByteArray} (h : B4 t s.to = false) (hn : s.to ≠ nix) : s.has t = false := by simp [Sp.has, h, hn]
theorem Sp.has_below {s : Sp} {t : ByteArray} (h : B4 t s.fr = true) : s.has t = false := by simp [Sp.has, h]

/-- in a normal list no later one has a text that is not above the first one's end -/
theorem Norm.later {s : Sp} {r : List Sp} (h : Norm (s :: r)) {t : ByteArray} (ht : B4 s.to t = false) : hasL r t = false := by
  refine hasL_false fun x hx => Sp.has_below ?_
  exact B4.le_lt ht ((List.pairwise_cons.1 h.pair).1 x hx).2
theorem Norm.least {s : Sp} {r : List Sp} (h : Norm (s :: r)) {t : ByteArray} (ht : hasL (s :: r) t = true) : B4 t s.fr = false := by
  obtain ⟨x, hx, hh⟩ := hasL_true.1 ht
  rcases List.mem_cons.1 hx with rfl | hx
  · exact Sp.has_low hh
  · obtain ⟨p1, p2⟩ := (List.pairwise_cons.1 h.pair).1 x hx
    have hs := (h.each s (List.mem_cons_self ..)).resolve_left p1
    exact B4.asym (B4.lt_le (B4.tr hs p2) (Sp.has_low hh))
theorem Norm.to_not {s : Sp} {r : List Sp} (h : Norm (s :: r)) (hn : s.to ≠ nix) : hasL (s :: r) s.to = false := by
  rw [hasL_cons, h.later (B4.irr _), Sp.has_above (B4.irr _) hn]; rfl
theorem Norm.open_nil {s : Sp} {r : List Sp} (h : Norm (s :: r)) (hn : s.to = nix) : r = [] := by
  cases r with
  | nil => rfl
  | cons x q => exact absurd hn ((List.pairwise_cons.1 h.pair).1 x (List.mem_cons_self ..)).1
theorem to_le {s s' : Sp} {r r' : List Sp} (h : Norm (s :: r)) (hf : s.fr = s'.fr) (he : ∀ t, hasL (s :: r) t = hasL (s' :: r') t) (hn : s.to ≠ nix) : s'.to ≠ nix ∧ B4 s.to s'.to = false := by
  have h1 := h.to_not hn
  rw [he, hasL_cons] at h1
  simp only [Bool.or_eq_false_iff] at h1
  have hs := (h.each s (List.mem_cons_self ..)).resolve_left hn
  have h2 := h1.1
  simp only [Sp.has, ← hf, B4.asym hs] at h2
  simpa using h2
/-- lists that have the same texts are the same when normal -/
theorem Norm.unique : ∀ {l l' : List Sp}, Norm l → Norm l' → (∀ t, hasL l t = hasL l' t) → l = l'
  | [], [], _, _, _ => rfl
  | [], s :: r, _, h', he => by
    have := he s.fr
    rw [hasL_cons, Sp.has_fr (h'.each s (List.mem_cons_self ..))] at this
    simp [hasL] at this
  | s :: r, [], h, _, he => by
    have := he s.fr
    rw [hasL_cons, Sp.has_fr (h.each s (List.mem_cons_self ..))] at this
    simp [hasL] at this
  | s :: r, s' :: r', h, h', he => by
    have h1 : hasL (s' :: r') s.fr = true := by rw [← he, hasL_cons, Sp.has_fr (h.each s (List.mem_cons_self ..))]; rfl
    have h2 : hasL (s :: r) s'.fr = true := by rw [he, hasL_cons, Sp.has_fr (h'.each s' (List.mem_cons_self ..))]; rfl
    have hf : s.fr = s'.fr := B4.eq (h'.least h1) (h.least h2)
    have ht : s.to = s'.to := by
      by_cases e : s.to = nix
      · by_cases e' : s'.to = nix
        · rw [e, e']
        · exact absurd e (to_le h' hf.symm (fun t => (he t).symm) e').1
      · have a := to_le h hf he e
        have b := to_le h' hf.symm (fun t => (he t).symm) a.1
        exact B4.eq a.2 b.2
    have hs : s = s' := by cases s; cases s'; simp_all
    subst hs
    congr 1
    refine Norm.unique h.cons h'.cons fun t => ?_
    have := he t
    rw [hasL_cons, hasL_cons] at this
    by_cases hb : s.has t = true
    · by_cases e : s.to = nix
      · rw [h.open_nil e, h'.open_nil e]
      · have hlt : B4 t s.to = true := by simpa [Sp.has, e, Sp.has_low hb] using hb
        rw [h.later (B4.asym hlt), h'.later (B4.asym hlt)]
    · have hb' : s.has t = false := by simpa using hb
      simpa [hb'] using this

/-! ends -/
structure En where
  pl : ByteArray
  ls : Int
  st : Int
deriving Inhabited
def ends1 (j : Int) (s : Sp) : List En := if s.to = nix then [⟨s.fr, j, 1⟩] else [⟨s.fr, j, 1⟩, ⟨s.to, j, -1⟩]
def endsOf (j : Int) (l : List Sp) : List En := l.flatMap (ends1 j)
theorem endsOf_cons (j : Int) (s : Sp) (r : List Sp) : endsOf j (s :: r) = ends1 j s ++ endsOf j r := by simp [endsOf]
theorem endsOf_append (j : Int) (a b : List Sp) : endsOf j (a ++ b) = endsOf j a ++ endsOf j b := by simp [endsOf]
theorem ends1_len (j : Int) (s : Sp) : (ends1 j s).length ≤ 2 := by unfold ends1; split <;> simp
theorem endsOf_len (j : Int) (l : List Sp) : (endsOf j l).length ≤ 2 * l.length := by
  induction l with
  | nil => simp [endsOf]
  | cons s r ih => rw [endsOf_cons, List.length_append, List.length_cons]; have := ends1_len j s; omega
def dep (j : Int) : List En → Int
  | [] => 0
  | x :: r => (if x.ls = j then x.st else 0) + dep j r
theorem dep_append (j : Int) (a b : List En) : dep j (a ++ b) = dep j a + dep j b := by
  induction a with
  | nil => simp [dep]
  | cons x r ih => simp only [List.cons_append, dep, ih]; omega
theorem dep_perm (j : Int) {a b : List En} (h : a.Perm b) : dep j a = dep j b := by
  induction h with
  | nil => rfl
  | cons x _ ih => simp only [dep, ih]
  | swap x y l => simp only [dep]; omega
  | trans _ _ h1 h2 => exact h1.trans h2
/-- those that are not above a text -/
def upTo (t : ByteArray) (E : List En) : List En := E.filter fun x => !B4 t x.pl
theorem upTo_append (t : ByteArray) (a b : List En) : upTo t (a ++ b) = upTo t a ++ upTo t b := by simp [upTo]
theorem dep_upTo_ends1 (j : Int) {s : Sp} (h : s.to = nix ∨ B4 s.fr s.to = true) (t : ByteArray) : dep j (upTo t (ends1 j s)) = if s.has t then 1 else 0 := by
  unfold ends1 Sp.has upTo
  by_cases e : s.to = nix
  · rw [if_pos e]
    cases hb : B4 t s.fr <;> simp [hb, dep, e]
  · rw [if_neg e]
    have hs := h.resolve_left e
    cases hb : B4 t s.fr
    · cases hc : B4 t s.to <;> simp [hb, hc, dep, e]
    · have hc := B4.tr hb hs
      simp [hb, hc, dep]
theorem dep_upTo (j : Int) {l : List Sp} (h : MayL l) (t : ByteArray) : dep j (upTo t (endsOf j l)) = (l.countP fun s => s.has t : Nat) := by
  induction l with
  | nil => rfl
  | cons s r ih =>
    rw [endsOf_cons, upTo_append, dep_append, ih fun x hx => h x (List.mem_cons_of_mem _ hx), dep_upTo_ends1 j (h s (List.mem_cons_self ..)).up, List.countP_cons]
    split <;> simp <;> omega
theorem dep_other {i j : Int} (hij : i ≠ j) (l : List Sp) (t : ByteArray) : dep j (upTo t (endsOf i l)) = 0 := by
  have : ∀ E : List En, (∀ x ∈ E, x.ls = i) → dep j E = 0 := by
    intro E
    induction E with
    | nil => intro _; rfl
    | cons x r ih => intro h; simp only [dep, ih fun y hy => h y (List.mem_cons_of_mem _ hy), h x (List.mem_cons_self ..), if_neg hij]; rfl
  refine this _ fun x hx => ?_
  obtain ⟨s, _, hs⟩ := List.mem_flatMap.1 (List.mem_filter.1 hx).1
  unfold ends1 at hs
  split at hs <;> simp at hs
  · rw [hs]
  · rcases hs with rfl | rfl <;> rfl
/-- all ends of two lists -/
def allEnds (a b : List Sp) : List En := endsOf 0 a ++ endsOf 1 b
theorem dep_all0 {a b : List Sp} (ha : MayL a) (t : ByteArray) : decide (0 < dep 0 (upTo t (allEnds a b))) = hasL a t := by
  rw [allEnds, upTo_append, dep_append, dep_upTo 0 ha, dep_other (by decide), Bool.eq_iff_iff, hasL_true, decide_eq_true_eq]
  have := List.countP_pos_iff (p := fun s : Sp => s.has t) (l := a)
  rw [← this]; omega
theorem dep_all1 {a b : List Sp} (hb : MayL b) (t : ByteArray) : decide (0 < dep 1 (upTo t (allEnds a b))) = hasL b t := by
  rw [allEnds, upTo_append, dep_append, dep_upTo 1 hb, dep_other (by decide), Bool.eq_iff_iff, hasL_true, decide_eq_true_eq]
  have := List.countP_pos_iff (p := fun s : Sp => s.has t) (l := b)
  rw [← this]; omega
theorem allEnds_pl {a b : List Sp} (ha : MayL a) (hb : MayL b) : ∀ x ∈ allEnds a b, x.pl.size ≤ 64 ∧ (x.ls = 0 ∨ x.ls = 1) ∧ (x.st = 1 ∨ x.st = -1) := by
  have one : ∀ (j : Int) (l : List Sp), MayL l → ∀ x ∈ endsOf j l, x.pl.size ≤ 64 ∧ x.ls = j ∧ (x.st = 1 ∨ x.st = -1) := by
    intro j l hl x hx
    obtain ⟨s, hs, hx⟩ := List.mem_flatMap.1 hx
    have hm := hl s hs
    unfold ends1 at hx
    split at hx <;> simp at hx
    · subst hx; exact ⟨hm.f64, rfl, Or.inl rfl⟩
    · rcases hx with rfl | rfl
      · exact ⟨hm.f64, rfl, Or.inl rfl⟩
      · exact ⟨hm.t64, rfl, Or.inr rfl⟩
  intro x hx
  rcases List.mem_append.1 hx with h | h
  · obtain ⟨h1, h2, h3⟩ := one 0 a ha x h
    exact ⟨h1, Or.inl h2, h3⟩
  · obtain ⟨h1, h2, h3⟩ := one 1 b hb x h
    exact ⟨h1, Or.inr h2, h3⟩

/-! the sweep -/
structure Wr where
  out : List Sp
  kp : Bool
  fr : ByteArray
def Wr.turn (w : Wr) (k : Bool) (p : ByteArray) : Wr :=
  if k = w.kp then w else if k then { w with fr := p, kp := true } else { w with out := w.out ++ [⟨w.fr, p⟩], kp := false }
def Wr.fin (w : Wr) : List Sp := if w.kp then w.out ++ [⟨w.fr, nix⟩] else w.out
def sameNext (x : En) : List En → Bool
  | [] => false
  | y :: _ => decide (x.pl = y.pl)
def sweep (K : Bool → Bool → Bool) : List En → Int → Int → Wr → Wr
  | [], _, _, w => w
  | x :: r, d0, d1, w => sweep K r (d0 + if x.ls = 0 then x.st else 0) (d1 + if x.ls = 1 then x.st else 0)
      (if sameNext x r then w else w.turn (K (decide (0 < d0 + if x.ls = 0 then x.st else 0)) (decide (0 < d1 + if x.ls = 1 then x.st else 0))) x.pl)

def Sorted (E : List En) : Prop := E.Pairwise fun x y => B4 y.pl x.pl = false
structure Inv (K : Bool → Bool → Bool) (E : List En) (n : Nat) (r : List En) (w : Wr) : Prop where
  cov : ∀ t, (∀ y, r.head? = some y → B4 t y.pl = true) → (hasL w.out t || (w.kp && !B4 t w.fr)) = K (decide (0 < dep 0 (upTo t E))) (decide (0 < dep 1 (upTo t E)))
  each : ∀ s ∈ w.out, B4 s.fr s.to = true
  pair : w.out.Pairwise fun s s' => B4 s.to s'.fr = true
  low : ∀ y, r.head? = some y → (∀ s ∈ w.out, B4 s.to y.pl = true) ∧ (w.kp = true → B4 w.fr y.pl = true)
  chain : w.kp = true → ∀ s ∈ w.out, B4 s.to w.fr = true
  size : (∀ s ∈ w.out, s.fr.size ≤ 64 ∧ s.to.size ≤ 64) ∧ w.fr.size ≤ 64
  len : w.out.length + (if w.kp then 1 else 0) ≤ n

theorem Inv.step {K : Bool → Bool → Bool} {P r : List En} {x : En} {w : Wr} (hs : Sorted (P ++ x :: r)) (h64 : x.pl.size ≤ 64) (h : Inv K (P ++ x :: r) P.length (x :: r) w) :
    Inv K (P ++ x :: r) (P.length + 1) r (if sameNext x r then w else w.turn (K (decide (0 < dep 0 P + if x.ls = 0 then x.st else 0)) (decide (0 < dep 1 P + if x.ls = 1 then x.st else 0))) x.pl) := by
  obtain ⟨hlo, hkl⟩ := h.low x rfl
  by_cases hsn : sameNext x r = true
  · rw [if_pos hsn]
    cases r with
    | nil => simp [sameNext] at hsn
    | cons y q =>
      have he : x.pl = y.pl := by simpa [sameNext] using hsn
      refine ⟨fun t ht => h.cov t fun z hz => ?_, h.each, h.pair, fun z hz => ?_, h.chain, h.size, Nat.le_succ_of_le h.len⟩
      · simp at hz; subst hz; rw [he]; exact ht y rfl
      · simp at hz; subst hz; rw [← he]; exact ⟨hlo, hkl⟩
  · rw [if_neg hsn]
    obtain ⟨_, hsx, hsp⟩ := List.pairwise_append.1 hs
    obtain ⟨hxr, hsr⟩ := List.pairwise_cons.1 hsx
    have hnext : ∀ y, r.head? = some y → B4 x.pl y.pl = true := by
      intro y hy
      cases r with
      | nil => simp at hy
      | cons z q =>
        simp at hy; subst hy
        have hne : x.pl ≠ z.pl := by simpa [sameNext] using hsn
        rcases B4.tot hne with h1 | h1
        · exact h1
        · rw [hxr z (List.mem_cons_self ..)] at h1; cases h1
    have hdep : ∀ j t, B4 t x.pl = false → (∀ y, r.head? = some y → B4 t y.pl = true) → dep j (upTo t (P ++ x :: r)) = dep j P + if x.ls = j then x.st else 0 := by
      intro j t h1 h2
      have e1 : upTo t P = P := List.filter_eq_self.2 fun y hy => by rw [B4.le_tr (hsp y hy x (List.mem_cons_self ..)) h1]; rfl
      have e2 : upTo t r = [] := by
        refine List.filter_eq_nil_iff.2 fun y hy => ?_
        cases r with
        | nil => simp at hy
        | cons z q =>
          have hz := h2 z rfl
          rcases List.mem_cons.1 hy with rfl | hy
          · simp [hz]
          · rw [B4.lt_le hz ((List.pairwise_cons.1 hsr).1 y hy)]; simp
      have e3 : upTo t (x :: r) = x :: upTo t r := by simp [upTo, h1]
      rw [upTo_append, e1, e3, e2, dep_append]
      simp [dep]
    generalize hk : K (decide (0 < dep 0 P + if x.ls = 0 then x.st else 0)) (decide (0 < dep 1 P + if x.ls = 1 then x.st else 0)) = k
    have hK : ∀ t, B4 t x.pl = false → (∀ y, r.head? = some y → B4 t y.pl = true) → K (decide (0 < dep 0 (upTo t (P ++ x :: r)))) (decide (0 < dep 1 (upTo t (P ++ x :: r)))) = k := by
      intro t h1 h2
      rw [hdep 0 t h1 h2, hdep 1 t h1 h2, hk]
    have hold : ∀ t, B4 t x.pl = true → (hasL w.out t || (w.kp && !B4 t w.fr)) = K (decide (0 < dep 0 (upTo t (P ++ x :: r)))) (decide (0 < dep 1 (upTo t (P ++ x :: r)))) :=
      fun t ht => h.cov t fun z hz => by simp at hz; subst hz; exact ht
    have hno : ∀ t, B4 t x.pl = false → hasL w.out t = false := fun t ht => hasL_false fun s hs' => by
      have h1 := hlo s hs'
      exact Sp.has_above (B4.asym (B4.lt_le h1 ht)) (B4.some (h.each s hs'))
    have hlow' : ∀ y, r.head? = some y → ∀ s ∈ w.out, B4 s.to y.pl = true := fun y hy s hs' => B4.tr (hlo s hs') (hnext y hy)
    unfold Wr.turn
    by_cases e : k = w.kp
    · rw [if_pos e]
      refine ⟨fun t ht => ?_, h.each, h.pair, fun y hy => ⟨hlow' y hy, fun hk' => B4.tr (hkl hk') (hnext y hy)⟩, h.chain, h.size, Nat.le_succ_of_le h.len⟩
      by_cases hb : B4 t x.pl = true
      · exact hold t hb
      · have hb' : B4 t x.pl = false := by simpa using hb
        rw [hK t hb' ht, hno t hb', e]
        cases hw : w.kp with
        | false => rfl
        | true => rw [B4.asym (B4.lt_le (hkl hw) hb')]; rfl
    · rw [if_neg e]
      cases k with
      | true =>
        have hw : w.kp = false := by cases hw : w.kp <;> simp_all
        refine ⟨fun t ht => ?_, h.each, h.pair, fun y hy => ⟨hlow' y hy, fun _ => hnext y hy⟩, fun _ => hlo, ⟨h.size.1, h64⟩, ?_⟩
        · by_cases hb : B4 t x.pl = true
          · have := hold t hb
            rw [hw] at this
            simpa [hb] using this
          · have hb' : B4 t x.pl = false := by simpa using hb
            rw [hK t hb' ht]
            simp [hb']
        · have := h.len
          simp [hw] at this
          simpa using this
      | false =>
        have hw : w.kp = true := by cases hw : w.kp <;> simp_all
        have hfx := hkl hw
        refine ⟨fun t ht => ?_, fun s hs' => ?_, ?_, fun y hy => ⟨fun s hs' => ?_, fun h' => by simp at h'⟩, fun h' => by simp at h', ⟨fun s hs' => ?_, h.size.2⟩, ?_⟩
        · by_cases hb : B4 t x.pl = true
          · rw [← hold t hb, hw]
            simp [hasL, Sp.has, hb]
          · have hb' : B4 t x.pl = false := by simpa using hb
            rw [hK t hb' ht]
            have := hno t hb'
            simp only [Bool.false_eq_true, if_false, Bool.false_and, Bool.or_false, hasL_append, this, Bool.false_or]
            simp [hasL, Sp.has, hb', B4.some hfx]
        · simp at hs'
          rcases hs' with hs' | rfl
          · exact h.each s hs'
          · exact hfx
        · simp only [Bool.false_eq_true, if_false]
          refine List.pairwise_append.2 ⟨h.pair, by simp, fun s hs' s' hs'' => ?_⟩
          simp at hs''; subst hs''
          exact h.chain hw s hs'
        · simp at hs'
          rcases hs' with hs' | rfl
          · exact hlow' y hy s hs'
          · exact hnext y hy
        · simp at hs'
          rcases hs' with hs' | rfl
          · exact h.size.1 s hs'
          · exact ⟨h.size.2, h64⟩
        · have := h.len
          simp [hw] at this
          simp; omega

theorem Inv.all {K : Bool → Bool → Bool} : ∀ (r P : List En) (w : Wr), Sorted (P ++ r) → (∀ x ∈ r, x.pl.size ≤ 64) → Inv K (P ++ r) P.length r w → Inv K (P ++ r) (P ++ r).length [] (sweep K r (dep 0 P) (dep 1 P) w)
  | [], P, w, _, _, h => by simpa [sweep] using h
  | x :: r, P, w, hs, h64, h => by
    have h1 := h.step hs (h64 x (List.mem_cons_self ..))
    have e : P ++ x :: r = (P ++ [x]) ++ r := by simp
    rw [e] at h1 hs ⊢
    have := Inv.all r (P ++ [x]) _ hs (fun y hy => h64 y (List.mem_cons_of_mem _ hy)) (by simpa using h1)
    simp only [dep_append, dep, Int.add_zero] at this
    simpa only [sweep] using this

def Wr.zero : Wr := ⟨[], false, nix⟩
def swept (K : Bool → Bool → Bool) (E : List En) : List Sp := (sweep K E 0 0 Wr.zero).fin
structure Made (K : Bool → Bool → Bool) (E : List En) (l : List Sp) : Prop where
  norm : Norm l
  has : ∀ t, hasL l t = K (decide (0 < dep 0 (upTo t E))) (decide (0 < dep 1 (upTo t E)))
  size : ∀ s ∈ l, s.fr.size ≤ 64 ∧ s.to.size ≤ 64
  len : l.length ≤ E.length

theorem swept_made {K : Bool → Bool → Bool} (hK : K false false = false) {E : List En} (hs : Sorted E) (h64 : ∀ x ∈ E, x.pl.size ≤ 64) : Made K E (swept K E) := by
  have h0 : Inv K ([] ++ E) 0 E Wr.zero := by
    refine ⟨fun t ht => ?_, by simp [Wr.zero], by simp [Wr.zero], by simp [Wr.zero], by simp [Wr.zero], ⟨by simp [Wr.zero], by decide⟩, by simp [Wr.zero]⟩
    have : upTo t E = [] := by
      refine List.filter_eq_nil_iff.2 fun y hy => ?_
      cases E with
      | nil => simp at hy
      | cons z q =>
        have hz := ht z rfl
        rcases List.mem_cons.1 hy with rfl | hy
        · simp [hz]
        · rw [B4.lt_le hz ((List.pairwise_cons.1 hs).1 y hy)]; simp
    rw [List.nil_append, this]
    simpa [Wr.zero, hasL, dep] using hK.symm
  have h := Inv.all E [] Wr.zero hs h64 h0
  simp only [List.nil_append, dep] at h
  unfold swept
  generalize sweep K E 0 0 Wr.zero = w at *
  have hc := fun t => h.cov t (by simp)
  unfold Wr.fin
  cases hw : w.kp with
  | false =>
    simp only [Bool.false_eq_true, if_false]
    refine ⟨⟨fun s hs' => Or.inr (h.each s hs'), ?_⟩, fun t => ?_, h.size.1, ?_⟩
    · refine List.Pairwise.imp_of_mem ?_ h.pair
      intro a b ha _ hab
      exact ⟨B4.some (h.each a ha), hab⟩
    · rw [← hc t, hw]; simp
    · have := h.len; omega
  | true =>
    simp only [if_true]
    refine ⟨⟨fun s hs' => ?_, ?_⟩, fun t => ?_, fun s hs' => ?_, ?_⟩
    · rcases List.mem_append.1 hs' with hs' | hs'
      · exact Or.inr (h.each s hs')
      · simp at hs'; subst hs'; exact Or.inl rfl
    · refine List.pairwise_append.2 ⟨?_, by simp, fun s hs' s' hs'' => ?_⟩
      · refine List.Pairwise.imp_of_mem ?_ h.pair
        intro a b ha _ hab
        exact ⟨B4.some (h.each a ha), hab⟩
      · simp at hs''; subst hs''
        exact ⟨B4.some (h.each s hs'), h.chain hw s hs'⟩
    · rw [← hc t, hw, hasL_append]
      simp [hasL, Sp.has]
    · rcases List.mem_append.1 hs' with hs' | hs'
      · exact h.size.1 s hs'
      · simp at hs'; subst hs'; exact ⟨h.size.2, by show nix.size ≤ 64; decide⟩
    · have := h.len
      simp [hw] at this
      simpa using this

/-! by place -/
def insE (x : En) : List En → List En
  | [] => [x]
  | y :: r => if B4 y.pl x.pl then y :: insE x r else x :: y :: r
def sortE : List En → List En
  | [] => []
  | x :: r => insE x (sortE r)
theorem insE_perm (x : En) : ∀ l : List En, (insE x l).Perm (x :: l)
  | [] => List.Perm.refl _
  | y :: r => by
    simp only [insE]
    split
    · exact ((insE_perm x r).cons y).trans (List.Perm.swap x y r)
    · exact List.Perm.refl _
theorem sortE_perm : ∀ l : List En, (sortE l).Perm l
  | [] => List.Perm.refl _
  | x :: r => (insE_perm x _).trans ((sortE_perm r).cons x)
theorem insE_sorted (x : En) : ∀ {l : List En}, Sorted l → Sorted (insE x l)
  | [], _ => by simp [insE, Sorted]
  | y :: r, h => by
    obtain ⟨h1, h2⟩ := List.pairwise_cons.1 h
    simp only [insE]
    split
    · rename_i hb
      refine List.pairwise_cons.2 ⟨fun z hz => ?_, insE_sorted x h2⟩
      rcases List.mem_cons.1 ((insE_perm x r).mem_iff.1 hz) with rfl | hz
      · exact B4.asym hb
      · exact h1 z hz
    · rename_i hb
      have hb' : B4 y.pl x.pl = false := by simpa using hb
      refine List.pairwise_cons.2 ⟨fun z hz => ?_, h⟩
      rcases List.mem_cons.1 hz with rfl | hz
      · exact hb'
      · exact B4.le_tr hb' (h1 z hz)
theorem sortE_sorted : ∀ l : List En, Sorted (sortE l)
  | [] => by simp [sortE, Sorted]
  | x :: r => insE_sorted x (sortE_sorted r)

/-- the normal list of what is kept of two lists -/
def nrm (K : Bool → Bool → Bool) (a b : List Sp) : List Sp := swept K (sortE (allEnds a b))
section
variable {K K' : Bool → Bool → Bool} {a b a' b' : List Sp}
theorem made_any (hK : K false false = false) (ha : MayL a) (hb : MayL b) {E : List En} (hp : E.Perm (allEnds a b)) (hs : Sorted E) : Norm (swept K E) ∧ (∀ t, hasL (swept K E) t = K (hasL a t) (hasL b t)) ∧ MayL (swept K E) ∧ (swept K E).length ≤ 2 * (a.length + b.length) := by
  have h := swept_made hK hs fun x hx => (allEnds_pl ha hb x (hp.mem_iff.1 hx)).1
  refine ⟨h.norm, fun t => ?_, fun s hs' => ⟨(h.size s hs').1, (h.size s hs').2, h.norm.each s hs'⟩, ?_⟩
  · have hpp : (upTo t E).Perm (upTo t (allEnds a b)) := hp.filter _
    rw [h.has t, dep_perm 0 hpp, dep_perm 1 hpp, dep_all0 ha, dep_all1 hb]
  · have h1 := h.len
    rw [hp.length_eq, allEnds, List.length_append] at h1
    have := endsOf_len 0 a
    have := endsOf_len 1 b
    omega
theorem nrm_made (hK : K false false = false) (ha : MayL a) (hb : MayL b) : Norm (nrm K a b) ∧ (∀ t, hasL (nrm K a b) t = K (hasL a t) (hasL b t)) ∧ MayL (nrm K a b) ∧ (nrm K a b).length ≤ 2 * (a.length + b.length) := made_any hK ha hb (sortE_perm _) (sortE_sorted _)
theorem swept_any (hK : K false false = false) (ha : MayL a) (hb : MayL b) {E : List En} (hp : E.Perm (allEnds a b)) (hs : Sorted E) : swept K E = nrm K a b := by
  obtain ⟨h1, h2, _⟩ := made_any hK ha hb hp hs
  obtain ⟨k1, k2, _⟩ := nrm_made hK ha hb
  exact h1.unique k1 fun t => (h2 t).trans (k2 t).symm
theorem nrm_eq (hK : K false false = false) (ha : MayL a) (hb : MayL b) {l : List Sp} (hl : Norm l) (h : ∀ t, K (hasL a t) (hasL b t) = hasL l t) : nrm K a b = l :=
  (nrm_made hK ha hb).1.unique hl fun t => ((nrm_made hK ha hb).2.1 t).trans (h t)
theorem nrm_ext (hK : K false false = false) (hK' : K' false false = false) (ha : MayL a) (hb : MayL b) (ha' : MayL a') (hb' : MayL b') (h : ∀ t, K (hasL a t) (hasL b t) = K' (hasL a' t) (hasL b' t)) : nrm K a b = nrm K' a' b' :=
  nrm_eq hK ha hb (nrm_made hK' ha' hb').1 fun t => (h t).trans ((nrm_made hK' ha' hb').2.1 t).symm
end
def kOr (x y : Bool) : Bool := x || y
def kAnd (x y : Bool) : Bool := x && y
def kNot (x y : Bool) : Bool := x && !y
theorem MayL.nil : MayL [] := by intro s hs; simp at hs

end Go.Proofs.Ythdempdiibjabaa.Sp
