/- Layer 9: the plain mathematics of tables: what an operation does to the row of its key, and to no other one. -/
import Derived.Test.YthdempdiibjabaaTbGot
namespace Go.Proofs.Ythdempdiibjabaa.Tb
open Go.Proofs.Ythdempdiibjabaa.Oq Go.Proofs.Ythdempdiibjabaa.Sp

/-- what an operation does to the row of its key, where there is room -/
def eff (o : Option Rw) (x : Opn) : Rs × Option Rw :=
  match o with
  | none =>
    if x.kind = 1 ∨ (x.kind = 3 ∧ x.test = 0) then
      if 4096 < x.val.size then (Tb.rs 93 0 nix, none) else (Tb.rs 0 x.stamp nix, some (Opn.row x))
    else (Tb.rs 91 0 nix, none)
  | some r =>
    if x.kind = 1 then (Tb.rs 90 r.stamp nix, some r)
    else if x.test ≠ 0 ∧ x.test ≠ r.stamp then (Tb.rs 92 r.stamp nix, some r)
    else if x.kind = 4 then (Tb.rs 0 r.stamp nix, none)
    else if x.kind = 5 then (Tb.rs 0 r.stamp r.val, some r)
    else if x.stamp ≤ r.stamp then (Tb.rs 92 r.stamp nix, some r)
    else if 4096 < x.val.size then (Tb.rs 93 0 nix, some r)
    else (Tb.rs 0 x.stamp nix, some (Opn.row x))
theorem one_eff {l : List Rw} (hl : l.length < 4096) {x : Opn} (hk : x.kind ≠ 6) : (one l x).1 = (eff (row? l x.key) x).1 ∧ row? (one l x).2 x.key = (eff (row? l x.key) x).2 ∧ ∀ q, q ≠ x.key → row? (one l x).2 q = row? l q := by
  have hput : ∀ q, q ≠ x.key → row? (put l (Opn.row x)) q = row? l q := fun q hq => by rw [row?_put, if_neg (Ne.symm hq)]
  have hput1 : row? (put l (Opn.row x)) x.key = some (Opn.row x) := by rw [row?_put, if_pos rfl]
  have hdel : ∀ q, q ≠ x.key → row? (del l x.key) q = row? l q := fun q hq => by rw [row?_del, if_neg (Ne.symm hq)]
  have hdel1 : row? (del l x.key) x.key = none := by rw [row?_del, if_pos rfl]
  unfold one eff
  rw [if_neg hk]
  cases ho : row? l x.key with
  | none =>
    simp only
    split
    · split
      · exact ⟨rfl, ho, fun _ _ => rfl⟩
      · rw [if_neg (by omega)]
        exact ⟨rfl, hput1, hput⟩
    · exact ⟨rfl, ho, fun _ _ => rfl⟩
  | some r =>
    simp only
    split
    · exact ⟨rfl, ho, fun _ _ => rfl⟩
    · split
      · exact ⟨rfl, ho, fun _ _ => rfl⟩
      · split
        · exact ⟨rfl, hdel1, hdel⟩
        · split
          · exact ⟨rfl, ho, fun _ _ => rfl⟩
          · split
            · exact ⟨rfl, ho, fun _ _ => rfl⟩
            · split
              · exact ⟨rfl, ho, fun _ _ => rfl⟩
              · exact ⟨rfl, hput1, hput⟩
theorem dos_one_bad {x : Opn} (l : List Rw) (hm : x.may = false) : dos l [x] = (⟨[], 0, 80⟩, l) := by
  have hb : badAt [x] = some 0 := badAt_at (k := 0) (by simp) (by simp) (by simpa using hm)
  unfold dos
  rw [if_neg (by simp), hb]
  rfl
/-- how many rows there can be -/
theorem runs_more : ∀ {ops : List Opn} {l : List Rw}, Tok l → (∀ x ∈ ops, x.may = true) → (runs l ops).2.length ≤ l.length + ops.length
  | [], _, _, _ => by simp [runs]
  | x :: r, l, h, hm => by
    have h1 := one_len h.rise x
    have h2 := runs_more (h.one (hm x (List.mem_cons_self ..))) fun y hy => hm y (List.mem_cons_of_mem _ hy)
    show (runs (one l x).2 r).2.length ≤ _
    simp only [List.length_cons]
    omega
theorem dos_more_len {l : List Rw} (h : Tok l) (ops : List Opn) : (dos l ops).2.length ≤ l.length + 32 := by
  unfold dos
  split
  · simp
  · rename_i hn
    split
    · simp
    · rename_i hb
      have := runs_more h (badAt_none hb)
      split
      · simp only; omega
      · split
        · simp
        · simp only; omega
theorem plays_len : ∀ (l : List OpsA) {t : List Rw}, Tok t → (plays t l).length ≤ t.length + 32 * l.length
  | [], _, _ => by simp [plays]
  | x :: r, t, h => by
    have h1 := dos_more_len h x.ops
    have h2 := plays_len r (h.dos x.ops)
    show (plays (dos t x.ops).2 r).length ≤ _
    simp only [List.length_cons]
    omega
/-- operations on unlike keys -/
theorem dos_apart {T : List Rw} (h : Tok T) (hl : T.length + 1 < 4096) {a b : Opn} (ha : a.kind ≠ 6) (hb : b.kind ≠ 6) (hk : a.key ≠ b.key) :
    (dos T [a]).1 = (dos (dos T [b]).2 [a]).1 ∧ (dos (dos T [a]).2 [b]).1 = (dos T [b]).1 ∧ (dos (dos T [a]).2 [b]).2 = (dos (dos T [b]).2 [a]).2 := by
  cases hma : a.may
  · rw [dos_one_bad _ hma, dos_one_bad _ hma]; exact ⟨rfl, rfl, rfl⟩
  · cases hmb : b.may
    · rw [dos_one_bad _ hmb, dos_one_bad _ hmb]; exact ⟨rfl, rfl, rfl⟩
    · rw [dos_one _ hma, dos_one _ hmb]
      simp only
      rw [dos_one _ hma, dos_one _ hmb]
      simp only
      have la := one_len h.rise a
      have lb := one_len h.rise b
      obtain ⟨a1, a2, a3⟩ := one_eff (l := T) (by omega) ha
      obtain ⟨b1, b2, b3⟩ := one_eff (l := T) (by omega) hb
      obtain ⟨c1, c2, c3⟩ := one_eff (l := (one T b).2) (by omega) ha
      obtain ⟨d1, d2, d3⟩ := one_eff (l := (one T a).2) (by omega) hb
      rw [b3 _ hk] at c1 c2
      rw [a3 _ (Ne.symm hk)] at d1 d2
      refine ⟨by rw [a1, c1], by rw [b1, d1], ?_⟩
      refine Rise.ext ((h.one hma).one hmb).rise ((h.one hmb).one hma).rise fun q => ?_
      by_cases qa : q = a.key
      · subst qa
        rw [d3 _ hk, a2, c2]
      · by_cases qb : q = b.key
        · subst qb
          rw [c3 _ (Ne.symm hk), b2, d2]
        · rw [d3 _ qb, a3 _ qa, c3 _ qa, b3 _ qb]

end Go.Proofs.Ythdempdiibjabaa.Tb
