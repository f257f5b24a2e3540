/- Layer 9: the plain mathematics of tables: rows by keys, and what each call comes to. -/
import Derived.Test.YthdempdiibjabaaSpPure
import Derived.Test.YthdempdiibjabaaOpMay
namespace Go.Proofs.Ythdempdiibjabaa.Tb
open Go.Proofs.Ythdempdiibjabaa.Oq Go.Proofs.Ythdempdiibjabaa.Sp

/-- a row -/
structure Rw where
  key : ByteArray
  stamp : Int
  val : ByteArray
/-- a result -/
structure Rs where
  code : Int
  stamp : Int
  val : ByteArray
  rows : List Rw

structure Rw.Ok (r : Rw) : Prop where
  k1 : 1 ≤ r.key.size
  k2 : r.key.size ≤ 64
  s1 : 1 ≤ r.stamp
  s2 : r.stamp ≤ 1099511627776
  v : r.val.size ≤ 4096
/-- keys rise -/
def Rise (l : List Rw) : Prop := l.Pairwise fun a b => B4 a.key b.key = true
/-- a table's rows -/
structure Tok (l : List Rw) : Prop where
  rise : Rise l
  len : l.length ≤ 4096
  each : ∀ r ∈ l, r.Ok
theorem Tok.nil : Tok [] := ⟨List.Pairwise.nil, by simp, by simp⟩

/-- how many rows are below a key -/
def pos (l : List Rw) (k : ByteArray) : Nat := l.countP fun r => B4 r.key k
/-- the row of a key -/
def row? (l : List Rw) (k : ByteArray) : Option Rw := l.find? fun r => decide (r.key = k)
def there (l : List Rw) (k : ByteArray) : Bool := (row? l k).isSome
def below (l : List Rw) (k : ByteArray) : List Rw := l.filter fun r => B4 r.key k
def above (l : List Rw) (k : ByteArray) : List Rw := l.filter fun r => B4 k r.key
def put (l : List Rw) (r : Rw) : List Rw := below l r.key ++ r :: above l r.key
def del (l : List Rw) (k : ByteArray) : List Rw := below l k ++ above l k

theorem pos_le (l : List Rw) (k : ByteArray) : pos l k ≤ l.length := List.countP_le_length
theorem Rise.cons {r : Rw} {l : List Rw} (h : Rise (r :: l)) : Rise l := (List.pairwise_cons.1 h).2
theorem Rise.head {r : Rw} {l : List Rw} (h : Rise (r :: l)) : ∀ x ∈ l, B4 r.key x.key = true := (List.pairwise_cons.1 h).1
theorem pos_cons (r : Rw) (l : List Rw) (k : ByteArray) : pos (r :: l) k = pos l k + if B4 r.key k then 1 else 0 := by
  unfold pos; rw [List.countP_cons]
theorem pos_zero {r : Rw} {l : List Rw} (h : Rise (r :: l)) {k : ByteArray} (hk : B4 r.key k = false) : pos l k = 0 := by
  unfold pos
  rw [List.countP_eq_zero]
  intro x hx hb
  have h1 := B4.tr (h.head x hx) hb
  rw [hk] at h1; cases h1
/-- the rows ahead of a key's place, and those behind -/
theorem take_pos : ∀ {l : List Rw}, Rise l → ∀ k, l.take (pos l k) = below l k
  | [], _, _ => rfl
  | r :: l, h, k => by
    rw [pos_cons, below, List.filter_cons]
    cases hb : B4 r.key k
    · rw [pos_zero h hb]
      simp only [Bool.false_eq_true, if_false, Nat.add_zero, List.take_zero]
      have := take_pos h.cons k
      rw [pos_zero h hb, List.take_zero] at this
      exact this
    · simp only [if_true, List.take_succ_cons]
      rw [take_pos h.cons k]; rfl
theorem drop_pos : ∀ {l : List Rw}, Rise l → ∀ k, l.drop (pos l k) = l.filter fun r => !B4 r.key k
  | [], _, _ => rfl
  | r :: l, h, k => by
    rw [pos_cons, List.filter_cons]
    cases hb : B4 r.key k
    · rw [pos_zero h hb]
      simp only [Bool.false_eq_true, if_false, Nat.add_zero, List.drop_zero, Bool.not_false, if_true]
      have := drop_pos h.cons k
      rw [pos_zero h hb, List.drop_zero] at this
      rw [← this]
    · simp only [if_true, List.drop_succ_cons, Bool.not_true, Bool.false_eq_true, if_false]
      exact drop_pos h.cons k
theorem pos_lo {l : List Rw} (h : Rise l) (k : ByteArray) (t : Nat) (ht : t < l.length) (hp : t < pos l k) : B4 l[t].key k = true := by
  have h1 : l[t] ∈ l.take (pos l k) := by
    rw [List.mem_take_iff_getElem]
    exact ⟨t, by omega, rfl⟩
  rw [take_pos h k] at h1
  exact (List.mem_filter.1 h1).2
theorem pos_hi {l : List Rw} (h : Rise l) (k : ByteArray) (t : Nat) (ht : t < l.length) (hp : pos l k ≤ t) : B4 l[t].key k = false := by
  have h1 : l[t] ∈ l.drop (pos l k) := by
    rw [List.mem_drop_iff_getElem]
    exact ⟨t - pos l k, by omega, by congr 1; omega⟩
  rw [drop_pos h k] at h1
  simpa using (List.mem_filter.1 h1).2
theorem row?_some {l : List Rw} {k : ByteArray} {r : Rw} (h : row? l k = some r) : r ∈ l ∧ r.key = k :=
  ⟨List.mem_of_find?_eq_some h, by simpa using List.find?_some h⟩
theorem row?_none {l : List Rw} {k : ByteArray} (h : row? l k = none) : ∀ r ∈ l, r.key ≠ k := by
  intro r hr
  simpa using List.find?_eq_none.1 h r hr
theorem Rise.row? : ∀ {l : List Rw}, Rise l → ∀ {r : Rw}, r ∈ l → row? l r.key = some r
  | x :: l, h, r, hr => by
    unfold Tb.row?
    rcases List.mem_cons.1 hr with rfl | hr
    · rw [List.find?_cons_of_pos (by simp)]
    · rw [List.find?_cons_of_neg]
      · exact h.cons.row? hr
      · have := B4.ne (h.head r hr)
        simpa using this
theorem row?_cons (x : Rw) (l : List Rw) (k : ByteArray) : row? (x :: l) k = if x.key = k then some x else row? l k := by
  unfold row?
  rw [List.find?_cons]
  by_cases h : x.key = k <;> simp [h]
theorem row?_append (a b : List Rw) (k : ByteArray) : row? (a ++ b) k = (row? a k).or (row? b k) := by
  unfold row?; rw [List.find?_append]
/-- the row at a key's place -/
theorem row?_pos : ∀ {l : List Rw}, Rise l → ∀ k, row? l k = (l[pos l k]?).filter fun r => decide (r.key = k)
  | [], _, _ => rfl
  | x :: l, h, k => by
    rw [row?_cons, pos_cons]
    cases hb : B4 x.key k
    · rw [pos_zero h hb]
      simp only [Bool.false_eq_true, if_false, Nat.add_zero, List.getElem?_cons_zero, Option.filter_some]
      by_cases e : x.key = k
      · simp [e]
      · rw [if_neg e, row?_pos h.cons, pos_zero h hb]
        simp only [e, decide_false, Bool.false_eq_true, if_false]
        cases h0 : l[0]? with
        | none => rfl
        | some y =>
          have hy : y ∈ l := List.mem_of_getElem? h0
          have h1 := h.head y hy
          have : y.key ≠ k := by rintro rfl; rw [hb] at h1; cases h1
          simp [Option.filter_some, this]
    · simp only [if_true, List.getElem?_cons_succ]
      rw [if_neg (B4.ne hb)]
      exact row?_pos h.cons k
theorem there_pos {l : List Rw} (h : Rise l) (k : ByteArray) : there l k = true ↔ ∃ (hp : pos l k < l.length), l[pos l k].key = k := by
  unfold there
  rw [row?_pos h]
  by_cases hp : pos l k < l.length
  · rw [List.getElem?_eq_getElem hp]
    by_cases e : l[pos l k].key = k <;> simp [Option.filter_some, e, hp]
  · rw [List.getElem?_eq_none (by omega)]; simp [hp]
theorem row?_at {l : List Rw} (h : Rise l) {k : ByteArray} {r : Rw} (hr : row? l k = some r) : ∃ (hp : pos l k < l.length), l[pos l k] = r ∧ r.key = k := by
  rw [row?_pos h] at hr
  by_cases hp : pos l k < l.length
  · rw [List.getElem?_eq_getElem hp] at hr
    refine ⟨hp, ?_⟩
    by_cases e : l[pos l k].key = k
    · simp [Option.filter_some, e] at hr; rw [← hr]; exact ⟨rfl, e⟩
    · simp [Option.filter_some, e] at hr
  · rw [List.getElem?_eq_none (by omega)] at hr; simp at hr
/-- behind a key's place, with its row left out -/
theorem filter_not {l : List Rw} {k : ByteArray} (h : ∀ r ∈ l, r.key ≠ k) : (l.filter fun r => !B4 r.key k) = above l k := by
  unfold above
  refine List.filter_congr fun r hr => ?_
  rcases B4.tot (h r hr) with h1 | h1
  · rw [h1, B4.asym h1]; rfl
  · rw [h1, B4.asym h1]; rfl
theorem drop_no {l : List Rw} (h : Rise l) {k : ByteArray} (hn : row? l k = none) : l.drop (pos l k) = above l k := by
  rw [drop_pos h k]; exact filter_not (row?_none hn)
theorem drop_yes {l : List Rw} (h : Rise l) {k : ByteArray} {r : Rw} (hr : row? l k = some r) : l.drop (pos l k + 1) = above l k := by
  obtain ⟨hp, h1, h2⟩ := row?_at h hr
  have hd := drop_pos h k
  rw [List.drop_eq_getElem_cons hp, h1] at hd
  have h3 : ∀ x ∈ l.drop (pos l k + 1), B4 k x.key = true := by
    intro x hx
    have h4 : Rise (l.drop (pos l k)) := List.Pairwise.drop h
    rw [List.drop_eq_getElem_cons hp, h1] at h4
    have := h4.head x hx
    rw [h2] at this; exact this
  have h5 : above (l.drop (pos l k)) k = above l k := by
    conv => rhs; rw [← List.take_append_drop (pos l k) l]
    unfold above
    rw [List.filter_append, take_pos h k]
    have : ((below l k).filter fun r => B4 k r.key) = [] := by
      rw [List.filter_eq_nil_iff]
      intro x hx
      rw [B4.asym (List.mem_filter.1 hx).2]; simp
    rw [this, List.nil_append]
  rw [← h5, List.drop_eq_getElem_cons hp, h1]
  unfold above
  rw [List.filter_cons, h2, B4.irr]
  simp only [Bool.false_eq_true, if_false]
  exact (List.filter_eq_self.2 h3).symm

theorem below_rise {l : List Rw} (h : Rise l) (k : ByteArray) : Rise (below l k) := List.Pairwise.filter _ h
theorem above_rise {l : List Rw} (h : Rise l) (k : ByteArray) : Rise (above l k) := List.Pairwise.filter _ h
theorem put_rise {l : List Rw} (h : Rise l) (r : Rw) : Rise (put l r) := by
  unfold put Rise
  rw [List.pairwise_append]
  refine ⟨below_rise h _, List.pairwise_cons.2 ⟨fun x hx => (List.mem_filter.1 hx).2, above_rise h _⟩, ?_⟩
  intro a ha b hb
  have h1 := (List.mem_filter.1 ha).2
  rcases List.mem_cons.1 hb with rfl | hb
  · exact h1
  · exact B4.tr h1 (List.mem_filter.1 hb).2
theorem del_rise {l : List Rw} (h : Rise l) (k : ByteArray) : Rise (del l k) := by
  unfold del Rise
  rw [List.pairwise_append]
  refine ⟨below_rise h _, above_rise h _, ?_⟩
  intro a ha b hb
  exact B4.tr (List.mem_filter.1 ha).2 (List.mem_filter.1 hb).2
theorem mem_put {l : List Rw} {r x : Rw} (h : x ∈ put l r) : x = r ∨ x ∈ l := by
  unfold put at h
  rcases List.mem_append.1 h with h | h
  · exact Or.inr (List.mem_filter.1 h).1
  · rcases List.mem_cons.1 h with h | h
    · exact Or.inl h
    · exact Or.inr (List.mem_filter.1 h).1
theorem mem_del {l : List Rw} {k : ByteArray} {x : Rw} (h : x ∈ del l k) : x ∈ l := by
  unfold del at h
  rcases List.mem_append.1 h with h | h
  · exact (List.mem_filter.1 h).1
  · exact (List.mem_filter.1 h).1
/-- lengths -/
theorem put_new {l : List Rw} (h : Rise l) {r : Rw} (hn : row? l r.key = none) : (put l r).length = l.length + 1 := by
  unfold put
  rw [← take_pos h, ← drop_no h hn, List.length_append, List.length_cons, List.length_take, List.length_drop]
  have := pos_le l r.key
  omega
theorem put_old {l : List Rw} (h : Rise l) {r x : Rw} (hn : row? l r.key = some x) : (put l r).length = l.length := by
  obtain ⟨hp, _⟩ := row?_at h hn
  unfold put
  rw [← take_pos h, ← drop_yes h hn, List.length_append, List.length_cons, List.length_take, List.length_drop]
  omega
theorem del_old {l : List Rw} (h : Rise l) {k : ByteArray} {x : Rw} (hn : row? l k = some x) : (del l k).length + 1 = l.length := by
  obtain ⟨hp, _⟩ := row?_at h hn
  unfold del
  rw [← take_pos h, ← drop_yes h hn, List.length_append, List.length_take, List.length_drop]
  omega
/-- what is read behind a write -/
theorem row?_below {l : List Rw} (k q : ByteArray) : row? (below l k) q = if B4 q k = true then row? l q else none := by
  unfold row? below
  rw [List.find?_filter]
  split
  · rename_i h
    congr 1; funext r
    by_cases e : r.key = q
    · subst e; simp [h]
    · simp [e]
  · rename_i h
    rw [List.find?_eq_none]
    intro r _ hc
    simp only [decide_eq_true_eq] at hc
    rw [hc.2] at hc; exact h hc.1
theorem row?_above {l : List Rw} (k q : ByteArray) : row? (above l k) q = if B4 k q = true then row? l q else none := by
  unfold row? above
  rw [List.find?_filter]
  split
  · rename_i h
    congr 1; funext r
    by_cases e : r.key = q
    · subst e; simp [h]
    · simp [e]
  · rename_i h
    rw [List.find?_eq_none]
    intro r _ hc
    simp only [decide_eq_true_eq] at hc
    rw [hc.2] at hc; exact h hc.1
theorem row?_put (l : List Rw) (r : Rw) (q : ByteArray) : row? (put l r) q = if r.key = q then some r else row? l q := by
  unfold put
  rw [row?_append, row?_cons, row?_below, row?_above]
  by_cases e : r.key = q
  · subst e; simp [B4.irr]
  · rw [if_neg e, if_neg e]
    rcases B4.tot e with h | h
    · simp [h, B4.asym h]
    · simp [h, B4.asym h]
theorem row?_del (l : List Rw) (k q : ByteArray) : row? (del l k) q = if k = q then none else row? l q := by
  unfold del
  rw [row?_append, row?_below, row?_above]
  by_cases e : k = q
  · subst e; simp [B4.irr]
  · rw [if_neg e]
    rcases B4.tot e with h | h
    · simp [h, B4.asym h]
    · simp [h, B4.asym h]
/-- rows that are found alike are alike -/
theorem Rise.ext : ∀ {l m : List Rw}, Rise l → Rise m → (∀ k, Tb.row? l k = Tb.row? m k) → l = m
  | [], [], _, _, _ => rfl
  | [], y :: m, _, _, h => by have := h y.key; rw [row?_cons, if_pos rfl] at this; cases this
  | x :: l, [], _, _, h => by have := h x.key; rw [row?_cons, if_pos rfl] at this; cases this
  | x :: l, y :: m, hl, hm, h => by
    have h1 : x.key = y.key := by
      by_cases e : x.key = y.key
      · exact e
      · exfalso
        have a := h x.key
        rw [row?_cons, if_pos rfl, row?_cons, if_neg (Ne.symm e)] at a
        have b := h y.key
        rw [row?_cons, if_neg e, row?_cons, if_pos rfl] at b
        have a1 := hm.head x (row?_some a.symm).1
        have b1 := hl.head y (row?_some b).1
        rw [B4.asym a1] at b1; cases b1
    have h2 : x = y := by
      have a := h x.key
      rw [row?_cons, if_pos rfl, row?_cons, if_pos h1.symm] at a
      exact Option.some.inj a
    subst h2
    congr 1
    refine hl.cons.ext hm.cons fun k => ?_
    by_cases e : x.key = k
    · subst e
      have n1 : Tb.row? l x.key = none := by
        rw [Tb.row?, List.find?_eq_none]; intro z hz hc; exact B4.ne (hl.head z hz) (of_decide_eq_true hc).symm
      have n2 : Tb.row? m x.key = none := by
        rw [Tb.row?, List.find?_eq_none]; intro z hz hc; exact B4.ne (hm.head z hz) (of_decide_eq_true hc).symm
      rw [n1, n2]
    · have := h k
      rw [row?_cons, row?_cons, if_neg e, if_neg e] at this
      exact this

/-- a result without rows -/
abbrev rs (c s : Int) (v : ByteArray) : Rs := ⟨c, s, v, []⟩
abbrev Opn.row (x : Opn) : Rw := ⟨x.key, x.stamp, x.val⟩
/-- an operation, alone -/
def one (l : List Rw) (x : Opn) : Rs × List Rw :=
  if x.kind = 6 then (⟨0, 0, nix, (l.drop (pos l x.key)).take x.most.toNat⟩, l)
  else match row? l x.key with
  | none =>
    if x.kind = 1 ∨ (x.kind = 3 ∧ x.test = 0) then
      if 4096 < x.val.size then (rs 93 0 nix, l)
      else if 4096 ≤ l.length then (rs 22 0 nix, l)
      else (rs 0 x.stamp nix, put l (Opn.row x))
    else (rs 91 0 nix, l)
  | some r =>
    if x.kind = 1 then (rs 90 r.stamp nix, l)
    else if x.test ≠ 0 ∧ x.test ≠ r.stamp then (rs 92 r.stamp nix, l)
    else if x.kind = 4 then (rs 0 r.stamp nix, del l x.key)
    else if x.kind = 5 then (rs 0 r.stamp r.val, l)
    else if x.stamp ≤ r.stamp then (rs 92 r.stamp nix, l)
    else if 4096 < x.val.size then (rs 93 0 nix, l)
    else (rs 0 x.stamp nix, put l (Opn.row x))
/-- operations, one by one -/
def runs (l : List Rw) : List Opn → List Rs × List Rw
  | [] => ([], l)
  | x :: r => ((one l x).1 :: (runs (one l x).2 r).1, (runs (one l x).2 r).2)
/-- the first that may not be -/
def badAt (ops : List Opn) : Option Nat := ops.findIdx? fun x => !x.may
/-- the first that is not OK -/
def failAt (rl : List Rs) : Option Nat := rl.findIdx? fun r => decide (r.code ≠ 0)
structure Ans where
  res : List Rs
  at_ : Int
  code : Int
/-- what Do comes to -/
def dos (l : List Rw) (ops : List Opn) : Ans × List Rw :=
  if ops.length < 1 ∨ 32 < ops.length then (⟨[], 0, 80⟩, l)
  else match badAt ops with
  | some i => (⟨[], i, 80⟩, l)
  | none =>
    if ops.length = 1 then (⟨(runs l ops).1, 0, 0⟩, (runs l ops).2)
    else match failAt (runs l ops).1 with
    | some i => (⟨[], i, ((runs l ops).1[i]?.map Rs.code).getD 0⟩, l)
    | none => (⟨(runs l ops).1, 0, 0⟩, (runs l ops).2)

theorem within_iff {n a b : Int} (h : within n a b = true) : a ≤ n ∧ n ≤ b := by simpa [within] using h
theorem row_ok {x : Opn} (hm : x.may = true) (hk : x.kind = 1 ∨ x.kind = 2 ∨ x.kind = 3) (hv : ¬ 4096 < x.val.size) : (Opn.row x).Ok := by
  have hp : x.put = true := by
    unfold Opn.may at hm
    rcases hk with h | h | h <;> simp [h] at hm <;> exact hm.1
  unfold Opn.put at hp
  simp only [Bool.and_eq_true] at hp
  obtain ⟨⟨⟨h1, _⟩, h3⟩, _⟩ := hp
  have a := within_iff h1
  have b := within_iff h3
  exact ⟨by show 1 ≤ x.key.size; omega, by show x.key.size ≤ 64; omega, b.1, b.2, by show x.val.size ≤ 4096; omega⟩
theorem may_kind {x : Opn} (h : x.may = true) : 1 ≤ x.kind ∧ x.kind ≤ 6 := by
  unfold Opn.may at h
  by_cases k1 : x.kind = 1
  · omega
  by_cases k2 : x.kind = 2
  · omega
  by_cases k3 : x.kind = 3
  · omega
  by_cases k4 : x.kind = 4
  · omega
  by_cases k5 : x.kind = 5
  · omega
  by_cases k6 : x.kind = 6
  · omega
  · simp [k1, k2, k3, k4, k5, k6] at h
theorem Tok.put_new {l : List Rw} (h : Tok l) {r : Rw} (hr : r.Ok) (hn : row? l r.key = none) (hl : l.length < 4096) : Tok (put l r) :=
  ⟨put_rise h.rise r, by rw [Tb.put_new h.rise hn]; omega, fun x hx => by rcases mem_put hx with rfl | hx; exact hr; exact h.each x hx⟩
theorem Tok.put_old {l : List Rw} (h : Tok l) {r x : Rw} (hr : r.Ok) (hn : row? l r.key = some x) : Tok (put l r) :=
  ⟨put_rise h.rise r, by rw [Tb.put_old h.rise hn]; exact h.len, fun x hx => by rcases mem_put hx with rfl | hx; exact hr; exact h.each x hx⟩
theorem Tok.del {l : List Rw} (h : Tok l) {k : ByteArray} {x : Rw} (hn : row? l k = some x) : Tok (del l k) :=
  ⟨del_rise h.rise k, by have := del_old h.rise hn; have := h.len; omega, fun x hx => h.each x (mem_del hx)⟩
/-- a table stays one -/
theorem Tok.one {l : List Rw} (h : Tok l) {x : Opn} (hm : x.may = true) : Tok (one l x).2 := by
  unfold Tb.one
  have hk := may_kind hm
  split
  · exact h
  · split
    · rename_i hn
      split
      · split
        · exact h
        · split
          · exact h
          · exact h.put_new (row_ok hm (by omega) (by assumption)) hn (by omega)
      · exact h
    · rename_i r hr
      split
      · exact h
      · split
        · exact h
        · split
          · exact h.del hr
          · split
            · exact h
            · split
              · exact h
              · split
                · exact h
                · exact h.put_old (row_ok hm (by omega) (by assumption)) hr
theorem Tok.runs : ∀ {ops : List Opn} {l : List Rw}, Tok l → (∀ x ∈ ops, x.may = true) → Tok (runs l ops).2
  | [], _, h, _ => h
  | x :: r, l, h, hm => by
    show Tok (Tb.runs (Tb.one l x).2 r).2
    exact Tok.runs (h.one (hm x (List.mem_cons_self ..))) fun y hy => hm y (List.mem_cons_of_mem _ hy)
theorem badAt_none {ops : List Opn} (h : badAt ops = none) : ∀ x ∈ ops, x.may = true := by
  intro x hx
  have := List.findIdx?_eq_none_iff.1 h x hx
  simpa using this
theorem Tok.dos {l : List Rw} (h : Tok l) (ops : List Opn) : Tok (dos l ops).2 := by
  unfold Tb.dos
  split
  · exact h
  · split
    · exact h
    · rename_i hb
      split
      · exact h.runs (badAt_none hb)
      · split
        · exact h
        · exact h.runs (badAt_none hb)
/-- one row more at most -/
theorem one_len {l : List Rw} (h : Rise l) (x : Opn) : (one l x).2.length ≤ l.length + 1 := by
  unfold Tb.one
  split
  · simp
  · split
    · rename_i hn
      split
      · split
        · simp
        · split
          · simp
          · exact Nat.le_of_eq (put_new h hn)
      · simp
    · rename_i r hr
      split
      · simp
      · split
        · simp
        · split
          · have := del_old h hr; show (del l x.key).length ≤ _; omega
          · split
            · simp
            · split
              · simp
              · split
                · simp
                · have := put_old (r := Opn.row x) h hr; show (put l (Opn.row x)).length ≤ _; omega

end Go.Proofs.Ythdempdiibjabaa.Tb
