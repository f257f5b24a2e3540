/- A log of entries: what it is, and where it lies. -/
import Derived.Test.YtmpahgklcabihaaGreatGRow
import Derived.Test.YtmpahgklcabihaaGreatGBase
import Derived.ArgAppend
namespace Go.Proofs.YtmpahgklcabihaaGreat.Rl
open Go.RowKit Go.Joins Gk

structure En where
  t : Int
  d : ByteArray
def eenc (e : En) : List Value := [.int .i64 e.t, .string e.d]
theorem eenc_len (e : En) : (eenc e).length = 2 := rfl
theorem eenc_one (e : En) : ∀ u ∈ eenc e, u.oneCell' = true := by
  intro u hu
  simp only [eenc, List.mem_cons, List.not_mem_nil, or_false] at hu
  rcases hu with rfl | rfl <;> rfl
abbrev EnT : TypeId := 66
abbrev EnsT : TypeId := 53
abbrev LogT : TypeId := 150
abbrev noE : Value := .agg #[.int .i64 0, .string ⟨#[]⟩]
theorem en_info : (Tryz.prog.info? EnT).map (fun i => (i.zero, i.size, i.bytes)) = some (some noE, 2, 24) := by kernel_rfl

structure Lo where
  b : Nat
  bt : Int
  es : List En

/-- in which block a slice lies -/
def blk : Value → Option Nat
  | .slice (some a) _ _ => some a.block
  | _ => none

/-- entries lie in a slice of their own, at whatever place of their block -/
def ER (w : World) (v : Value) (l : List En) : Prop :=
  (v = .slice none 0 0 ∧ l = []) ∨ ∃ g o cap cur, v = .slice (some ⟨g, o, none⟩) l.length cap ∧ w.heap[g]? = some (.cells cur EnT (0, 0)) ∧ l.length ≤ cap ∧ cap ≤ maxLen ∧ o + cap * 2 ≤ cur.size ∧ ∀ j u, (rc eenc l)[j]? = some u → cur[o + j]? = some u

theorem ER.nil (w : World) : ER w (.slice none 0 0) [] := Or.inl ⟨rfl, rfl⟩
theorem ER.slice {w : World} {v : Value} {l : List En} (h : ER w v l) : ∃ a cap, v = .slice a l.length cap ∧ (a = none → cap = 0) ∧ l.length ≤ cap ∧ cap ≤ maxLen := by
  rcases h with ⟨rfl, rfl⟩ | ⟨g, o, cap, cur, rfl, hg, h1, h2, h3, h4⟩
  · exact ⟨none, 0, rfl, fun _ => rfl, by simp, by simp [maxLen]⟩
  · exact ⟨_, cap, rfl, (fun e => by cases e), h1, h2⟩
theorem ER.lt {w : World} {v : Value} {l : List En} (h : ER w v l) {g : Nat} (hg : blk v = some g) : g < w.heap.size := by
  rcases h with ⟨rfl, rfl⟩ | ⟨g', o, cap, cur, rfl, hg', _⟩
  · cases hg
  · cases hg; exact (Array.getElem?_eq_some_iff.1 hg').1
theorem ER.stay {w w' : World} {v : Value} {l : List En} (h : ER w v l) (hs : ∀ g, blk v = some g → w'.heap[g]? = w.heap[g]?) : ER w' v l := by
  rcases h with ⟨rfl, rfl⟩ | ⟨g, o, cap, cur, rfl, hg, rest⟩
  · exact Or.inl ⟨rfl, rfl⟩
  · exact Or.inr ⟨g, o, cap, cur, rfl, (hs g rfl).trans hg, rest⟩
theorem ER.below {w w' : World} {v : Value} {l : List En} (h : ER w v l) (hb : Below w.heap.size w w') : ER w' v l := h.stay fun g hg => hb.block g (h.lt hg)
theorem ER.lies {w : World} {a : Option Addr} {n cap : Nat} {l : List En} (h : ER w (.slice a n cap) l) : Lies w eenc a l := by
  rcases h with ⟨_, rfl⟩ | ⟨g, o, cap', cur, e1, hg, h1, h2, h3, h4⟩
  · exact Or.inl rfl
  · cases e1
    exact Or.inr ⟨g, o, rfl, (Array.getElem?_eq_some_iff.1 hg).1, fun j u hj => by rw [cell_of_block hg]; exact h4 j u hj⟩
theorem ER.ne {w : World} {v : Value} {l : List En} (h : ER w v l) {b t : Nat} {cs : Array Value} (hb : w.heap[b]? = some (.cells cs t (0, 0))) (ht : t ≠ EnT) {g : Nat} (hg : blk v = some g) : g ≠ b := by
  intro e1
  rcases h with ⟨rfl, rfl⟩ | ⟨g', o, cap, cur, rfl, hg', _⟩
  · cases hg
  · cases hg
    have e2 : g' = b := e1
    rw [e2, hb] at hg'; cases hg'; exact ht rfl
theorem rc_pre {l : List En} {i j : Nat} {u : Value} (h : (rc eenc (l.take i))[j]? = some u) : (rc eenc l)[j]? = some u := by
  rcases Nat.le_total i l.length with hi | hi
  · rw [← rc_take eenc_len l i hi, List.getElem?_take] at h
    split at h
    · exact h
    · cases h
  · rwa [List.take_of_length_le hi] at h
theorem ER.take {w : World} {g o n cap : Nat} {l : List En} (h : ER w (.slice (some ⟨g, o, none⟩) n cap) l) (i : Nat) (hi : i ≤ l.length) : ER w (.slice (some ⟨g, o, none⟩) i cap) (l.take i) := by
  rcases h with ⟨e, _⟩ | ⟨g, o, cap', cur, e1, hg, h1, h2, h3, h4⟩
  · cases e
  · cases e1
    exact Or.inr ⟨g, o, cap, cur, by rw [List.length_take, Nat.min_eq_left hi], hg, by rw [List.length_take]; omega, h2, h3, fun j u hj => h4 j u (rc_pre hj)⟩
/-- from a place on -/
theorem ER.drop {w : World} {g o n cap : Nat} {l : List En} (h : ER w (.slice (some ⟨g, o, none⟩) n cap) l) (i : Nat) (hi : i ≤ l.length) : ER w (.slice (some ⟨g, o + i * 2, none⟩) (l.length - i) (cap - i)) (l.drop i) := by
  rcases h with ⟨e, _⟩ | ⟨g, o, cap', cur, e1, hg, h1, h2, h3, h4⟩
  · cases e
  · cases e1
    refine Or.inr ⟨g, o + i * 2, cap - i, cur, by rw [List.length_drop], hg, by rw [List.length_drop]; omega, by omega, by omega, fun j u hj => ?_⟩
    rw [← rc_drop eenc_len l i hi, List.getElem?_drop] at hj
    rw [Nat.add_assoc]; exact h4 _ _ hj
theorem setL_at : ∀ (vs : List Value) (cs : Array Value) (o j : Nat), (setL cs o vs)[j]? = if o ≤ j ∧ j < o + vs.length ∧ j < cs.size then vs[j - o]? else cs[j]?
  | [], cs, o, j => by
    rw [setL, if_neg]
    rintro ⟨h1, h2, _⟩; simp at h2; omega
  | v :: r, cs, o, j => by
    rw [setL, setL_at r]
    by_cases h : o + 1 ≤ j ∧ j < o + 1 + r.length ∧ j < (cs.setIfInBounds o v).size
    · rw [if_pos h, if_pos ⟨by omega, by simp; omega, by simpa using h.2.2⟩]
      obtain ⟨m, hm⟩ : ∃ m, j - o = m + 1 := ⟨j - o - 1, by omega⟩
      rw [hm, List.getElem?_cons_succ]; congr 1; omega
    · rw [if_neg h]
      by_cases he : o = j
      · subst he
        rw [Array.getElem?_setIfInBounds, if_pos rfl]
        by_cases hs : o < cs.size
        · rw [if_pos hs, if_pos ⟨Nat.le_refl _, by simp, hs⟩]; simp
        · rw [if_neg hs, if_neg (fun h => hs h.2.2), Array.getElem?_eq_none (by omega)]
      · rw [Array.getElem?_setIfInBounds, if_neg he, if_neg]
        rintro ⟨h1, h2, h3⟩
        exact h ⟨by omega, by simp at h2; omega, by simpa using h3⟩
/-- what stands elsewhere in the block is none of it -/
theorem ER.over {w : World} {g o n cap : Nat} {l : List En} (h : ER w (.slice (some ⟨g, o, none⟩) n cap) l) (p : Nat) (vs : List Value) (hp : p + vs.length ≤ o ∨ o + l.length * 2 ≤ p) : ER (w.setCells g p vs) (.slice (some ⟨g, o, none⟩) n cap) l := by
  rcases h with ⟨e, _⟩ | ⟨g, o, cap', cur, e1, hg, h1, h2, h3, h4⟩
  · cases e
  · cases e1
    refine Or.inr ⟨g, o, cap, _, rfl, block_setCells _ _ _ _ hg, h1, h2, by rw [setL_size]; exact h3, fun j u hj => ?_⟩
    have hjl : j < l.length * 2 := by have := (List.getElem?_eq_some_iff.1 hj).1; rwa [rc_length eenc_len] at this
    rw [setL_at, if_neg (by omega)]
    exact h4 j u hj
theorem ER.there {w : World} {g o n cap : Nat} {l : List En} (h : ER w (.slice (some ⟨g, o, none⟩) n cap) l) (j : Nat) (hj : j < cap * 2) : (w.cell? ⟨g, o + j, none⟩).isSome = true ∧ w.frozen? ⟨g, o + j, none⟩ = false := by
  rcases h with ⟨e, _⟩ | ⟨g, o, cap', cur, e1, hg, h1, h2, h3, h4⟩
  · cases e
  · cases e1
    rw [cell_of_block hg, unfrozen_of_block hg]
    exact ⟨by rw [Array.getElem?_eq_getElem (by omega)]; rfl, rfl⟩
/-- a row that is owned -/
theorem ER.of_own {w : World} {B n : Nat} {v : Value} {l : List En} (h : w.ownsRow B EnT 2 v n (rc eenc l)) : ER w v l := by
  have hn : n = l.length := by have := h.1; rw [rc_length eenc_len] at this; omega
  subst hn
  rcases h.2 with ⟨rfl, h0⟩ | ⟨g, cap, cur, rfl, _, hg, h1, h2, h3, h4⟩
  · exact Or.inl ⟨rfl, List.eq_nil_of_length_eq_zero h0⟩
  · refine Or.inr ⟨g, 0, cap, cur, rfl, hg, h1, h2, by omega, fun j u hj => ?_⟩
    rw [← h4, List.getElem?_take] at hj
    split at hj
    · rw [Nat.zero_add]; simpa using hj
    · cases hj
theorem blk_own {w : World} {B e size n : Nat} {v : Value} {xs : List Value} (h : w.ownsRow B e size v n xs) : blk v = v.ownBlock := by
  rcases h.2 with ⟨rfl, _⟩ | ⟨g, cap, cur, rfl, _⟩ <;> rfl

/-- one entry more -/
theorem ER.push {w : World} {v : Value} {l : List En} (h : ER w v l) (e : En) (b : Nat) (hb : w.heap[b]? = some (.cells (eenc e).toArray EnT (0, 0))) (hl : l.length ≤ 1048576) (ty : TypeId) :
    ∃ ad cap w', (Builtin.append_ #[EnsT, EnsT] ty #[v, .slice (some ⟨b, 0, none⟩) 1 1]).run Tryz.prog w = .ok (.slice ad (l.length + 1) cap) w' ∧ ER w' (.slice ad (l.length + 1) cap) (l ++ [e]) ∧ w.grownBy w' (blk v) ∧
      ∀ g, blk (.slice ad (l.length + 1) cap) = some g → blk v = some g ∨ w.heap.size ≤ g := by
  obtain ⟨i0, hi, hz0, hz1, hz2⟩ := info_parts en_info
  have hnews : ∀ j u, (eenc e)[j]? = some u → w.cell? ((⟨b, 0, none⟩ : Addr).add j) = some u := World.news_of_block hb
  have hle : (eenc e).length = 1 * 2 := rfl
  rcases h with ⟨rfl, rfl⟩ | ⟨g, o, cap, cur, rfl, hg, h1, h2, h3, h4⟩
  · obtain ⟨v', w', hr, h2, h3, _, h5⟩ := run_append_own_at (P := Tryz.prog) w 0 EnsT ty EnT i0 noE 2 24 Tryz.underlying53 hi hz0 hz1 hz2 rfl (by decide) (.slice none 0 0) 0 [] (World.ownsRow_nil w 0 EnT 2) ⟨b, 0, none⟩ 1 1 (eenc e) hle hnews (eenc_one e) (by unfold maxLen; omega) (by omega) (Nat.zero_le _)
    obtain ⟨av, cv, rfl⟩ := own_slice h2
    refine ⟨av, cv, w', hr, ER.of_own (by simpa [rc_one] using h2), h3, fun g hg => ?_⟩
    have hg : blk (.slice av (0 + 1) cv) = some g := hg
    rw [blk_own h2] at hg
    rcases h5 with h5 | h5
    · rw [h5] at hg; cases hg
    · rw [h5] at hg; cases hg; exact Or.inr (Nat.le_refl _)
  · by_cases hroom : l.length + 1 ≤ cap
    · have hr := run_append_room_cells (P := Tryz.prog) w EnsT ty EnT i0 Tryz.underlying53 hi g o l.length cap ⟨b, 0, none⟩ 1 1 (eenc e) (by rw [hz1]; rfl) hnews (eenc_one e) hroom
        (fun j hj => by rw [hle] at hj; rw [hz1, cell_of_block hg, Array.getElem?_eq_getElem (by omega)]; rfl) (fun j hj => by rw [unfrozen_of_block hg])
      refine ⟨_, _, _, hr, ?_, grown_setCells g _ _ w, fun k hk => Or.inl hk⟩
      refine Or.inr ⟨g, o, cap, _, by simp, block_setCells _ _ _ _ hg, by simp; omega, h2, by rw [setL_size]; exact h3, fun j u hj => ?_⟩
      rw [rc_append, rc_one, List.getElem?_append, rc_length eenc_len] at hj
      rw [setL_at, hz1, hle]
      split at hj
      · rename_i hjl
        rw [if_neg (by omega)]; exact h4 j u hj
      · rename_i hjl
        have : j - l.length * 2 < 2 := (List.getElem?_eq_some_iff.1 hj).1
        rw [if_pos (by omega), show o + j - (o + l.length * 2) = j - l.length * 2 by omega]; exact hj
    · obtain ⟨v', w', hr, h5, h6⟩ := run_append_arg_grows (P := Tryz.prog) w EnsT ty EnT i0 noE 2 24 Tryz.underlying53 hi hz0 hz1 hz2 rfl (by decide) ⟨g, o, none⟩ l.length cap (rc eenc l) (rc_length eenc_len l)
        (fun j u hj => by rw [Go.WideShapes.add_plain, cell_of_block hg]; exact h4 j u hj) ⟨b, 0, none⟩ 1 1 (eenc e) hle hnews (by omega) (by unfold maxLen; omega) (by omega)
      obtain ⟨av, cv, rfl⟩ := own_slice h5
      refine ⟨av, cv, w', hr, ER.of_own (by rw [rc_append, rc_one]; exact h5), ⟨h6.os, h6.tape, h6.output, h6.size, fun k hk _ => h6.block k hk (by simp)⟩, fun k hk => ?_⟩
      rw [blk_own h5] at hk
      exact Or.inr (h5.lt k hk).1
/-- .. at a step of a region that draws its order -/
theorem step_er {w : World} {ops : Array Oper} {op : Oper} {a : Act} {K : Act → World → Prop} {Q : Exit → Act → World → Prop} {E : Prop} (hgd : op.guard = none) (s x : Operand)
    (ho : op.op = .call { callee := .builtin .append, args := #[s, x], argTypes := #[EnsT, EnsT] }) (v : Value) (l : List En) (hs : a.eval s = v) (her : ER w v l) (b : Nat) (e : En) (hx : a.eval x = .slice (some ⟨b, 0, none⟩) 1 1)
    (hb : w.heap[b]? = some (.cells (eenc e).toArray EnT (0, 0))) (hl : l.length ≤ 1048576)
    (h : ∀ ad cap w', ER w' (.slice ad (l.length + 1) cap) (l ++ [e]) → w.grownBy w' (blk v) → (∀ g, blk (.slice ad (l.length + 1) cap) = some g → blk v = some g ∨ w.heap.size ≤ g) → K (a.put op.dst (.slice ad (l.length + 1) cap)) w') :
    if Region.wanted op (yielded ops a.tmps) = true then Oper.wp Tryz.prog op a w K Q else E := by
  have hw : Region.wanted op (yielded ops a.tmps) = true := by simp [Region.wanted, hgd]
  rw [if_pos hw]
  obtain ⟨ad, cap, w', hr, h1, h2, h3⟩ := her.push e b hb hl op.type
  unfold Oper.wp execOp
  simp only [ho, resolve, invoke, builtin, Sem.run_bind, Sem.run_pure, Result.andThen_ok, List.map_toArray, List.map_cons, List.map_nil, hs, hx, hr]
  exact h ad cap w' h1 h2 h3

/-- a log lies there -/
structure LH (w : World) (bl : Nat) (S : Lo) (v : Value) : Prop where
  box : w.heap[bl]? = some (.cells #[.int .i64 S.b, .int .i64 S.bt, v] LogT (0, 0))
  row : ER w v S.es
def lb (w : World) (bl : Nat) : Option Nat := (w.cell? ⟨bl, 2, none⟩).bind blk
/-- what is a log's own -/
def own (w : World) (bl : Nat) : Nat → Prop := fun k => k = bl ∨ lb w bl = some k
/-- nothing but one log has turned -/
structure Tn (bl : Nat) (w w' : World) : Prop where
  only : Only (own w bl) w w'
  new : ∀ k, lb w' bl = some k → lb w bl = some k ∨ w.heap.size ≤ k

section
variable {w w' : World} {bl : Nat} {S : Lo} {v : Value}
theorem LH.lt (h : LH w bl S v) : bl < w.heap.size := (Array.getElem?_eq_some_iff.1 h.box).1
theorem LH.c0 (h : LH w bl S v) : w.cell? ⟨bl, 0, none⟩ = some (.int .i64 S.b) := by rw [cell_of_block h.box]; rfl
theorem LH.c1 (h : LH w bl S v) : w.cell? ⟨bl, 1, none⟩ = some (.int .i64 S.bt) := by rw [cell_of_block h.box]; rfl
theorem LH.c2 (h : LH w bl S v) : w.cell? ⟨bl, 2, none⟩ = some v := by rw [cell_of_block h.box]; rfl
theorem LH.fz (h : LH w bl S v) (j : Nat) : w.frozen? ⟨bl, j, none⟩ = false := by rw [unfrozen_of_block h.box]
theorem LH.lbk (h : LH w bl S v) : lb w bl = blk v := by rw [lb, h.c2]; rfl
theorem LH.ne (h : LH w bl S v) {g : Nat} (hg : blk v = some g) : g ≠ bl := h.row.ne h.box (by decide) hg
theorem LH.stay (h : LH w bl S v) (hs : ∀ k, own w bl k → w'.heap[k]? = w.heap[k]?) : LH w' bl S v :=
  ⟨(hs bl (Or.inl rfl)).trans h.box, h.row.stay fun g hg => hs g (Or.inr (by rw [h.lbk]; exact hg))⟩
theorem LH.ownlt (h : LH w bl S v) {k : Nat} (hk : own w bl k) : k < w.heap.size := by
  rcases hk with rfl | hk
  · exact h.lt
  · rw [h.lbk] at hk; exact h.row.lt hk
theorem LH.below (h : LH w bl S v) (hb : Below w.heap.size w w') : LH w' bl S v := h.stay fun k hk => hb.block k (h.ownlt hk)
theorem lb_same (h : w'.heap[bl]? = w.heap[bl]?) : lb w' bl = lb w bl := by rw [lb, lb, World.cell?_of_block (a := ⟨bl, 2, none⟩) h]
theorem own_same (h : w'.heap[bl]? = w.heap[bl]?) : own w' bl = own w bl := by funext k; rw [own, own, lb_same h]
theorem Tn.refl (bl : Nat) (w : World) : Tn bl w w := ⟨Only.refl _ _, fun _ h => Or.inl h⟩
theorem Tn.trans {a b c : World} (h : Tn bl a b) (k : Tn bl b c) : Tn bl a c := by
  refine ⟨⟨k.only.os.trans h.only.os, k.only.tape.trans h.only.tape, k.only.output.trans h.only.output, Nat.le_trans h.only.size k.only.size, fun i hi hn => ?_⟩, fun i hi => ?_⟩
  · refine (k.only.block i (Nat.lt_of_lt_of_le hi h.only.size) ?_).trans (h.only.block i hi hn)
    rintro (rfl | e)
    · exact hn (Or.inl rfl)
    · rcases h.new i e with e | e
      · exact hn (Or.inr e)
      · omega
  · rcases k.new i hi with e | e
    · exact h.new i e
    · exact Or.inr (Nat.le_trans h.only.size e)
theorem LH.tn (h : LH w bl S v) (hb : Below w.heap.size w w') : Tn bl w w' := ⟨Only.of_below hb, fun k hk => Or.inl (by rw [← lb_same (hb.block bl h.lt)]; exact hk)⟩
/-- another log stays -/
theorem LH.turn {b2 : Nat} (h : LH w b2 S v) (hd : ∀ k, own w bl k → ¬ own w b2 k) (ht : Tn bl w w') : LH w' b2 S v ∧ ∀ k, own w' bl k → ¬ own w' b2 k := by
  have hs : ∀ k, own w b2 k → w'.heap[k]? = w.heap[k]? := fun k hk => ht.only.block k (h.ownlt hk) fun e => hd k e hk
  refine ⟨h.stay hs, fun k hk h2 => ?_⟩
  rw [own_same (hs b2 (Or.inl rfl))] at h2
  rcases hk with rfl | e
  · exact hd _ (Or.inl rfl) h2
  · rcases ht.new k e with e | e
    · exact hd k (Or.inr e) h2
    · have := h.ownlt h2; omega
/-- its entries are others -/
theorem LH.set (h : LH w bl S v) {w1 : World} {v' : Value} {l : List En} (hr : ER w1 v' l) (hg : w.grownBy w1 (blk v)) (hat : ∀ g, blk v' = some g → blk v = some g ∨ w.heap.size ≤ g) :
    LH (w1.setCell ⟨bl, 2, none⟩ v') bl ⟨S.b, S.bt, l⟩ v' ∧ Tn bl w (w1.setCell ⟨bl, 2, none⟩ v') := by
  have hb1 : w1.heap[bl]? = some (.cells #[.int .i64 S.b, .int .i64 S.bt, v] LogT (0, 0)) := (hg.block bl h.lt fun e => h.ne e.symm rfl).trans h.box
  have hne : ∀ g, blk v' = some g → g ≠ bl := fun g hv => hr.ne hb1 (by decide) hv
  have hbox := block_setCell (i := 2) hb1 v'
  have hL : LH (w1.setCell ⟨bl, 2, none⟩ v') bl ⟨S.b, S.bt, l⟩ v' := ⟨hbox, hr.stay fun g hv => Below.heap_setCell w1 ⟨bl, 2, none⟩ v' g (hne g hv)⟩
  refine ⟨hL, ⟨(Only.of_grown hg fun k e => Or.inr (by rw [h.lbk]; exact e)).trans (Only.of_set w1 (Or.inl rfl) _), fun k hk => ?_⟩⟩
  rw [hL.lbk] at hk
  rw [h.lbk]
  exact hat k hk
end

end Go.Proofs.YtmpahgklcabihaaGreat.Rl
