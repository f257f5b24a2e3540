/- append of elements that lie somewhere to a row. -/
import Derived.Test.YthdempdiibjabaaGRow
namespace Go.Proofs.Ythdempdiibjabaa.Gk
open Go.RowKit Go.Joins

theorem wpList_append_row {α : Type} {enc : α → List Value} {k : Nat} {w : World} {ops : Array Oper} {rest : List Oper} {o : Oper} {a : Act} {Q : Exit → Act → World → Prop} (hgd : o.guard = none) (s x : Operand) (t : TypeId)
    (ho : o.op = .call { callee := .builtin .append, args := #[s, x], argTypes := #[t, t] })
    (e : TypeId) (z : Value) (bytes : Nat) (ht : Try.prog.underlying t = some (.slice e)) (hinf : (Try.prog.info? e).map (fun i => (i.zero, i.size, i.bytes)) = some (some z, k, bytes)) (hzs : z.cells.size = k) (hk0 : 0 < k)
    (hk : ∀ x, (enc x).length = k) (h1 : ∀ x, ∀ u ∈ enc x, u.oneCell' = true)
    (B : Nat) (v : Value) (l : List α) (hs : a.eval s = v) (hown : w.ownsRow B e k v l.length (rc enc l)) (ad : Option Addr) (fs : List α) (n cap : Nat) (hx : a.eval x = .slice ad n cap) (hn : n = fs.length)
    (hl : Lies w enc ad fs) (hnil : ad = none → cap = 0) (hbytes : (l.length + fs.length) * bytes ≤ 140737488355328) (hlen : l.length + fs.length ≤ 140737488355328) (hB : B ≤ w.heap.size)
    (h : ∀ v' w', w'.ownsRow B e k v' (l ++ fs).length (rc enc (l ++ fs)) → w.grownBy w' v.ownBlock → (∀ g, v'.ownBlock = some g → v.ownBlock = some g ∨ w.heap.size ≤ g) → wpList Try.prog ops Q rest (a.put o.dst v') w') : wpList Try.prog ops Q (o :: rest) a w := by
  obtain ⟨i0, hi, hz0, hz1, hz2⟩ := info_parts hinf
  subst hn
  cases ad with
  | none =>
    have hfs : fs = [] := by
      rcases hl with h | ⟨_, _, h, _⟩
      · exact h
      · cases h
    have hc := hnil rfl
    subst hfs hc
    refine wpList_append_own_none hgd s x t ho B e i0 k ht hi v _ _ hs hown hx ?_
    refine h v w ?_ (World.grownBy.refl _ _) fun g hg => Or.inl hg
    rw [List.append_nil]; exact hown
  | some ad =>
    refine wpList_append_own_at w hgd s x t ho B e i0 z k bytes ht hi hz0 hz1 hz2 hzs hk0 v _ _ hs hown ad fs.length cap (rc enc fs) hx (rc_length hk fs) ?_ (rc_oneCell h1 fs) (by unfold maxLen; omega) hbytes hB ?_
    · rcases hl with rfl | ⟨b, off, e, _, hl⟩
      · intro j u hj; simp [rc] at hj
      · cases e
        intro j u hj
        rw [Go.WideShapes.add_plain]
        exact hl j u hj
    · intro v' w' h1 h2 _ h4
      refine h v' w' ?_ h2 fun g hg => ?_
      · rw [rc_append, List.length_append]; exact h1
      · rcases h4 with h4 | h4
        · exact Or.inl (by rw [← h4]; exact hg)
        · rw [h4] at hg; cases hg; exact Or.inr (Nat.le_refl _)

/-- one element more, at a plain region's list -/
theorem wpList_push {α : Type} {enc : α → List Value} {k : Nat} {w : World} {ops : Array Oper} {rest : List Oper} {o : Oper} {a : Act} {Q : Exit → Act → World → Prop} (hgd : o.guard = none) (s x : Operand) (t : TypeId)
    (ho : o.op = .call { callee := .builtin .append, args := #[s, x], argTypes := #[t, t] })
    (e : TypeId) (z : Value) (bytes : Nat) (ht : Try.prog.underlying t = some (.slice e)) (hinf : (Try.prog.info? e).map (fun i => (i.zero, i.size, i.bytes)) = some (some z, k, bytes)) (hzs : z.cells.size = k) (hk0 : 0 < k)
    (hk : ∀ x, (enc x).length = k) (h1 : ∀ x, ∀ u ∈ enc x, u.oneCell' = true)
    (B : Nat) (v : Value) (l : List α) (hs : a.eval s = v) (hown : w.ownsRow B e k v l.length (rc enc l)) (b : Nat) (y : α) (hx : a.eval x = .slice (some ⟨b, 0, none⟩) 1 1) (hb : w.heap[b]? = some (.cells (enc y).toArray e (0, 0))) (hbytes : (l.length + 1) * bytes ≤ 140737488355328) (hlen : l.length + 1 ≤ 140737488355328) (hB : B ≤ w.heap.size)
    (h : ∀ v' w', w'.ownsRow B e k v' (l ++ [y]).length (rc enc (l ++ [y])) → w.grownBy w' v.ownBlock → (∀ g, v'.ownBlock = some g → v.ownBlock = some g ∨ w.heap.size ≤ g) → wpList Try.prog ops Q rest (a.put o.dst v') w') : wpList Try.prog ops Q (o :: rest) a w :=
  wpList_append_row hgd s x t ho e z bytes ht hinf hzs hk0 hk h1 B v l hs hown (some ⟨b, 0, none⟩) [y] 1 1 hx rfl (Or.inr ⟨b, 0, rfl, (Array.getElem?_eq_some_iff.1 hb).1, fun j u hj => by rw [rc_one] at hj; rw [Nat.zero_add, cell_of_block hb]; simpa using hj⟩) (fun e => by cases e) hbytes hlen hB h

end Go.Proofs.Ythdempdiibjabaa.Gk
