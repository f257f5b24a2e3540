/- append of elements that lie somewhere, at a step of a region that draws its order. -/
import Derived.Test.YthdempdiibjabaaGApp
namespace Go.Proofs.Ythdempdiibjabaa.Gk
open Go.RowKit Go.Joins

/-- append of elements that lie somewhere, at a step of a region that draws its order -/
theorem step_append_row {α : Type} {enc : α → List Value} {k : Nat} {w : World} {ops : Array Oper} {o : Oper} {a : Act} {K : Act → World → Prop} {Q : Exit → Act → World → Prop} {E : Prop} (hgd : o.guard = none) (s x : Operand) (t : TypeId)
    (ho : o.op = .call { callee := .builtin .append, args := #[s, x], argTypes := #[t, t] })
    (e : TypeId) (z : Value) (bytes : Nat) (ht : Try.prog.underlying t = some (.slice e)) (hinf : (Try.prog.info? e).map (fun i => (i.zero, i.size, i.bytes)) = some (some z, k, bytes)) (hzs : z.cells.size = k) (hk0 : 0 < k)
    (hk : ∀ x, (enc x).length = k) (h1 : ∀ x, ∀ u ∈ enc x, u.oneCell' = true)
    (v : Value) (l : List α) (hs : a.eval s = v) (hown : Row w enc e k v l) (ad : Option Addr) (fs : List α) (n cap : Nat) (hx : a.eval x = .slice ad n cap) (hn : n = fs.length)
    (hl : Lies w enc ad fs) (hnil : ad = none → cap = 0) (hbytes : (l.length + fs.length) * bytes ≤ 140737488355328) (hlen : l.length + fs.length ≤ 140737488355328)
    (h : ∀ ad' cap' w', Row w' enc e k (.slice ad' (l.length + fs.length) cap') (l ++ fs) → w.grownBy w' v.ownBlock → (∀ g, (Value.slice ad' (l.length + fs.length) cap').ownBlock = some g → v.ownBlock = some g ∨ w.heap.size ≤ g) → K (a.put o.dst (.slice ad' (l.length + fs.length) cap')) w') :
    if Region.wanted o (yielded ops a.tmps) = true then Oper.wp Try.prog o a w K Q else E := by
  have hw : Region.wanted o (yielded ops a.tmps) = true := by simp [Region.wanted, hgd]
  rw [if_pos hw]
  obtain ⟨i0, hi, hz0, hz1, hz2⟩ := info_parts hinf
  subst hn
  cases ad with
  | none =>
    have hfs : fs = [] := by
      rcases hl with h | ⟨_, _, h, _⟩
      · exact h
      · cases h
    have hc := hnil rfl
    subst hfs hc
    have hrun := run_append_owned_none (P := Try.prog) (w := w) 0 t o.type e i0 k ht hi v _ _ hown
    obtain ⟨av, cv, rfl⟩ := hown.slice
    unfold Oper.wp execOp
    simp only [ho, resolve, invoke, builtin, Sem.run_bind, Sem.run_pure, Result.andThen_ok, List.map_toArray, List.map_cons, List.map_nil, hs, hx, List.length_nil, hrun]
    exact h av cv w (by rw [List.append_nil]; exact hown) (World.grownBy.refl _ _) fun g hg => Or.inl hg
  | some ad =>
    obtain ⟨v', w', hr, h2, h3, _, h5⟩ := run_append_own_at (P := Try.prog) w 0 t o.type e i0 z k bytes ht hi hz0 hz1 hz2 hzs hk0 v _ _ hown ad fs.length cap (rc enc fs) (rc_length hk fs) (by
      rcases hl with rfl | ⟨b, off, e, _, hl⟩
      · intro j u hj; simp [rc] at hj
      · cases e
        intro j u hj
        rw [Go.WideShapes.add_plain]
        exact hl j u hj) (rc_oneCell h1 fs) (by unfold maxLen; omega) hbytes (Nat.zero_le _)
    obtain ⟨av, cv, rfl⟩ := own_slice h2
    unfold Oper.wp execOp
    simp only [ho, resolve, invoke, builtin, Sem.run_bind, Sem.run_pure, Result.andThen_ok, List.map_toArray, List.map_cons, List.map_nil, hs, hx, hr]
    refine h av cv w' ?_ h3 fun g hg => ?_
    · show w'.ownsRow 0 e k _ (l ++ fs).length _
      rw [rc_append, List.length_append]; exact h2
    · rcases h5 with h5 | h5
      · exact Or.inl (by rw [← h5]; exact hg)
      · rw [h5] at hg; cases hg; exact Or.inr (Nat.le_refl _)

/-- .. to a new row -/
theorem step_fill {α : Type} {enc : α → List Value} {k : Nat} {w : World} {ops : Array Oper} {o : Oper} {a : Act} {K : Act → World → Prop} {Q : Exit → Act → World → Prop} {E : Prop} (hgd : o.guard = none) (s x : Operand) (t : TypeId)
    (ho : o.op = .call { callee := .builtin .append, args := #[s, x], argTypes := #[t, t] })
    (e : TypeId) (z : Value) (bytes : Nat) (ht : Try.prog.underlying t = some (.slice e)) (hinf : (Try.prog.info? e).map (fun i => (i.zero, i.size, i.bytes)) = some (some z, k, bytes)) (hzs : z.cells.size = k) (hk0 : 0 < k)
    (hk : ∀ x, (enc x).length = k) (h1 : ∀ x, ∀ u ∈ enc x, u.oneCell' = true)
    (v : Value) (hs : a.eval s = v) (hown : Row w enc e k v ([] : List α)) (ad : Option Addr) (fs : List α) (n cap : Nat) (hx : a.eval x = .slice ad n cap) (hn : n = fs.length)
    (hl : Lies w enc ad fs) (hnil : ad = none → cap = 0) (hbytes : fs.length * bytes ≤ 140737488355328) (hlen : fs.length ≤ 140737488355328)
    (h : ∀ ad' cap' w', Row w' enc e k (.slice ad' fs.length cap') fs → w.grownBy w' v.ownBlock → (∀ g, (Value.slice ad' fs.length cap').ownBlock = some g → v.ownBlock = some g ∨ w.heap.size ≤ g) → K (a.put o.dst (.slice ad' fs.length cap')) w') :
    if Region.wanted o (yielded ops a.tmps) = true then Oper.wp Try.prog o a w K Q else E := by
  refine step_append_row hgd s x t ho e z bytes ht hinf hzs hk0 hk h1 v [] hs hown ad fs n cap hx hn hl hnil (by simpa using hbytes) (by simpa using hlen) ?_
  intro ad' cap' w' hr hg hat
  simp only [List.length_nil, Nat.zero_add, List.nil_append] at hr hat ⊢
  exact h ad' cap' w' hr hg hat

end Go.Proofs.Ythdempdiibjabaa.Gk
