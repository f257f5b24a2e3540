/- Rows of elements of some cells each: written over, cut, cleared. append of elements that lie somewhere to a row. append of elements that lie somewhere, at a step of a region that draws its order. -/
import Derived.Test.YtcmdglmcmifflaaDoorGCore
import Derived.Deep.RegionLaw
import Derived.Shelf.RegionOpenPlain
import Derived.Shelf.Abstract
import Derived.Laws.IdiomCopy
namespace Go.Proofs.YtcmdglmcmifflaaDoor.Gk
open Go.RowKit Go.Joins

/-- cells written over from a place on -/
def setL (cs : Array Value) : Nat → List Value → Array Value
  | _, [] => cs
  | o, v :: r => setL (cs.setIfInBounds o v) (o + 1) r
theorem setL_size : ∀ (vs : List Value) (cs : Array Value) (o : Nat), (setL cs o vs).size = cs.size
  | [], _, _ => rfl
  | v :: r, cs, o => by rw [setL, setL_size r]; simp
theorem setL_list : ∀ (vs : List Value) (cs : Array Value) (o : Nat), o + vs.length ≤ cs.size → (setL cs o vs).toList = cs.toList.take o ++ vs ++ cs.toList.drop (o + vs.length)
  | [], cs, o, _ => by simp [setL]
  | v :: r, cs, o, h => by
    have ho : o < cs.toList.length := by simp at h ⊢; omega
    rw [setL, setL_list r _ _ (by simp at h ⊢; omega), Array.toList_setIfInBounds]
    rw [List.take_set, List.drop_set_of_lt (by omega)]
    have e : (cs.toList.take (o + 1)).set o v = cs.toList.take o ++ [v] := by
      rw [List.take_succ_eq_append_getElem ho, List.set_append_right _ _ (by rw [List.length_take]; omega), List.length_take, Nat.min_eq_left (Nat.le_of_lt ho), Nat.sub_self]
      rfl
    rw [e]
    simp only [List.length_cons, List.append_assoc, List.cons_append]
    rw [show o + 1 + r.length = o + (r.length + 1) by omega]
    simp
theorem block_setCells {g : Nat} {t : TypeId} {fr : Nat × Nat} : ∀ (vs : List Value) (o : Nat) (w : World) (cs : Array Value), w.heap[g]? = some (.cells cs t fr) → (w.setCells g o vs).heap[g]? = some (.cells (setL cs o vs) t fr)
  | [], _, _, _, h => h
  | v :: r, o, _, _, h => block_setCells r (o + 1) _ _ (block_setCell h v)
theorem grown_setCells (g : Nat) : ∀ (vs : List Value) (o : Nat) (w : World), w.grownBy (w.setCells g o vs) (some g)
  | [], _, w => grown_refl w _
  | v :: r, o, w => grown_trans (grown_set w g o v) (grown_setCells g r (o + 1) _)

section
variable {α : Type} {enc : α → List Value} {k : Nat}
/-- a row's first elements, and others behind them -/
theorem Row.over {w : World} {e : Nat} {g n cap : Nat} {l : List α} (h : Row w enc e k (.slice (some ⟨g, 0, none⟩) n cap) l) (hk : ∀ x, (enc x).length = k) (i : Nat) (hi : i ≤ l.length) (m : List α) (hm : i + m.length ≤ cap) : Row (w.setCells g (i * k) (rc enc m)) enc e k (.slice (some ⟨g, 0, none⟩) (i + m.length) cap) (l.take i ++ m) := by
  rcases h.2 with ⟨e1, h0⟩ | ⟨g, cap', cur, e1, hb, hg, h1, h2, h3, h4⟩
  · cases e1
  · cases e1
    have hli : (l.take i ++ m).length = i + m.length := by rw [List.length_append, List.length_take, Nat.min_eq_left hi]
    have hcl : cur.toList.length = cap * k := (Array.length_toList (xs := cur)).trans h3
    have hik : i * k ≤ l.length * k := Nat.mul_le_mul_right k hi
    have hmk : i * k + m.length * k ≤ cap * k := by rw [← Nat.add_mul]; exact Nat.mul_le_mul_right k hm
    refine ⟨rc_length hk _, Or.inr ⟨g, cap, _, by rw [hli], hb, block_setCells _ _ _ _ hg, by omega, h2, by rw [setL_size, h3], ?_⟩⟩
    rw [setL_list _ _ _ (by rw [rc_length hk, h3]; exact hmk), hli, rc_append, List.take_append_of_le_length (by rw [List.length_append, List.length_take, rc_length hk, hcl, Nat.min_eq_left (by omega), Nat.add_mul]; exact Nat.le_refl _)]
    rw [← rc_take hk l i hi, ← h4, List.take_take, Nat.min_eq_left hik]
    exact List.take_of_length_le (by rw [List.length_append, List.length_take, rc_length hk, hcl, Nat.min_eq_left (by omega), Nat.add_mul]; exact Nat.le_refl _)
/-- one element is another one -/
theorem Row.set {w : World} {e : Nat} {g n cap : Nat} {l : List α} (h : Row w enc e k (.slice (some ⟨g, 0, none⟩) n cap) l) (hk : ∀ x, (enc x).length = k) (i : Nat) (hi : i < l.length) (x : α) : Row (w.setCells g (i * k) (enc x)) enc e k (.slice (some ⟨g, 0, none⟩) n cap) (l.set i x) := by
  rcases h.2 with ⟨e1, h0⟩ | ⟨g, cap', cur, e1, hb, hg, h1, h2, h3, h4⟩
  · cases e1
  · cases e1
    have hcl : cur.toList.length = cap * k := (Array.length_toList (xs := cur)).trans h3
    have hik : (i + 1) * k ≤ l.length * k := Nat.mul_le_mul_right k hi
    have hck : l.length * k ≤ cap * k := Nat.mul_le_mul_right k h1
    have hi1 : (i + 1) * k = i * k + k := by rw [Nat.add_mul, Nat.one_mul]
    have hset : l.set i x = l.take i ++ [x] ++ l.drop (i + 1) := by
      rw [List.set_eq_take_append_cons_drop, if_pos hi]; simp
    refine ⟨rc_length hk _, Or.inr ⟨g, cap, _, by rw [List.length_set], hb, block_setCells _ _ _ _ hg, by rw [List.length_set]; exact h1, h2, by rw [setL_size, h3], ?_⟩⟩
    rw [setL_list _ _ _ (by rw [hk, h3]; omega), List.length_set, hk, hset, rc_append, rc_append, rc_one, ← rc_take hk l i (by omega), ← rc_drop hk l (i + 1) hi, hi1]
    rw [← h4, List.take_take, Nat.min_eq_left (by omega), List.drop_take]
    rw [List.take_append, List.take_of_length_le (by rw [List.length_append, List.length_take, hk, hcl]; omega)]
    congr 1
    rw [List.length_append, List.length_take, hk, hcl, Nat.min_eq_left (by omega)]
/-- what stands behind a row's elements is none of it -/
theorem Row.tail {w : World} {e : Nat} {g n cap : Nat} {l : List α} (h : Row w enc e k (.slice (some ⟨g, 0, none⟩) n cap) l) (o : Nat) (vs : List Value) (ho : l.length * k ≤ o) (hv : o + vs.length ≤ cap * k) : Row (w.setCells g o vs) enc e k (.slice (some ⟨g, 0, none⟩) n cap) l := by
  rcases h.2 with ⟨e1, h0⟩ | ⟨g, cap', cur, e1, hb, hg, h1, h2, h3, h4⟩
  · cases e1
  · cases e1
    have hcl : cur.toList.length = cap * k := (Array.length_toList (xs := cur)).trans h3
    refine ⟨h.1, Or.inr ⟨g, cap, _, rfl, hb, block_setCells _ _ _ _ hg, h1, h2, by rw [setL_size, h3], ?_⟩⟩
    rw [setL_list _ _ _ (by rw [h3]; exact hv), List.append_assoc, List.take_append_of_le_length (by rw [List.length_take, hcl]; omega), List.take_take, Nat.min_eq_left ho]
    exact h4
end

theorem zeroCells_one {z : Array Value} (h : ∀ u ∈ z.toList, u.oneCell' = true) (n : Nat) : ∀ u ∈ (Builtin.zeroCells z n).toList, u.oneCell' = true := by
  intro u hu
  rcases Nat.eq_zero_or_pos z.size with h0 | h0
  · simp [Builtin.zeroCells, h0] at hu
  · simp only [Builtin.zeroCells, Array.toList_map, List.mem_map] at hu
    obtain ⟨j, _, rfl⟩ := hu
    have hj : j % z.size < z.size := Nat.mod_lt _ h0
    rw [getElem!_pos z _ hj]
    exact h _ (Array.getElem_mem_toList hj)
/-- clear of a row's elements from a place on -/
theorem run_clear_row {P : Program} (w : World) (t e ty : TypeId) (z : Value) (ht : P.underlying t = some (.slice e)) (hv : ∀ w, (zeroValue e).run P w = .ok z w) (h1 : ∀ u ∈ z.cells.toList, u.oneCell' = true) (b o n c : Nat) (hn : 0 < n)
    (hc : ∀ j, j < n * z.cells.size → (w.cell? ⟨b, o + j, none⟩).isSome = true ∧ w.frozen? ⟨b, o + j, none⟩ = false) :
    (Builtin.clear_ #[t] ty #[.slice (some ⟨b, o, none⟩) n c]).run P w = .ok (.tuple #[]) (w.setCells b o (Builtin.zeroCells z.cells n).toList) := by
  have hl : (Builtin.zeroCells z.cells n).toList.length = n * z.cells.size := by rw [Array.length_toList, size_zeroCells]
  have hst := run_storeCells_cells (P := P) b o (Builtin.zeroCells z.cells n).toList 0 w (fun j hj => by rw [hl] at hj; exact (hc j hj).1) (fun j hj => by rw [hl] at hj; exact (hc j hj).2) (zeroCells_one h1 n)
  simp only [Nat.add_zero] at hst
  obtain ⟨m, rfl⟩ : ∃ m, n = m + 1 := ⟨n - 1, by omega⟩
  simp [Builtin.clear_, run_underlying ht, hv, hst]

end Go.Proofs.YtcmdglmcmifflaaDoor.Gk

namespace Go.Proofs.YtcmdglmcmifflaaDoor.Gk
open Go.RowKit Go.Joins

theorem wpList_append_row {α : Type} {enc : α → List Value} {k : Nat} {w : World} {ops : Array Oper} {rest : List Oper} {o : Oper} {a : Act} {Q : Exit → Act → World → Prop} (hgd : o.guard = none) (s x : Operand) (t : TypeId)
    (ho : o.op = .call { callee := .builtin .append, args := #[s, x], argTypes := #[t, t] })
    (e : TypeId) (z : Value) (bytes : Nat) (ht : Tryd.prog.underlying t = some (.slice e)) (hinf : (Tryd.prog.info? e).map (fun i => (i.zero, i.size, i.bytes)) = some (some z, k, bytes)) (hzs : z.cells.size = k) (hk0 : 0 < k)
    (hk : ∀ x, (enc x).length = k) (h1 : ∀ x, ∀ u ∈ enc x, u.oneCell' = true)
    (B : Nat) (v : Value) (l : List α) (hs : a.eval s = v) (hown : w.ownsRow B e k v l.length (rc enc l)) (ad : Option Addr) (fs : List α) (n cap : Nat) (hx : a.eval x = .slice ad n cap) (hn : n = fs.length)
    (hl : Lies w enc ad fs) (hnil : ad = none → cap = 0) (hbytes : (l.length + fs.length) * bytes ≤ 140737488355328) (hlen : l.length + fs.length ≤ 140737488355328) (hB : B ≤ w.heap.size)
    (h : ∀ v' w', w'.ownsRow B e k v' (l ++ fs).length (rc enc (l ++ fs)) → w.grownBy w' v.ownBlock → (∀ g, v'.ownBlock = some g → v.ownBlock = some g ∨ w.heap.size ≤ g) → wpList Tryd.prog ops Q rest (a.put o.dst v') w') : wpList Tryd.prog ops Q (o :: rest) a w := by
  obtain ⟨i0, hi, hz0, hz1, hz2⟩ := info_parts hinf
  subst hn
  cases ad with
  | none =>
    have hfs : fs = [] := by
      rcases hl with h | ⟨_, _, h, _⟩
      · exact h
      · cases h
    have hc := hnil rfl
    subst hfs hc
    refine wpList_append_own_none hgd s x t ho B e i0 k ht hi v _ _ hs hown hx ?_
    refine h v w ?_ (World.grownBy.refl _ _) fun g hg => Or.inl hg
    rw [List.append_nil]; exact hown
  | some ad =>
    refine wpList_append_own_at w hgd s x t ho B e i0 z k bytes ht hi hz0 hz1 hz2 hzs hk0 v _ _ hs hown ad fs.length cap (rc enc fs) hx (rc_length hk fs) ?_ (rc_oneCell h1 fs) (by unfold maxLen; omega) hbytes hB ?_
    · rcases hl with rfl | ⟨b, off, e, _, hl⟩
      · intro j u hj; simp [rc] at hj
      · cases e
        intro j u hj
        rw [Go.WideShapes.add_plain]
        exact hl j u hj
    · intro v' w' h1 h2 _ h4
      refine h v' w' ?_ h2 fun g hg => ?_
      · rw [rc_append, List.length_append]; exact h1
      · rcases h4 with h4 | h4
        · exact Or.inl (by rw [← h4]; exact hg)
        · rw [h4] at hg; cases hg; exact Or.inr (Nat.le_refl _)

/-- one element more, at a plain region's list -/
theorem wpList_push {α : Type} {enc : α → List Value} {k : Nat} {w : World} {ops : Array Oper} {rest : List Oper} {o : Oper} {a : Act} {Q : Exit → Act → World → Prop} (hgd : o.guard = none) (s x : Operand) (t : TypeId)
    (ho : o.op = .call { callee := .builtin .append, args := #[s, x], argTypes := #[t, t] })
    (e : TypeId) (z : Value) (bytes : Nat) (ht : Tryd.prog.underlying t = some (.slice e)) (hinf : (Tryd.prog.info? e).map (fun i => (i.zero, i.size, i.bytes)) = some (some z, k, bytes)) (hzs : z.cells.size = k) (hk0 : 0 < k)
    (hk : ∀ x, (enc x).length = k) (h1 : ∀ x, ∀ u ∈ enc x, u.oneCell' = true)
    (B : Nat) (v : Value) (l : List α) (hs : a.eval s = v) (hown : w.ownsRow B e k v l.length (rc enc l)) (b : Nat) (y : α) (hx : a.eval x = .slice (some ⟨b, 0, none⟩) 1 1) (hb : w.heap[b]? = some (.cells (enc y).toArray e (0, 0))) (hbytes : (l.length + 1) * bytes ≤ 140737488355328) (hlen : l.length + 1 ≤ 140737488355328) (hB : B ≤ w.heap.size)
    (h : ∀ v' w', w'.ownsRow B e k v' (l ++ [y]).length (rc enc (l ++ [y])) → w.grownBy w' v.ownBlock → (∀ g, v'.ownBlock = some g → v.ownBlock = some g ∨ w.heap.size ≤ g) → wpList Tryd.prog ops Q rest (a.put o.dst v') w') : wpList Tryd.prog ops Q (o :: rest) a w :=
  wpList_append_row hgd s x t ho e z bytes ht hinf hzs hk0 hk h1 B v l hs hown (some ⟨b, 0, none⟩) [y] 1 1 hx rfl (Or.inr ⟨b, 0, rfl, (Array.getElem?_eq_some_iff.1 hb).1, fun j u hj => by rw [rc_one] at hj; rw [Nat.zero_add, cell_of_block hb]; simpa using hj⟩) (fun e => by cases e) hbytes hlen hB h

end Go.Proofs.YtcmdglmcmifflaaDoor.Gk

namespace Go.Proofs.YtcmdglmcmifflaaDoor.Gk
open Go.RowKit Go.Joins

/-- append of elements that lie somewhere, at a step of a region that draws its order -/
theorem step_append_row {α : Type} {enc : α → List Value} {k : Nat} {w : World} {ops : Array Oper} {o : Oper} {a : Act} {K : Act → World → Prop} {Q : Exit → Act → World → Prop} {E : Prop} (hgd : o.guard = none) (s x : Operand) (t : TypeId)
    (ho : o.op = .call { callee := .builtin .append, args := #[s, x], argTypes := #[t, t] })
    (e : TypeId) (z : Value) (bytes : Nat) (ht : Tryd.prog.underlying t = some (.slice e)) (hinf : (Tryd.prog.info? e).map (fun i => (i.zero, i.size, i.bytes)) = some (some z, k, bytes)) (hzs : z.cells.size = k) (hk0 : 0 < k)
    (hk : ∀ x, (enc x).length = k) (h1 : ∀ x, ∀ u ∈ enc x, u.oneCell' = true)
    (v : Value) (l : List α) (hs : a.eval s = v) (hown : Row w enc e k v l) (ad : Option Addr) (fs : List α) (n cap : Nat) (hx : a.eval x = .slice ad n cap) (hn : n = fs.length)
    (hl : Lies w enc ad fs) (hnil : ad = none → cap = 0) (hbytes : (l.length + fs.length) * bytes ≤ 140737488355328) (hlen : l.length + fs.length ≤ 140737488355328)
    (h : ∀ ad' cap' w', Row w' enc e k (.slice ad' (l.length + fs.length) cap') (l ++ fs) → w.grownBy w' v.ownBlock → (∀ g, (Value.slice ad' (l.length + fs.length) cap').ownBlock = some g → v.ownBlock = some g ∨ w.heap.size ≤ g) → K (a.put o.dst (.slice ad' (l.length + fs.length) cap')) w') :
    if Region.wanted o (yielded ops a.tmps) = true then Oper.wp Tryd.prog o a w K Q else E := by
  have hw : Region.wanted o (yielded ops a.tmps) = true := by simp [Region.wanted, hgd]
  rw [if_pos hw]
  obtain ⟨i0, hi, hz0, hz1, hz2⟩ := info_parts hinf
  subst hn
  cases ad with
  | none =>
    have hfs : fs = [] := by
      rcases hl with h | ⟨_, _, h, _⟩
      · exact h
      · cases h
    have hc := hnil rfl
    subst hfs hc
    have hrun := run_append_owned_none (P := Tryd.prog) (w := w) 0 t o.type e i0 k ht hi v _ _ hown
    obtain ⟨av, cv, rfl⟩ := hown.slice
    unfold Oper.wp execOp
    simp only [ho, resolve, invoke, builtin, Sem.run_bind, Sem.run_pure, Result.andThen_ok, List.map_toArray, List.map_cons, List.map_nil, hs, hx, List.length_nil, hrun]
    exact h av cv w (by rw [List.append_nil]; exact hown) (World.grownBy.refl _ _) fun g hg => Or.inl hg
  | some ad =>
    obtain ⟨v', w', hr, h2, h3, _, h5⟩ := run_append_own_at (P := Tryd.prog) w 0 t o.type e i0 z k bytes ht hi hz0 hz1 hz2 hzs hk0 v _ _ hown ad fs.length cap (rc enc fs) (rc_length hk fs) (by
      rcases hl with rfl | ⟨b, off, e, _, hl⟩
      · intro j u hj; simp [rc] at hj
      · cases e
        intro j u hj
        rw [Go.WideShapes.add_plain]
        exact hl j u hj) (rc_oneCell h1 fs) (by unfold maxLen; omega) hbytes (Nat.zero_le _)
    obtain ⟨av, cv, rfl⟩ := own_slice h2
    unfold Oper.wp execOp
    simp only [ho, resolve, invoke, builtin, Sem.run_bind, Sem.run_pure, Result.andThen_ok, List.map_toArray, List.map_cons, List.map_nil, hs, hx, hr]
    refine h av cv w' ?_ h3 fun g hg => ?_
    · show w'.ownsRow 0 e k _ (l ++ fs).length _
      rw [rc_append, List.length_append]; exact h2
    · rcases h5 with h5 | h5
      · exact Or.inl (by rw [← h5]; exact hg)
      · rw [h5] at hg; cases hg; exact Or.inr (Nat.le_refl _)

/-- .. to a new row -/
theorem step_fill {α : Type} {enc : α → List Value} {k : Nat} {w : World} {ops : Array Oper} {o : Oper} {a : Act} {K : Act → World → Prop} {Q : Exit → Act → World → Prop} {E : Prop} (hgd : o.guard = none) (s x : Operand) (t : TypeId)
    (ho : o.op = .call { callee := .builtin .append, args := #[s, x], argTypes := #[t, t] })
    (e : TypeId) (z : Value) (bytes : Nat) (ht : Tryd.prog.underlying t = some (.slice e)) (hinf : (Tryd.prog.info? e).map (fun i => (i.zero, i.size, i.bytes)) = some (some z, k, bytes)) (hzs : z.cells.size = k) (hk0 : 0 < k)
    (hk : ∀ x, (enc x).length = k) (h1 : ∀ x, ∀ u ∈ enc x, u.oneCell' = true)
    (v : Value) (hs : a.eval s = v) (hown : Row w enc e k v ([] : List α)) (ad : Option Addr) (fs : List α) (n cap : Nat) (hx : a.eval x = .slice ad n cap) (hn : n = fs.length)
    (hl : Lies w enc ad fs) (hnil : ad = none → cap = 0) (hbytes : fs.length * bytes ≤ 140737488355328) (hlen : fs.length ≤ 140737488355328)
    (h : ∀ ad' cap' w', Row w' enc e k (.slice ad' fs.length cap') fs → w.grownBy w' v.ownBlock → (∀ g, (Value.slice ad' fs.length cap').ownBlock = some g → v.ownBlock = some g ∨ w.heap.size ≤ g) → K (a.put o.dst (.slice ad' fs.length cap')) w') :
    if Region.wanted o (yielded ops a.tmps) = true then Oper.wp Tryd.prog o a w K Q else E := by
  refine step_append_row hgd s x t ho e z bytes ht hinf hzs hk0 hk h1 v [] hs hown ad fs n cap hx hn hl hnil (by simpa using hbytes) (by simpa using hlen) ?_
  intro ad' cap' w' hr hg hat
  simp only [List.length_nil, Nat.zero_add, List.nil_append] at hr hat ⊢
  exact h ad' cap' w' hr hg hat

end Go.Proofs.YtcmdglmcmifflaaDoor.Gk
