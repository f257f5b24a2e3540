/- Segments in a slice that may begin within its block: read, written over, cut, appended to. -/
import Derived.Test.YtdlicndbdnfekaaGreatDoorGRow
namespace Go.Proofs.YtdlicndbdnfekaaGreatDoor.Wl
open Go.RowKit Go.Joins Go.Proofs.YtdlicndbdnfekaaGreatDoor.Gk

abbrev SegT : TypeId := 70
abbrev SegsT : TypeId := 57
abbrev Sm := Nat × Nat
abbrev segE (p : Sm) : List Value := [.int .i64 p.1, .int .i64 p.2]
theorem segE_len (p : Sm) : (segE p).length = 2 := rfl
theorem segE_one (p : Sm) : ∀ u ∈ segE p, u.oneCell' = true := by
  intro u hu; simp only [segE, List.mem_cons, List.not_mem_nil, or_false] at hu; rcases hu with rfl | rfl <;> rfl
theorem seg_info : (Tryz.prog.info? SegT).map (fun i => (i.zero, i.size, i.bytes)) = some (some (.agg #[.int .i64 0, .int .i64 0]), 2, 16) := by kernel_rfl
theorem segs_under : Tryz.prog.underlying SegsT = some (.slice SegT) := Tryz.underlying57

/-- in a block g, from the o-th on -/
structure SRc (w : World) (g o cap : Nat) (l : List Sm) : Prop where
  block : ∃ cur, w.heap[g]? = some (.cells cur SegT (0, 0)) ∧ cur.size = (o + cap) * 2 ∧ (cur.toList.drop (o * 2)).take (l.length * 2) = rc segE l
  len : l.length ≤ cap
  most : cap ≤ maxLen
def SR (w : World) (v : Value) (l : List Sm) : Prop := (v = .slice none 0 0 ∧ l = []) ∨ ∃ g o cap, v = .slice (some ⟨g, o * 2, none⟩) l.length cap ∧ SRc w g o cap l
theorem SR.nil (w : World) : SR w (.slice none 0 0) [] := Or.inl ⟨rfl, rfl⟩
theorem SRc.stay {w w' : World} {g o cap : Nat} {l : List Sm} (h : SRc w g o cap l) (e : w'.heap[g]? = w.heap[g]?) : SRc w' g o cap l := by
  obtain ⟨cur, h1, h2⟩ := h.block
  exact ⟨⟨cur, e.trans h1, h2⟩, h.len, h.most⟩
theorem SR.stay {w w' : World} {v : Value} {l : List Sm} (h : SR w v l) (hs : ∀ g, v.ownBlock = some g → w'.heap[g]? = w.heap[g]?) : SR w' v l := by
  rcases h with h | ⟨g, o, cap, rfl, h⟩
  · exact Or.inl h
  · exact Or.inr ⟨g, o, cap, rfl, h.stay (hs g rfl)⟩
theorem SRc.lt {w : World} {g o cap : Nat} {l : List Sm} (h : SRc w g o cap l) : g < w.heap.size := by
  obtain ⟨cur, h1, _⟩ := h.block
  exact (Array.getElem?_eq_some_iff.1 h1).1
theorem SR.lt {w : World} {v : Value} {l : List Sm} (h : SR w v l) {g : Nat} (hg : v.ownBlock = some g) : g < w.heap.size := by
  rcases h with ⟨rfl, _⟩ | ⟨g', o, cap, rfl, h⟩
  · simp [Value.ownBlock] at hg
  · simp only [Value.ownBlock, Option.some.injEq] at hg; subst hg; exact h.lt
theorem SR.below {w w' : World} {v : Value} {l : List Sm} (h : SR w v l) (hb : Below w.heap.size w w') : SR w' v l := h.stay fun g hg => hb.block g (h.lt hg)
theorem SR.slice {w : World} {v : Value} {l : List Sm} (h : SR w v l) : ∃ a cap, v = .slice a l.length cap := by
  rcases h with ⟨rfl, rfl⟩ | ⟨g, o, cap, rfl, _⟩
  · exact ⟨none, 0, rfl⟩
  · exact ⟨_, _, rfl⟩
theorem SR.form {w : World} {v : Value} {l : List Sm} (h : SR w v l) (hl : l ≠ []) : ∃ g o cap, v = .slice (some ⟨g, o * 2, none⟩) l.length cap ∧ SRc w g o cap l := by
  rcases h with ⟨_, rfl⟩ | h
  · exact absurd rfl hl
  · exact h
/-- the i-th one's cells -/
theorem SRc.at {w : World} {g o cap : Nat} {l : List Sm} (h : SRc w g o cap l) (i : Nat) (hi : i < l.length) : w.cell? ⟨g, o * 2 + i * 2, none⟩ = some (.int .i64 l[i].1) ∧ w.cell? ⟨g, o * 2 + i * 2 + 1, none⟩ = some (.int .i64 l[i].2) ∧ w.frozen? ⟨g, o * 2 + i * 2, none⟩ = false ∧ w.frozen? ⟨g, o * 2 + i * 2 + 1, none⟩ = false := by
  obtain ⟨cur, h1, h2, h3⟩ := h.block
  have hc : ∀ j, j < 2 → w.cell? ⟨g, o * 2 + i * 2 + j, none⟩ = (segE l[i])[j]? := fun j hj => by
    have := rc_at segE_len l i hi j hj
    rw [← h3, List.getElem?_take, if_pos (by omega), List.getElem?_drop] at this
    rw [cell_of_block h1, ← this, Nat.add_assoc]; simp
  exact ⟨hc 0 (by omega), hc 1 (by omega), unfrozen_of_block h1 _, unfrozen_of_block h1 _⟩
/-- its bytes are others -/
theorem SRc.set {w : World} {g o cap : Nat} {l : List Sm} (h : SRc w g o cap l) (i : Nat) (hi : i < l.length) (m : Nat) : SRc (w.setCell ⟨g, o * 2 + i * 2 + 1, none⟩ (.int .i64 m)) g o cap (l.set i (l[i].1, m)) := by
  obtain ⟨cur, h1, h2, h3⟩ := h.block
  have hlen := h.len
  refine ⟨⟨cur.setIfInBounds (o * 2 + i * 2 + 1) (.int .i64 m), block_setCell h1 _, by rw [Array.size_setIfInBounds, h2], ?_⟩, by rw [List.length_set]; exact hlen, h.most⟩
  rw [List.length_set, Array.toList_setIfInBounds]
  apply List.ext_getElem?
  intro j
  by_cases hj : j < l.length * 2
  · have hj' : j / 2 < l.length := by omega
    have hd := Nat.div_add_mod j 2
    rw [List.getElem?_take, if_pos hj, List.getElem?_drop, List.getElem?_set]
    have e1 : (rc segE (l.set i (l[i].1, m)))[j]? = (segE ((l.set i (l[i].1, m))[j / 2]'(by rw [List.length_set]; exact hj')))[j % 2]? := by
      conv => lhs; rw [show j = j / 2 * 2 + j % 2 by omega]
      exact rc_at segE_len _ (j / 2) (by rw [List.length_set]; exact hj') (j % 2) (by omega)
    have e2 : (cur.toList)[o * 2 + j]? = (segE l[j / 2])[j % 2]? := by
      have := rc_at segE_len l (j / 2) hj' (j % 2) (by omega)
      rw [show j / 2 * 2 + j % 2 = j by omega, ← h3, List.getElem?_take, if_pos hj, List.getElem?_drop] at this
      exact this
    rw [e1, List.getElem_set]
    by_cases he : i = j / 2
    · subst he
      rw [if_pos rfl]
      by_cases hm : j % 2 = 1
      · rw [if_pos (by omega), if_pos (by rw [Array.length_toList, h2]; omega), hm]; rfl
      · have hm0 : j % 2 = 0 := by omega
        rw [if_neg (by omega), e2, hm0]; rfl
    · rw [if_neg he, if_neg (by omega), e2]
  · rw [List.getElem?_eq_none (by rw [List.length_take]; omega), List.getElem?_eq_none (by rw [rc_length segE_len, List.length_set]; omega)]
/-- without its first ones -/
theorem SRc.drop {w : World} {g o cap : Nat} {l : List Sm} (h : SRc w g o cap l) (i : Nat) (hi : i ≤ l.length) : SRc w g (o + i) (cap - i) (l.drop i) := by
  obtain ⟨cur, h1, h2, h3⟩ := h.block
  have hlen := h.len
  have hm := h.most
  refine ⟨⟨cur, h1, by rw [h2]; omega, ?_⟩, by rw [List.length_drop]; omega, by omega⟩
  rw [← rc_drop segE_len l i hi, ← h3, List.length_drop, List.drop_take, List.drop_drop]
  congr 1
  · omega
  · congr 1; omega
/-- its first ones -/
theorem SRc.take {w : World} {g o cap : Nat} {l : List Sm} (h : SRc w g o cap l) (i : Nat) (hi : i ≤ l.length) : SRc w g o cap (l.take i) := by
  obtain ⟨cur, h1, h2, h3⟩ := h.block
  have hlen := h.len
  refine ⟨⟨cur, h1, h2, ?_⟩, by rw [List.length_take]; omega, h.most⟩
  rw [← rc_take segE_len l i hi, ← h3, List.length_take, Nat.min_eq_left hi, List.take_take, Nat.min_eq_left (by omega)]

theorem zero_cells : (Value.agg #[.int .i64 0, .int .i64 0]).cells.size = 2 := rfl
/-- append within the room of a slice that begins anywhere in its block -/
theorem run_append_room_off {P : Program} (w : World) (t ty e : TypeId) (i : TypeInfo) (ht : P.underlying t = some (.slice e)) (hi : P.info? e = some i)
    (g off sLen sCap : Nat) (cur : Array Value) (hg : w.heap[g]? = some (.cells cur e (0, 0)))
    (a : Addr) (m c : Nat) (news : List Value) (hl : news.length = m * i.size) (hnews : ∀ j u, news[j]? = some u → w.cell? (a.add j) = some u) (h1 : ∀ u ∈ news, u.oneCell' = true)
    (hroom : sLen + m ≤ sCap) (hfit : off + sLen * i.size + news.length ≤ cur.size) :
    (Builtin.append_ #[t, t] ty #[.slice (some ⟨g, off, none⟩) sLen sCap, .slice (some a) m c]).run P w =
      .ok (.slice (some ⟨g, off, none⟩) (sLen + m) sCap) (w.setRow g (cur.toList.take (off + sLen * i.size) ++ news ++ cur.toList.drop (off + sLen * i.size + news.length)).toArray) := by
  have hf := run_firstCells_some (P := P) w i.size m a m c news hl hnews
  have hst := run_storeCells_at P g (off + sLen * i.size) e news 0 cur w hg (by simpa using hfit) h1
  simp only [Nat.add_zero] at hst
  simp [Builtin.append_, run_underlying ht, sizeOf, typeInfo, hi, Builtin.lenOf, hroom, hf, Addr.add_lit, hst]
/-- append of one segment -/
theorem run_push {w : World} {v : Value} {l : List Sm} (h : SR w v l) (x : Sm) (b : Nat) (hb : w.heap[b]? = some (.cells #[.int .i64 x.1, .int .i64 x.2] SegT (0, 0))) (hn : l.length ≤ 1000000) (ty : TypeId) :
    ∃ v' w', (Builtin.append_ #[SegsT, SegsT] ty #[v, .slice (some ⟨b, 0, none⟩) 1 1]).run Tryz.prog w = .ok v' w' ∧ SR w' v' (l ++ [x]) ∧ SR w' v l ∧ w.grownBy w' v.ownBlock ∧ (v'.ownBlock = v.ownBlock ∨ v'.ownBlock = some w.heap.size) := by
  obtain ⟨i0, hi, hz0, hz1, hz2⟩ := info_parts seg_info
  have hnews : ∀ j u, (segE x)[j]? = some u → w.cell? ((⟨b, 0, none⟩ : Addr).add j) = some u := by
    intro j u hj
    rw [Addr.add_lit, Nat.zero_add, cell_of_block hb]
    simpa using hj
  have h1 := segE_one x
  have hbytes : i0.bytes = 16 := hz2
  have hlx : (segE x).length = 1 * i0.size := by rw [hz1]; rfl
  rcases h with ⟨rfl, rfl⟩ | ⟨g, o, cap, rfl, hc⟩
  · have hr := run_append_nil (P := Tryz.prog) w SegsT ty SegT i0 _ segs_under hi hz0 ⟨b, 0, none⟩ 1 1 (segE x) hlx hnews (by omega) (by omega) (by rw [hbytes]; omega)
    have hcap := grownCap_le_maxLen w 1 0 SegT (by unfold maxLen; omega)
    have hge : 1 ≤ grownCap w 1 0 SegT := by simp only [grownCap, Question.cut]; omega
    refine ⟨_, _, hr, Or.inr ⟨w.heap.size, 0, grownCap w 1 0 SegT, rfl, ⟨_, heap_alloc_new w.drew _, ?_, ?_⟩, hge, hcap⟩, SR.nil _, ⟨rfl, rfl, rfl, by simp, fun k hk _ => Below.heap_alloc w.drew _ k hk⟩, Or.inr rfl⟩
    · rw [Array.size_append, size_zeroCells, zero_cells, List.size_toArray, segE_len]; omega
    · simp [rc_one]
  · obtain ⟨cur, hg, hsz, htk⟩ := hc.block
    have hlen := hc.len
    by_cases hroom : l.length + 1 ≤ cap
    · have hr := run_append_room_off (P := Tryz.prog) w SegsT ty SegT i0 segs_under hi g (o * 2) l.length cap cur hg ⟨b, 0, none⟩ 1 1 (segE x) hlx hnews h1 hroom (by rw [hz1, segE_len, hsz]; omega)
      rw [hz1, segE_len] at hr
      have hcl : cur.toList.length = (o + cap) * 2 := (Array.length_toList (xs := cur)).trans hsz
      have hsh := setRow_heap w g cur (cur.toList.take (o * 2 + l.length * 2) ++ segE x ++ cur.toList.drop (o * 2 + l.length * 2 + 2)).toArray SegT (0, 0) hg
      have hd : (cur.toList.take (o * 2 + l.length * 2) ++ segE x ++ cur.toList.drop (o * 2 + l.length * 2 + 2)).drop (o * 2) = rc segE l ++ (segE x ++ cur.toList.drop (o * 2 + l.length * 2 + 2)) := by
        rw [List.append_assoc, List.drop_append_of_le_length (by rw [List.length_take, hcl]; omega), List.drop_take, ← htk, Nat.add_sub_cancel_left]
      have hs' : ((cur.toList.take (o * 2 + l.length * 2) ++ segE x ++ cur.toList.drop (o * 2 + l.length * 2 + 2)).toArray).size = (o + cap) * 2 := by
        simp only [List.size_toArray, List.length_append, List.length_take, List.length_drop, segE_len, hcl]; omega
      refine ⟨_, _, hr, Or.inr ⟨g, o, cap, by rw [List.length_append]; rfl, ⟨_, hsh, hs', ?_⟩, by rw [List.length_append]; exact hroom, hc.most⟩, Or.inr ⟨g, o, cap, rfl, ⟨_, hsh, hs', ?_⟩, hlen, hc.most⟩, ⟨rfl, rfl, rfl, by simp, fun k _ hk => setRow_other w g k _ (fun e => hk (by simp [e, Value.ownBlock]))⟩, Or.inl rfl⟩
      · show ((_ : List Value).drop _).take _ = _
        rw [hd, rc_append, rc_one, ← List.append_assoc]
        exact List.take_left' (by rw [List.length_append, rc_length segE_len, List.length_append, segE_len]; simp; omega)
      · show ((_ : List Value).drop _).take _ = _
        rw [hd]
        exact List.take_left' (by rw [rc_length segE_len])
    · have holds : ∀ j u, (rc segE l)[j]? = some u → w.cell? ((⟨g, o * 2, none⟩ : Addr).add j) = some u := by
        intro j u hj
        rw [Addr.add_lit, cell_of_block hg]
        rw [← htk, List.getElem?_take] at hj
        split at hj
        · rw [List.getElem?_drop] at hj; simpa using hj
        · cases hj
      have hr := run_append_grow (P := Tryz.prog) w SegsT ty SegT i0 _ segs_under hi hz0 ⟨g, o * 2, none⟩ l.length cap (rc segE l) (by rw [rc_length segE_len, hz1]) holds ⟨b, 0, none⟩ 1 1 (segE x) hlx hnews (by omega) (by omega) (growslice_fits (by omega) (by rw [hbytes]; omega))
      have hcap := grownCap_le_maxLen w (l.length + 1) cap SegT (by unfold maxLen; omega)
      have hge : l.length + 1 ≤ grownCap w (l.length + 1) cap SegT := by simp only [grownCap, Question.cut]; omega
      refine ⟨_, _, hr, Or.inr ⟨w.heap.size, 0, grownCap w (l.length + 1) cap SegT, by rw [List.length_append]; rfl, ⟨_, heap_alloc_new w.drew _, ?_, ?_⟩, by rw [List.length_append]; exact hge, hcap⟩, Or.inr ⟨g, o, cap, rfl, hc.stay ?_⟩, ⟨rfl, rfl, rfl, by simp, fun k hk _ => Below.heap_alloc w.drew _ k hk⟩, Or.inr rfl⟩
      · rw [Array.size_append, Array.size_append, size_zeroCells, zero_cells, List.size_toArray, List.size_toArray, rc_length segE_len, segE_len]; omega
      · simp only [Array.toList_append, Nat.zero_mul, List.drop_zero]
        rw [rc_append, rc_one]
        exact List.take_left' (by rw [List.length_append, rc_length segE_len, List.length_append, segE_len]; simp; omega)
      · exact Below.heap_alloc w.drew _ g hc.lt
/-- .. at a plain region's list -/
theorem wpList_segs {w : World} {ops : Array Oper} {rest : List Oper} {o : Oper} {a : Act} {Q : Exit → Act → World → Prop} (hgd : o.guard = none) (s x : Operand)
    (ho : o.op = .call { callee := .builtin .append, args := #[s, x], argTypes := #[SegsT, SegsT] }) (v : Value) (l : List Sm) (hs : a.eval s = v) (hr : SR w v l) (b : Nat) (y : Sm) (hx : a.eval x = .slice (some ⟨b, 0, none⟩) 1 1)
    (hb : w.heap[b]? = some (.cells #[.int .i64 y.1, .int .i64 y.2] SegT (0, 0))) (hn : l.length ≤ 1000000)
    (h : ∀ v' w', SR w' v' (l ++ [y]) → SR w' v l → w.grownBy w' v.ownBlock → (v'.ownBlock = v.ownBlock ∨ v'.ownBlock = some w.heap.size) → wpList Tryz.prog ops Q rest (a.put o.dst v') w') : wpList Tryz.prog ops Q (o :: rest) a w := by
  refine wpList_plain hgd fun K hK => ?_
  obtain ⟨v', w', hr, h2, h3, h4, h5⟩ := run_push hr y b hb hn o.type
  unfold Oper.wp execOp
  simp only [ho, resolve, invoke, builtin, Sem.run_bind, Sem.run_pure, Result.andThen_ok, List.map_toArray, List.map_cons, List.map_nil, hs, hx, hr]
  exact hK _ _ (h v' w' h2 h3 h4 h5)
/-- .. at a step of a region that draws its order -/
theorem step_segs {w : World} {ops : Array Oper} {o : Oper} {a : Act} {K : Act → World → Prop} {Q : Exit → Act → World → Prop} {E : Prop} (hgd : o.guard = none) (s x : Operand)
    (ho : o.op = .call { callee := .builtin .append, args := #[s, x], argTypes := #[SegsT, SegsT] }) (v : Value) (l : List Sm) (hs : a.eval s = v) (hr : SR w v l) (b : Nat) (y : Sm) (hx : a.eval x = .slice (some ⟨b, 0, none⟩) 1 1)
    (hb : w.heap[b]? = some (.cells #[.int .i64 y.1, .int .i64 y.2] SegT (0, 0))) (hn : l.length ≤ 1000000)
    (h : ∀ v' w', SR w' v' (l ++ [y]) → SR w' v l → w.grownBy w' v.ownBlock → (v'.ownBlock = v.ownBlock ∨ v'.ownBlock = some w.heap.size) → K (a.put o.dst v') w') :
    if Region.wanted o (yielded ops a.tmps) = true then Oper.wp Tryz.prog o a w K Q else E := by
  have hw : Region.wanted o (yielded ops a.tmps) = true := by simp [Region.wanted, hgd]
  rw [if_pos hw]
  obtain ⟨v', w', hr, h2, h3, h4, h5⟩ := run_push hr y b hb hn o.type
  unfold Oper.wp execOp
  simp only [ho, resolve, invoke, builtin, Sem.run_bind, Sem.run_pure, Result.andThen_ok, List.map_toArray, List.map_cons, List.map_nil, hs, hx, hr]
  exact h v' w' h2 h3 h4 h5

end Go.Proofs.YtdlicndbdnfekaaGreatDoor.Wl
