/- Walks over file.go: grown, cutTo, synced, tail, torn. -/
import Derived.Test.YtokcknfbanpjjaaDUsed
namespace Go.Proofs.Ytokcknfbanpjjaa.Dk
open Go.RowKit Go.Maps Go.Joins

theorem append_str_at (w : World) (v : Value) (n : Nat) (xs : List Value) (s : ByteArray) (ty : TypeId) (hown : w.ownsRow 0 5 1 v n xs) (hk : n + s.size ≤ 140737488351232) :
    ∃ v' w', (Builtin.append_ #[59, 9] ty #[v, .string s]).run Try.prog w = .ok v' w' ∧ w'.ownsRow 0 5 1 v' (n + s.size) (xs ++ Lib.strCells s) ∧ w.grownBy w' v.ownBlock ∧ ∀ g, v'.ownBlock = some g → v.ownBlock = some g ∨ w.heap.size ≤ g := by
  obtain ⟨i0, hi, hz0, hz1, hz2⟩ := info_parts u8_info
  have hm : n + s.size ≤ maxLen := by unfold maxLen; omega
  obtain ⟨v', w', hr, h2, h3, h4⟩ := Lib.run_append_own_string (P := Try.prog) w 0 59 9 ty 5 i0 Try.underlying59 Try.underlying9 hi hz0 hz1 hz2 v n xs hown s hm (by omega) (by omega)
  refine ⟨v', w', hr, h2, h3, ?_⟩
  intro g hg
  rcases hown.2 with ⟨rfl, rfl⟩ | ⟨g', cap, cur, rfl, hbg, hgc, hnc, hcm, hcs, htake⟩
  · have hx : xs = [] := List.eq_nil_of_length_eq_zero (by simpa using hown.1)
    subst hx
    obtain ⟨v2, w2, hr2, k2, _⟩ := Lib.run_append_own_string (P := Try.prog) w w.heap.size 59 9 ty 5 i0 Try.underlying59 Try.underlying9 hi hz0 hz1 hz2 (.slice none 0 0) 0 [] (World.ownsRow_nil w w.heap.size 5 1) s hm (by omega) (Nat.le_refl _)
    rw [hr2] at hr
    cases hr
    exact Or.inr (k2.lt g hg).1
  · by_cases hroom : n + s.size ≤ cap
    · have hcs' : cur.size = cap := by simpa using hcs
      have hr2 := Lib.run_append_room_string (P := Try.prog) w 59 9 ty 5 i0 Try.underlying59 Try.underlying9 hi hz1 g' n cap cur hgc s hroom (by omega)
      rw [hr2] at hr
      cases hr
      exact Or.inl hg
    · have hr2 := Lib.run_append_grow_string (P := Try.prog) w 59 9 ty 5 i0 (.int .u8 0) Try.underlying59 Try.underlying9 hi hz0 ⟨g', 0, none⟩ n cap xs (by rw [hz1]; exact hown.1) (fun j u hj => hown.cells rfl j u hj) s (by omega) (by omega) (by rw [hz2]; exact growslice_fits (by omega) (by omega))
      rw [hr2] at hr
      cases hr
      simp [Value.ownBlock] at hg
      exact Or.inr (by omega)

theorem wpList_append_str {w : World} {ops : Array Oper} {rest : List Oper} {o : Oper} {a : Act} {Q : Exit → Act → World → Prop} (hgd : o.guard = none) (sl x : Operand)
    (ho : o.op = .call { callee := .builtin .append, args := #[sl, x], argTypes := #[59, 9] })
    (v : Value) (n : Nat) (xs : List Value) (hs : a.eval sl = v) (hown : w.ownsRow 0 5 1 v n xs) (s : ByteArray) (hx : a.eval x = .string s) (hk : n + s.size ≤ 140737488351232)
    (h : ∀ v' w', w'.ownsRow 0 5 1 v' (n + s.size) (xs ++ Lib.strCells s) → w.grownBy w' v.ownBlock → (∀ g, v'.ownBlock = some g → v.ownBlock = some g ∨ w.heap.size ≤ g) → wpList Try.prog ops Q rest (a.put o.dst v') w') : wpList Try.prog ops Q (o :: rest) a w := by
  refine wpList_plain hgd fun K hK => ?_
  obtain ⟨v', w', hr, h2, h3, h4⟩ := append_str_at w v n xs s o.type hown hk
  unfold Oper.wp execOp
  simp only [ho, resolve, invoke, builtin, Sem.run_bind, Sem.run_pure, Result.andThen_ok, List.map_toArray, List.map_cons, List.map_nil, hs, hx, hr]
  exact hK _ _ (h v' w' h2 h3 h4)

theorem step_append_str {w : World} {ops : Array Oper} {o : Oper} {a : Act} {K : Act → World → Prop} {Q : Exit → Act → World → Prop} {E : Prop} (hgd : o.guard = none) (sl x : Operand)
    (ho : o.op = .call { callee := .builtin .append, args := #[sl, x], argTypes := #[59, 9] })
    (v : Value) (n : Nat) (xs : List Value) (hs : a.eval sl = v) (hown : w.ownsRow 0 5 1 v n xs) (s : ByteArray) (hx : a.eval x = .string s) (hk : n + s.size ≤ 140737488351232)
    (h : ∀ v' w', w'.ownsRow 0 5 1 v' (n + s.size) (xs ++ Lib.strCells s) → w.grownBy w' v.ownBlock → (∀ g, v'.ownBlock = some g → v.ownBlock = some g ∨ w.heap.size ≤ g) → K (a.put o.dst v') w') :
    if Region.wanted o (yielded ops a.tmps) = true then Oper.wp Try.prog o a w K Q else E := by
  have hw : Region.wanted o (yielded ops a.tmps) = true := by simp [Region.wanted, hgd]
  rw [if_pos hw]
  obtain ⟨v', w', hr, h2, h3, h4⟩ := append_str_at w v n xs s o.type hown hk
  unfold Oper.wp execOp
  simp only [ho, resolve, invoke, builtin, Sem.run_bind, Sem.run_pure, Result.andThen_ok, List.map_toArray, List.map_cons, List.map_nil, hs, hx, hr]
  exact h v' w' h2 h3 h4

/-- what stays while a file grows -/
abbrev GS (w : World) (ob : Option Nat) (v : Value) (safe : Nat) (W : World) : Prop := W.cell? ⟨w.heap.size, 0, none⟩ = some v ∧ W.cell? ⟨w.heap.size, 1, none⟩ = some (.int .i64 safe) ∧ w.heap.size + 2 ≤ W.heap.size ∧ w.grownBy W ob
theorem GS.drew {w : World} {ob : Option Nat} {v : Value} {safe : Nat} {W : World} (h : GS w ob v safe W) : GS w ob v safe W.drew := ⟨h.1, h.2.1, h.2.2.1, ⟨h.2.2.2.os, h.2.2.2.tape, h.2.2.2.output, h.2.2.2.size, h.2.2.2.block⟩⟩
theorem GS.grown {w : World} {ob : Option Nat} {v : Value} {safe : Nat} {W W' : World} (h : GS w ob v safe W) (hlt : ∀ g, ob = some g → g < w.heap.size) (hg : W.grownBy W' ob) : GS w ob v safe W' := by
  obtain ⟨h0, h1, h2, h3⟩ := h
  have hb : W'.heap[w.heap.size]? = W.heap[w.heap.size]? := hg.block _ (by omega) fun e => by have := hlt _ e.symm; omega
  exact ⟨(World.cell?_of_block (a := ⟨w.heap.size, 0, none⟩) hb).trans h0, (World.cell?_of_block (a := ⟨w.heap.size, 1, none⟩) hb).trans h1, Nat.le_trans h2 hg.size, h3.trans hg⟩
theorem GS.set {w : World} {ob : Option Nat} {v : Value} {safe : Nat} {W : World} (h : GS w ob v safe W) (i : Nat) (u : Value) : GS w ob v safe (W.setCell ⟨w.heap.size + 1, i, none⟩ u) := by
  obtain ⟨h0, h1, h2, h3⟩ := h
  have hb : ∀ k, k < w.heap.size + 1 → (W.setCell ⟨w.heap.size + 1, i, none⟩ u).heap[k]? = W.heap[k]? := fun k hk => Below.heap_setCell W _ u k (by show k ≠ w.heap.size + 1; omega)
  exact ⟨(World.cell?_of_block (a := ⟨w.heap.size, 0, none⟩) (hb _ (by simp))).trans h0, (World.cell?_of_block (a := ⟨w.heap.size, 1, none⟩) (hb _ (by simp))).trans h1, by simpa using h2, ⟨h3.os, h3.tape, h3.output, by simpa using h3.size, fun k hk hn => (hb k (by omega)).trans (h3.block k hk hn)⟩⟩

set_option maxHeartbeats 800000 in
theorem grown_any (v : Value) (data : Bs) (safe : Nat) (s : ByteArray) (w : World) (hown : w.ownsRow 0 5 1 v data.length (bys data)) (hk : data.length + s.size ≤ 262144) :
    Calls Try.prog 34 #[FV v safe, .string s] w fun e w' => ∃ v', e = .returned (FV v' safe) ∧ w'.ownsRow 0 5 1 v' (data ++ s.data.toList).length (bys (data ++ s.data.toList)) ∧ w.grownBy w' v.ownBlock ∧ ∀ g, v'.ownBlock = some g → v.ownBlock = some g ∨ w.heap.size ≤ g := by
  obtain ⟨a, cap, rfl⟩ := own_slice hown
  have hlt : ∀ g, (Value.slice a data.length cap).ownBlock = some g → g < w.heap.size := fun g hg => (hown.lt g hg).2
  generalize hob : (Value.slice a data.length cap).ownBlock = ob at *
  go_enter Try.func34, Try.ntmps34
  go_wp2
  obtain ⟨W, hW⟩ : ∃ W, W = (w.alloc (.cells #[.slice a data.length cap, .int .i64 safe] 61)).alloc (.cells #[.slice none 0 0, .int .i64 0] 61) := ⟨_, rfl⟩
  have hownW : W.ownsRow 0 5 1 (.slice a data.length cap) data.length (bys data) := by rw [hW]; exact (hown.alloc _).alloc _
  have hS : GS w ob (.slice a data.length cap) safe W := by
    rw [hW]; refine ⟨by simp, by simp, by simp, (World.grownBy_alloc w _ _).trans (World.grownBy_alloc _ _ _)⟩
  have hlt' : ∀ g, ob = some g → g < w.heap.size := hlt
  have hX : W.heap[w.heap.size + 1]? = some (.cells #[.slice none 0 0, .int .i64 0] 61 (0, 0)) := by
    rw [hW]
    have := heap_alloc_new (w.alloc (.cells #[.slice a data.length cap, .int .i64 safe] 61)) (.cells #[.slice none 0 0, .int .i64 0] 61)
    simpa using this
  have hXl : w.heap.size + 1 < W.drew.heap.size := (Array.getElem?_eq_some_iff.1 hX).1
  rw [← hW]
  clear hW
  go_region_held3 (GS w ob (.slice a data.length cap) safe) (first | exact GS.grown (by assumption) hlt' (by assumption) | exact GS.drew (by assumption) | exact GS.set (GS.set (by assumption) _ _) _ _ | exact GS.set (by assumption) _ _)
    (first | (refine step_append_str rfl (.tmp 6) (.tmp 7) rfl (.slice a data.length cap) _ _ rfl hownW.drew s rfl (by omega) ?_; rw [hob]; intro v4 w4 hown4 hg4 hat4; obtain ⟨a4, c4, rfl⟩ := own_slice hown4; have hX4 := (hg4.block (w.heap.size + 1) hXl (fun e => absurd (hlt' _ e.symm) (by omega))).trans hX; have e0 : w4.cell? ⟨w.heap.size + 1, 0, none⟩ = some (.slice none 0 0) := cell_of_block hX4 0; have e1 : w4.cell? ⟨w.heap.size + 1, 1, none⟩ = some (.int .i64 0) := cell_of_block hX4 1; have z0 := unfrozen_of_block hX4 0; have z1 := unfrozen_of_block hX4 1))
  have hH : GS w ob (.slice a data.length cap) safe ((w4.setCell ⟨w.heap.size + 1, 0, none⟩ (.slice a4 (data.length + s.size) c4)).setCell ⟨w.heap.size + 1, 1, none⟩ (.int .i64 safe)) := by assumption
  have hne : ∀ g, (Value.slice a4 (data.length + s.size) c4).ownBlock = some g → g ≠ w.heap.size + 1 := fun g hg e => by
    rcases hat4 g hg with h1 | h1
    · have := hlt' g h1; omega
    · omega
  have ho5 : ((w4.setCell ⟨w.heap.size + 1, 0, none⟩ (.slice a4 (data.length + s.size) c4)).setCell ⟨w.heap.size + 1, 1, none⟩ (.int .i64 safe)).ownsRow 0 5 1 (.slice a4 (data.length + s.size) c4) (data.length + s.size) (bys data ++ Lib.strCells s) :=
    ownsRow_stay hown4 fun g hg => (Below.heap_setCell _ _ _ g (hne g hg)).trans (Below.heap_setCell _ _ _ g (hne g hg))
  have hXl' : w.heap.size ≤ W.drew.heap.size := by omega
  clear hX hX4 hownW hown4
  go_wp2
  refine bodyPost_ret (v := FV (.slice a4 (data.length + s.size) c4) safe) (by simp [results, Try.results34, go_sem, e0, e1]) rfl ?_
  refine ⟨_, rfl, ?_, hH.2.2.2, fun g hg => (hat4 g hg).imp id fun h1 => by omega⟩
  rw [bys_str] at ho5
  have : (data ++ s.data.toList).length = data.length + s.size := by rw [List.length_append, ← Lib.size_eq]
  rw [this]; exact ho5

end Go.Proofs.Ytokcknfbanpjjaa.Dk
