/- Walks over rlog: cutFrom, put. -/
import Derived.Test.YtmpahgklcabihaaGreatRlCall
namespace Go.Proofs.YtmpahgklcabihaaGreat.Rl
open Go.RowKit Go.Joins Gk

theorem zero_en (w : World) : (zeroValue EnT).run Tryz.prog w = .ok noE w := Tryz.zeroValue66 w
/-- clear of a stretch of entries, of none too -/
theorem clear_er {w : World} {g o n cap : Nat} {l : List En} (h : ER w (.slice (some ⟨g, o, none⟩) n cap) l) (i m c : Nat) (him : i + m ≤ cap) :
    ∃ W, (∀ ty, (Builtin.clear_ #[EnsT] ty #[.slice (some ⟨g, o + i * 2, none⟩) m c]).run Tryz.prog w = .ok (.tuple #[]) W) ∧ w.grownBy W (some g) ∧ ∃ vs : List Value, vs.length = m * 2 ∧ W = w.setCells g (o + i * 2) vs := by
  rcases Nat.eq_zero_or_pos m with rfl | hm
  · refine ⟨w, fun ty => ?_, grown_refl _ _, [], rfl, rfl⟩
    simp [Builtin.clear_, run_underlying Tryz.underlying53]
  · refine ⟨_, fun ty => run_clear_row w EnsT EnT ty noE Tryz.underlying53 zero_en (by decide) g _ _ _ hm (fun t ht => ?_), grown_setCells g _ _ _, _, ?_, rfl⟩
    · have h2 : noE.cells.size = 2 := rfl
      rw [h2] at ht
      have := h.there (i * 2 + t) (by omega)
      rwa [Nat.add_assoc]
    · rw [Array.length_toList, size_zeroCells]; rfl
theorem clear_nil (w : World) (ty : TypeId) : (Builtin.clear_ #[EnsT] ty #[.slice none 0 0]).run Tryz.prog w = .ok (.tuple #[]) w := by
  simp [Builtin.clear_, run_underlying Tryz.underlying53]

set_option maxRecDepth 100000 in
set_option maxHeartbeats 1000000 in
theorem cutFrom_any (bl : Nat) (S : Lo) (v : Value) (i : Nat) (w : World) (h : LH w bl S v) (hb : S.b + S.es.length ≤ 1048577) (hi : i ≤ S.es.length) (n : Nat) (hn : n = S.b + 1 + i) :
    Calls Tryz.prog 144 #[ptr bl, .int .i64 n] w fun e w' => e = .returned (.int .i64 ((S.es.length - i : Nat) : Int)) ∧ (∃ v', LH w' bl ⟨S.b, S.bt, S.es.take i⟩ v') ∧ Tn bl w w' := by
  have c0 := h.c0
  have c2 := h.c2
  have e1 : (n : Int) - (S.b : Int) = (i : Int) + 1 := by omega
  have e2 : (i : Int) ≤ (S.es.length : Int) := by omega
  have e3 : (i : Int) ≤ 1048577 := by omega
  have e4 : (S.es.length : Int) - (i : Int) = ((S.es.length - i : Nat) : Int) := by omega
  have e5 : (S.es.length : Int) ≤ 1048577 := by omega
  have f2 := h.fz 2
  clear hn
  rcases h.row with ⟨rfl, h0⟩ | ⟨g, o, cap, cur, rfl, hg, h1, h2, h3, h4⟩
  · have hl0 : S.es.length = 0 := by rw [h0]; rfl
    have hi0 : i = 0 := by omega
    subst hi0
    have hcl := clear_nil w
    have HH := hide h
    have HL : Hid (S.es.length = 0) := hl0
    have HS : Hid (S.es = []) := h0
    clear h hl0 h0 e2 e3 e4 e5 hi hb
    go_enter Tryz.func144, Tryz.ntmps144
    go_wp2
    go_ret
    obtain ⟨q1, q2⟩ := HH.out.set (w1 := w) (v' := .slice none 0 0) (l := []) (ER.nil _) (grown_refl _ _) (fun _ h => by cases h)
    exact ⟨by rw [HL.out]; rfl, ⟨_, by rw [HS.out]; exact q1⟩, q2⟩
  · obtain ⟨W, hW, hgr, vs, hvl, hWe⟩ := clear_er h.row i (S.es.length - i) (cap - i) (by omega)
    have hR : ER W (.slice (some ⟨g, o, none⟩) i cap) (S.es.take i) := by
      have := (h.row.take i hi).over (o + i * 2) vs (Or.inr (by rw [List.length_take]; omega))
      rw [hWe]; exact this
    have hbW := hide (hgr.block bl h.lt (fun e => h.ne e.symm rfl))
    have k2 := (World.cell?_of_block (a := ⟨bl, 2, none⟩) hbW.out).trans c2
    have z2 := (World.frozen?_of_block (a := ⟨bl, 2, none⟩) hbW.out).trans f2
    have HS := hide (h.set hR hgr (fun k e => Or.inl e))
    have hic : i ≤ cap := by omega
    have i1 : (0 : Int) ≤ (i : Int) := by omega
    have i2 : (i : Int) ≤ (cap : Int) := by omega
    have i3 : (S.es.length : Int) ≤ (cap : Int) := by omega
    by_cases hc : cap = i
    · have h0 : S.es.length - i = 0 := by omega
      have hW0 : ∀ ty, (Builtin.clear_ #[EnsT] ty #[.slice (some ⟨g, o, none⟩) 0 0]).run Tryz.prog w = .ok (.tuple #[]) w := fun ty => by
        simp [Builtin.clear_, run_underlying Tryz.underlying53]
      have HS := hide (h.set (h.row.take i hi) (grown_refl _ _) (fun k e => Or.inl e))
      have H0 := hide h0
      clear h h4 h3 hg hWe hgr hR hW hvl hbW k2 z2 h0
      subst hc
      go_enter Tryz.func144, Tryz.ntmps144
      go_wp2
      go_ret
      exact ⟨by rw [H0.out]; rfl, ⟨_, HS.out.1⟩, HS.out.2⟩
    · clear h h4 h3 hg hWe hgr hR
      go_enter Tryz.func144, Tryz.ntmps144
      go_wp2
      go_ret
      exact ⟨rfl, ⟨_, HS.out.1⟩, HS.out.2⟩

set_option maxRecDepth 100000 in
set_option maxHeartbeats 3200000 in
theorem put_any (bl : Nat) (S : Lo) (v : Value) (e : En) (he : e.d.size ≤ 140737488351232) (w : World) (h : LH w bl S v) (hb : S.es.length ≤ 1048576) :
    Calls Tryz.prog 145 #[ptr bl, .agg #[.int .i64 e.t, .string e.d]] w fun r w' => r = .returned (.tuple #[]) ∧ (∃ v', LH w' bl ⟨S.b, S.bt, S.es ++ [e]⟩ v') ∧ Tn bl w w' := by
  have hC := fun W => clone_any e.d W he
  obtain ⟨a, cap, rfl, _⟩ := h.row.slice
  have H0 := hide h
  have hlt := h.lt
  clear h
  go_enter Tryz.func145, Tryz.ntmps145
  go_wp2_with fail
  refine (hC _).mono ?_
  rintro r w1 ⟨rfl, hb1⟩
  have hbx : w1.heap[w.heap.size]? = some (.cells #[.int .i64 e.t, .string e.d] EnT (0, 0)) := (hb1.block _ (by simp)).trans (heap_alloc_new w _)
  have hbel : Below w.heap.size w w1 := ((Below.refl _ w).alloc (Nat.le_refl _) _).trans (hb1.mono (by simp))
  have x1 : w1.cell? ⟨w.heap.size, 1, none⟩ = some (.string e.d) := by rw [cell_of_block hbx]; rfl
  have z1 : w1.frozen? ⟨w.heap.size, 1, none⟩ = false := by rw [unfrozen_of_block hbx]
  clear hC
  go_wp2
  obtain ⟨W, hW⟩ : ∃ W, w1.setCell ⟨w.heap.size, 1, none⟩ (.string e.d) = W := ⟨_, rfl⟩
  rw [hW]
  have hbW : W.heap[w.heap.size]? = some (.cells (eenc e).toArray EnT (0, 0)) := by rw [← hW]; exact block_setCell (i := 1) hbx _
  have hblW : Below w.heap.size w W := by rw [← hW]; exact hbel.setCell (p := ⟨w.heap.size, 1, none⟩) (Nat.le_refl _) _
  clear hW hbx hbel x1 z1 hb1
  have hL := H0.out.below hblW
  have c2 := hL.c2
  have f2 := hL.fz 2
  have x0 : W.cell? ⟨w.heap.size, 0, none⟩ = some (.int .i64 e.t) := by rw [cell_of_block hbW]; rfl
  have x1 : W.cell? ⟨w.heap.size, 1, none⟩ = some (.string e.d) := by rw [cell_of_block hbW]; rfl
  have HL := hide hL
  have HBW := hide hbW
  have hlt2 := Nat.lt_of_lt_of_le hlt hblW.size
  clear hL hbW
  have hba := hide (((Below.refl W.heap.size W).drew).alloc (Nat.le_refl _) (.cells (eenc e).toArray EnT))
  go_region_law (refine step_er (by rfl) (.tmp 12) (.tmp 14) (by rfl) (.slice a S.es.length cap) S.es (by rfl) (HL.out.row.below hba.out) W.heap.size e (by rfl) (heap_alloc_new W.drew _) hb ?_; intro ad cap3 w3 her hg3 hat3; have hh := hide ((HL.out.below hba.out).set her hg3 hat3); have hb3 := hide (hg3.block bl (HL.out.below hba.out).lt (fun e => (HL.out.below hba.out).ne e.symm rfl)); have k3 := (World.cell?_of_block (a := ⟨bl, 2, none⟩) hb3.out).trans (HL.out.below hba.out).c2; have z3 := (World.frozen?_of_block (a := ⟨bl, 2, none⟩) hb3.out).trans ((HL.out.below hba.out).fz 2))
  all_goals
    go_wp2
    go_end0
    exact ⟨rfl, ⟨_, hh.out.1⟩, (H0.out.tn (hblW.trans (hba.out.mono hblW.size))).trans hh.out.2⟩

end Go.Proofs.YtmpahgklcabihaaGreat.Rl
