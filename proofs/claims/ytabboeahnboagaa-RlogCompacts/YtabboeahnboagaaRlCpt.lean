/- Walks over rlog: letGo, Compact. -/
import Derived.Test.YtabboeahnboagaaRlCom
namespace Go.Proofs.Ytabboeahnboagaa.Rl
open Go.RowKit Go.Joins Gk

set_option maxRecDepth 100000 in
set_option maxHeartbeats 2000000 in
theorem letGo_any (bl : Nat) (S : Lo) (v : Value) (i : Nat) (w : World) (h : LH w bl S v) (hb : S.es.length ≤ 1048577) (hi : i ≤ S.es.length) :
    Calls Try.prog 45 #[ptr bl, .int .i64 i] w fun e w' => e = .returned (.tuple #[]) ∧ (∃ v', LH w' bl ⟨S.b, S.bt, S.es.drop i⟩ v') ∧ Tn bl w w' := by
  have c2 := h.c2
  have f2 := h.fz 2
  have e3 : (i : Int) ≤ 1048577 := by omega
  have e0 : (0 : Int) ≤ (i : Int) := by omega
  rcases h.row with ⟨rfl, h0⟩ | ⟨g, o, cap, cur, rfl, hg, h1, h2, h3, h4⟩
  · have hl0 : S.es.length = 0 := by rw [h0]; rfl
    have hi0 : i = 0 := by omega
    subst hi0
    have hcl := clear_nil w
    have HH := hide h
    have HS : Hid (S.es = []) := h0
    have hown := World.ownsRow_nil w w.heap.size EnT 2
    clear h hl0 h0 e3 e0 hi hb
    go_enter Try.func45, Try.ntmps45
    go_wp2
    go_end0
    obtain ⟨q1, q2⟩ := HH.out.set (w1 := w) (v' := .slice none 0 0) (l := []) (ER.nil _) (grown_refl _ _) (fun _ h => by cases h)
    exact ⟨rfl, ⟨_, by rw [HS.out]; exact q1⟩, q2⟩
  · obtain ⟨W, hW, hgr, vs, hvl, hWe⟩ := clear_er h.row 0 i cap (by omega)
    rw [Nat.zero_mul, Nat.add_zero] at hW hWe
    have hR : ER W (.slice (some ⟨g, o + i * 2, none⟩) (S.es.length - i) (cap - i)) (S.es.drop i) := by
      rw [hWe]; exact (h.row.drop i hi).over o vs (Or.inl (by omega))
    have hbW := hide (hgr.block bl h.lt (fun e => h.ne e.symm rfl))
    have k2 := (World.cell?_of_block (a := ⟨bl, 2, none⟩) hbW.out).trans c2
    have z2 := (World.frozen?_of_block (a := ⟨bl, 2, none⟩) hbW.out).trans f2
    have HH := hide h
    have HGR := hide hgr
    have HR := hide hR
    have i2 : (i : Int) ≤ (cap : Int) := by omega
    have i3 : (i : Int) ≤ (S.es.length : Int) := by omega
    have i4 : (S.es.length : Int) ≤ (cap : Int) := by omega
    have i5 : (cap : Int) ≤ 9223372036854775807 := by unfold maxLen at h2; omega
    have hown := hide (World.ownsRow_nil W W.heap.size EnT 2)
    have hdl : (S.es.drop i).length = S.es.length - i := List.length_drop
    have e4 : (S.es.length : Int) - (i : Int) = ((S.es.length - i : Nat) : Int) := by omega
    clear h h4 h3 hg hWe hgr hR hvl
    by_cases hm : S.es.length - i ≤ i
    · have j1 : ((S.es.length - i : Nat) : Int) ≤ (i : Int) := by omega
      by_cases hc : cap = i
      · have hil : S.es.length = i := by omega
        have hd0 : S.es.drop i = [] := List.drop_eq_nil_of_le (by omega)
        have hz : i - i = 0 := Nat.sub_self i
        rw [hd0]
        have i6 : (i : Int) ≤ 9223372036854775807 := by omega
        subst hc
        rw [hil] at c2 k2
        clear HR hdl e4 j1 hm i3 i4 i2
        go_enter Try.func45, Try.ntmps45
        go_wp2_with (at_builtin; refine wpList_append_row (enc := eenc) (k := 2) rfl _ _ EnsT rfl EnT noE 24 Try.underlying26 en_info rfl (by decide) eenc_len eenc_one W.heap.size _ [] rfl hown.out (some ⟨g, o, none⟩) [] 0 0 rfl rfl (Or.inl rfl) (fun e => by cases e) (by decide) (by decide) (Nat.le_refl _) ?_)
        intro v8 w8 hown8 hg8 hat8
        have hg9 : w.grownBy w8 (some g) := HGR.out.trans ((show W.grownBy w8 none from hg8).but _)
        have hbl8 := hg9.block bl HH.out.lt (fun e => HH.out.ne e.symm rfl)
        have k8 := (World.cell?_of_block (a := ⟨bl, 2, none⟩) hbl8).trans c2
        have z8 := (World.frozen?_of_block (a := ⟨bl, 2, none⟩) hbl8).trans f2
        have HS := hide (HH.out.set (ER.of_own hown8) hg9 (fun k e => Or.inr (Nat.le_trans HGR.out.size (hown8.lt k (by rw [← blk_own hown8]; exact e)).1)))
        obtain ⟨a8, c8, rfl⟩ := own_slice hown8
        clear hown8 hg8 hat8 hg9 hbl8
        go_wp2
        go_end0
        exact ⟨rfl, ⟨_, HS.out.1⟩, HS.out.2⟩
      · go_enter Try.func45, Try.ntmps45
        go_wp2_with (at_builtin; refine wpList_append_row (enc := eenc) (k := 2) rfl _ _ EnsT rfl EnT noE 24 Try.underlying26 en_info rfl (by decide) eenc_len eenc_one W.heap.size _ [] rfl hown.out (some ⟨g, o + i * 2, none⟩) (S.es.drop i) (S.es.length - i) (cap - i) rfl hdl.symm HR.out.lies (fun e => by cases e) (by rw [hdl]; simp; omega) (by rw [hdl]; simp; omega) (Nat.le_refl _) ?_)
        intro v8 w8 hown8 hg8 hat8
        have hg9 : w.grownBy w8 (some g) := HGR.out.trans ((show W.grownBy w8 none from hg8).but _)
        have hbl8 := hg9.block bl HH.out.lt (fun e => HH.out.ne e.symm rfl)
        have k8 := (World.cell?_of_block (a := ⟨bl, 2, none⟩) hbl8).trans c2
        have z8 := (World.frozen?_of_block (a := ⟨bl, 2, none⟩) hbl8).trans f2
        have HS := hide (HH.out.set (ER.of_own hown8) hg9 (fun k e => Or.inr (Nat.le_trans HGR.out.size (hown8.lt k (by rw [← blk_own hown8]; exact e)).1)))
        obtain ⟨a8, c8, rfl⟩ := own_slice hown8
        clear hown8 hg8 hat8 hg9 hbl8
        go_wp2
        go_end0
        exact ⟨rfl, ⟨_, HS.out.1⟩, HS.out.2⟩
    · have j1 : ¬ ((S.es.length - i : Nat) : Int) ≤ (i : Int) := by omega
      have hc : ¬ cap = i := by omega
      go_enter Try.func45, Try.ntmps45
      go_wp2
      go_end0
      have HS := HH.out.set HR.out HGR.out (fun k e => Or.inl e)
      exact ⟨rfl, ⟨_, HS.1⟩, HS.2⟩

/-- its base is another -/
theorem LH.base {w : World} {bl : Nat} {S : Lo} {v : Value} (h : LH w bl S v) (b : Nat) (t : Int) :
    LH ((w.setCell ⟨bl, 0, none⟩ (.int .i64 b)).setCell ⟨bl, 1, none⟩ (.int .i64 t)) bl ⟨b, t, S.es⟩ v ∧ Tn bl w ((w.setCell ⟨bl, 0, none⟩ (.int .i64 b)).setCell ⟨bl, 1, none⟩ (.int .i64 t)) := by
  have h1 := block_setCell (i := 1) (block_setCell (i := 0) h.box (.int .i64 b)) (.int .i64 t)
  have hL : LH ((w.setCell ⟨bl, 0, none⟩ (.int .i64 b)).setCell ⟨bl, 1, none⟩ (.int .i64 t)) bl ⟨b, t, S.es⟩ v := ⟨h1, h.row.stay fun g hv => (Below.heap_setCell _ ⟨bl, 1, none⟩ _ g (h.ne hv)).trans (Below.heap_setCell w ⟨bl, 0, none⟩ _ g (h.ne hv))⟩
  refine ⟨hL, ⟨(Only.of_set w (Or.inl rfl) _).trans (Only.of_set _ (Or.inl rfl) _), fun k hk => Or.inl ?_⟩⟩
  rw [hL.lbk] at hk
  rw [h.lbk]; exact hk

set_option maxRecDepth 100000 in
set_option maxHeartbeats 2000000 in
/-- Compact, to a number that is known -/
theorem Compact_ok (bl : Nat) (S : Lo) (v : Value) (i : Nat) (w : World) (h : LH w bl S v) (hb : S.b + S.es.length ≤ 1048577) (hi : i ≤ S.es.length) :
    Calls Try.prog 23 #[ptr bl, .int .i64 ((S.b + i : Nat) : Int)] w fun e w' => e = .returned (.int .i64 0) ∧ (∃ v', LH w' bl ⟨S.b + i, S.tm (S.b + i), S.es.drop i⟩ v') ∧ Tn bl w w' := by
  obtain ⟨n, hn⟩ : ∃ n, S.b + i = n := ⟨_, rfl⟩
  rw [hn]
  have hK := knows_any bl S v (n : Int) w h hb
  rw [show decide ((S.b : Int) ≤ (n : Int) ∧ (n : Int) ≤ (S.last : Int)) = true from decide_eq_true (by unfold Lo.last; omega)] at hK
  have HK := hide hK
  have HT := hide (fun q => termAt_any bl S v n (w.drewN q) (h.drewN q) hb (by omega) (by unfold Lo.last; omega))
  have HG := hide (fun q => letGo_any bl S v i (w.drewN q) (h.drewN q) (by omega) hi)
  have HTN := hide (fun q => h.tn (below_drewN (Below.refl _ w) q))
  have c0 := h.c0
  have e1 : (n : Int) - (S.b : Int) = (i : Int) := by omega
  have e2 : (i : Int) ≤ 1048577 := by omega
  generalize S.tm n = tn at *
  clear hK h hn
  go_enter Try.func23, Try.ntmps23
  go_wp2_with (first | (go_at_call 36; refine HK.out.mono ?_; rintro e w1 ⟨rfl, q1, rfl⟩) | (go_at_call 32; refine (HT.out _).mono ?_; rintro e w2 ⟨rfl, q2, rfl⟩; rw [World.drewN_drewN]))
  refine (HG.out _).mono ?_
  rintro e w3 ⟨rfl, ⟨v3, hL3⟩, ht3⟩
  have d0 := hL3.c0
  have d1 := hL3.c1
  have z0 := hL3.fz 0
  have z1 := hL3.fz 1
  have HL3 := hide (And.intro hL3 ((HTN.out _).trans ht3))
  clear hL3 ht3 HG HT HK
  go_wp2
  go_ret
  obtain ⟨r1, r2⟩ := HL3.out.1.base n tn
  exact ⟨rfl, ⟨_, r1⟩, HL3.out.2.trans r2⟩

end Go.Proofs.Ytabboeahnboagaa.Rl
