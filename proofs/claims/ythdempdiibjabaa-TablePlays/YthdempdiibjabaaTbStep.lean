/- Layer 9: TablePlays: step, call by call. Layer 9: TablePlays: step, Rows. Layer 9: TablePlays: step, Take. Layer 9: TablePlays: step, Do. -/
import Derived.Test.YthdempdiibjabaaTbDuo
namespace Go.Proofs.Ythdempdiibjabaa.Tr
open Go.RowKit Go.Joins Go.Proofs.Ythdempdiibjabaa.Gk Go.Proofs.Ythdempdiibjabaa.Oq Go.Proofs.Ythdempdiibjabaa.Sp Go.Proofs.Ythdempdiibjabaa.Tb

abbrev ActT : TypeId := 33
abbrev actC (x : ActV) : Array Value := #[.int .i64 x.kind, .slice x.oa x.ops.length x.oc, .string x.fr, .string x.to, .slice x.ra x.rows.length x.rcap]
abbrev ActV.v (x : ActV) : Value := .agg #[.int .i64 x.kind, .slice x.oa x.ops.length x.oc, .string x.fr, .string x.to, .slice x.ra x.rows.length x.rcap]

set_option maxRecDepth 100000 in
set_option maxHeartbeats 1600000 in
theorem step_drop (B : World) (bt br : Nat) (l : List Rw) (x : ActV) (w : World) (hD : Duo B bt br l w) (hx : ActAt B x) (hk : x.kind % 4 = 3) :
    Calls Try.prog 16 #[ptr bt, ptr br, ActV.v x] w fun e w' => e = .returned (.bool true) ∧ ∃ l', Duo B bt br l' w' := by
  have hkb := hx.kind
  have hb0 := below_a1 w (.cells (actC x) ActT)
  have hx0 := heap_alloc_new w (.cells (actC x) ActT)
  have hD0 := hD.call hb0
  go_enter Try.func16, Try.ntmps16
  go_wp2_with fail
  refine (among_any x.kind 4 _ (by omega) (by omega) hkb.1 hkb.2).mono ?_
  rintro e w1 ⟨rfl, hw1⟩
  rw [hk]
  rw [← hw1]
  obtain ⟨w2, hw2⟩ : ∃ w2, w2 = w.alloc (.cells (actC x) ActT) := ⟨_, rfl⟩
  rw [← hw2] at hx0 hD0
  rw [← hw2]
  have y2 : w2.cell? ⟨w.heap.size, 2, none⟩ = some (.string x.fr) := cellB hx0 2 rfl
  have y3 : w2.cell? ⟨w.heap.size, 3, none⟩ = some (.string x.to) := cellB hx0 3 rfl
  have hlt2 : w.heap.size ≠ bt := by have := hD.tab.lt; omega
  have hlr2 : w.heap.size ≠ br := by have := hD.ref.lt; omega
  obtain ⟨n, hn⟩ : ∃ n, n = (l.filter fun r => Sp.Sp.has ⟨x.fr, x.to⟩ r.key).length := ⟨_, rfl⟩
  have e1 : ((n : Int) == (n : Int)) = true := by simp
  have H0 := hide hD0
  have HX0 := hide hx0
  have HN := hide hn
  clear hD0 hx0 hb0 hw2 hw1 hn
  go_wp2_with fail
  go_region_law (first
    | (go_simp; go_at_call 14; refine (Drop_tb bt l ⟨x.fr, x.to⟩ w2.drew H0.out.drew.tab).mono ?_; rintro e w3 ⟨rfl, ht3, hu3⟩; rw [← HN.out]; have hx3 := hide (box_turn (w := w2.drew) HX0.out hu3 hlt2); have z2 : w3.cell? ⟨w.heap.size, 2, none⟩ = some (.string x.fr) := cellB hx3.out 2 rfl; have z3 : w3.cell? ⟨w.heap.size, 3, none⟩ = some (.string x.to) := cellB hx3.out 3 rfl; have hr3 := hide (RH.turnT H0.out.drew.ref H0.out.drew.tab hu3); have ht3' := hide ht3; have hu3' := hide hu3; clear ht3 hu3)
    | (go_simp; go_at_call 36; refine (Drop_ref br l ⟨x.fr, x.to⟩ w3 hr3.out).mono ?_; rintro e w4 ⟨rfl, hr4, hu4⟩; rw [← HN.out]; have hr4' := hide hr4; have ht4 := hide (TH.turnR ht3'.out hr3.out hu4); have hu4' := hide hu4; clear hr4 hu4))
  all_goals
    have hBl := (H0.out.drew.bel.trans (Only.below hu3'.out H0.out.drew.bel.size (fun b hb => by subst hb; exact hD.lt))).trans (Only.below hu4'.out (Nat.le_trans H0.out.drew.bel.size hu3'.out.size) (fun b hb => by subst hb; exact hD.lr))
    go_wp2
    go_ret
    exact ⟨rfl, _, ht4.out, hr4'.out, hD.lt, hD.lr, hBl⟩

end Go.Proofs.Ythdempdiibjabaa.Tr

namespace Go.Proofs.Ythdempdiibjabaa.Tr
open Go.RowKit Go.Joins Go.Proofs.Ythdempdiibjabaa.Gk Go.Proofs.Ythdempdiibjabaa.Oq Go.Proofs.Ythdempdiibjabaa.Sp Go.Proofs.Ythdempdiibjabaa.Tb

set_option maxRecDepth 100000 in
set_option maxHeartbeats 1600000 in
theorem step_rows (B : World) (bt br : Nat) (l : List Rw) (x : ActV) (w : World) (hD : Duo B bt br l w) (hx : ActAt B x) (hk : x.kind % 4 = 1) :
    Calls Try.prog 16 #[ptr bt, ptr br, ActV.v x] w fun e w' => e = .returned (.bool true) ∧ ∃ l', Duo B bt br l' w' := by
  have hkb := hx.kind
  have hb0 := below_a1 w (.cells (actC x) ActT)
  have hx0 := heap_alloc_new w (.cells (actC x) ActT)
  have hD0 := hD.call hb0
  go_enter Try.func16, Try.ntmps16
  go_wp2_with fail
  refine (among_any x.kind 4 _ (by omega) (by omega) hkb.1 hkb.2).mono ?_
  rintro e w1 ⟨rfl, hw1⟩
  rw [hk]
  rw [← hw1]
  obtain ⟨w2, hw2⟩ : ∃ w2, w2 = w.alloc (.cells (actC x) ActT) := ⟨_, rfl⟩
  rw [← hw2] at hx0 hD0
  rw [← hw2]
  have y2 : w2.cell? ⟨w.heap.size, 2, none⟩ = some (.string x.fr) := cellB hx0 2 rfl
  have y3 : w2.cell? ⟨w.heap.size, 3, none⟩ = some (.string x.to) := cellB hx0 3 rfl
  clear hw2 hw1 hb0
  go_wp2_with fail
  refine (Rows_tb bt l ⟨x.fr, x.to⟩ w2 hD0.tab).mono ?_
  rintro e w3 ⟨g3, L3, rfl, hL3, ho3, hb3⟩
  have hx3 := (hb3.block _ (Array.getElem?_eq_some_iff.1 hx0).1).trans hx0
  have z2 : w3.cell? ⟨w.heap.size, 2, none⟩ = some (.string x.fr) := cellB hx3 2 rfl
  have z3 : w3.cell? ⟨w.heap.size, 3, none⟩ = some (.string x.to) := cellB hx3 3 rfl
  have HL3 := hide hL3
  clear hL3
  go_wp2_with fail
  refine (Rows_ref br l ⟨x.fr, x.to⟩ w3 (hD0.ref.below hb3)).mono ?_
  rintro e w4 ⟨a4, c4, L4, rfl, hL4, hr4, hb4⟩
  obtain rfl : L4 = L3 := hL4.trans HL3.out.symm
  have hLl : L4.length ≤ 4096 := by rw [HL3.out]; exact Nat.le_trans (List.length_filter_le _ _) hD.tab.1.len
  have ho4 := own_below ho3 hb4
  clear hL4 z2 z3 y2 y3
  go_wp2_with fail
  refine (sameRows_any _ _ _ _ L4 w4 (RL.of_own ho4).lies hr4.lies (by omega)).mono ?_
  rintro e w5 ⟨rfl, hb5⟩
  have ho5 := own_below ho4 hb5
  have hb25 := (hb3.trans (hb4.mono hb3.size)).trans (hb5.mono (Nat.le_trans hb3.size hb4.size))
  clear ho3 ho4 hb3 hb4 hb5 hr4 hx3
  go_wp2_with fail
  refine (spoilRows_any (some ⟨g3, 0, none⟩) L4.length L4.length w5 (RL.of_own ho5).rs (Nat.le_refl _)).mono ?_
  rintro e w6 ⟨rfl, hS⟩
  have hb6 : Below w2.heap.size w2 w6 := hb25.trans (Only.below hS.only hb25.size (fun b hb => own_blk ho5 hb))
  have hD6 := hD0.call hb6
  clear ho5 hS hb25
  go_wp2
  go_ret
  exact ⟨rfl, l, hD6⟩

end Go.Proofs.Ythdempdiibjabaa.Tr

namespace Go.Proofs.Ythdempdiibjabaa.Tr
open Go.RowKit Go.Joins Go.Proofs.Ythdempdiibjabaa.Gk Go.Proofs.Ythdempdiibjabaa.Oq Go.Proofs.Ythdempdiibjabaa.Sp Go.Proofs.Ythdempdiibjabaa.Tb

set_option maxRecDepth 100000 in
set_option maxHeartbeats 1600000 in
theorem step_take (B : World) (bt br : Nat) (l : List Rw) (x : ActV) (w : World) (hD : Duo B bt br l w) (hx : ActAt B x) (hk : x.kind % 4 = 2) (hn : x.rows.length ≤ 300) :
    Calls Try.prog 16 #[ptr bt, ptr br, ActV.v x] w fun e w' => e = .returned (.bool true) ∧ ∃ l', Duo B bt br l' w' := by
  have hkb := hx.kind
  have hb0 := below_a1 w (.cells (actC x) ActT)
  have hx0 := heap_alloc_new w (.cells (actC x) ActT)
  have hD0 := hD.call hb0
  go_enter Try.func16, Try.ntmps16
  go_wp2_with fail
  refine (among_any x.kind 4 _ (by omega) (by omega) hkb.1 hkb.2).mono ?_
  rintro e w1 ⟨rfl, hw1⟩
  rw [hk]
  rw [← hw1]
  obtain ⟨w2, hw2⟩ : ∃ w2, w2 = w.alloc (.cells (actC x) ActT) := ⟨_, rfl⟩
  rw [← hw2] at hx0 hD0
  rw [← hw2]
  have y4 : w2.cell? ⟨w.heap.size, 4, none⟩ = some (.slice x.ra x.rows.length x.rcap) := cellB hx0 4 rfl
  have hx2 := (Array.getElem?_eq_some_iff.1 hx0).1
  clear hw2 hw1 hb0
  have hb2 := below_a1 w2 (.cells #[] RowT)
  have HM : Hid ((w2.alloc (.cells #[] RowT)).ownsRow w2.heap.size RowT 3 (.slice (some ⟨w2.heap.size, 0, none⟩) 0 0) 0 (rc rwenc [])) := ownR_made w2
  have hRo := hx.rows
  have HRl := hide (hRo.lies.below (hD0.bel.trans (hb2.mono hD0.bel.size)))
  have hnil := hRo.nil
  go_wp2_with (at_builtin; refine wpList_append_row (enc := rwenc) (k := 3) rfl (.tmp 72) (.tmp 74) RowsT rfl RowT noRw 40 Try.underlying26 row_info rfl (by decide) rwenc_len rwenc_one w2.heap.size _ ([] : List Rw) rfl HM.out x.ra x.rows x.rows.length x.rcap rfl rfl HRl.out hnil (by simp; omega) (by simp; omega) hb2.size ?_; intro v3 w3 hown3 hg3 hat3; have hb3 := hide (hb2.grown hg3 hb2.size (fun k hk => by cases hk; exact Nat.le_refl _)); simp only [List.nil_append] at hown3; obtain ⟨a3, c3, rfl⟩ := Gk.own_slice hown3; have HO3 := hide hown3; clear hown3 hg3 hat3)
  have hx3 := (hb3.out.block _ hx2).trans hx0
  have z4 : w3.cell? ⟨w.heap.size, 4, none⟩ = some (.slice x.ra x.rows.length x.rcap) := cellB hx3 4 rfl
  have hlt2 : w.heap.size ≠ bt := by have := hD.tab.lt; omega
  have hlr2 : w.heap.size ≠ br := by have := hD.ref.lt; omega
  have H3 := hide (hD0.call hb3.out)
  obtain ⟨tk, htk⟩ : ∃ tk, tk = takes l x.rows := ⟨_, rfl⟩
  have HTK := hide htk
  obtain ⟨tc, tl⟩ := tk
  have e1 : (tc == tc) = true := by simp
  have HX3 := hide hx3
  have HRB := hide hRo.lies
  have HOd : Hid (w3.drew.ownsRow w2.heap.size RowT 3 (.slice a3 x.rows.length c3) x.rows.length (rc rwenc x.rows)) := own_below HO3.out (Below.refl _ _).drew
  have HT1 := hide (Take_tb bt l a3 c3 x.rows w3.drew H3.out.drew.tab (RL.of_own HOd.out).lies (by omega))
  rw [← HTK.out] at HT1
  have h23 := hb3.out.size
  clear htk hx3 HRl HM hb2 y4 hx0
  go_wp2_with fail
  go_region_law (first
    | (go_simp; go_at_call 20; refine HT1.out.mono ?_; rintro e w4 ⟨rfl, ht4, hu4, hw4⟩; have HX4 := hide (box_turn (w := w3.drew) HX3.out hu4 hlt2); have s4 : w4.cell? ⟨w.heap.size, 4, none⟩ = some (.slice x.ra x.rows.length x.rcap) := cellB HX4.out 4 rfl; have hr4 := hide (RH.turnT H3.out.drew.ref H3.out.drew.tab hu4); have HW4 := hide hw4; have HT4 := hide ht4; have HU4 := hide hu4; have HB4 := hide (H3.out.drew.bel.trans (Only.below hu4 H3.out.drew.bel.size (fun b hb => by subst hb; exact hD.lt))); clear ht4 hu4 hw4)
    | (go_simp; go_at_call 35; have hT2 := Take_ref br l x.ra x.rcap x.rows w4 hr4.out (HRB.out.below HB4.out) (by omega); rw [← HTK.out] at hT2; refine hT2.mono ?_; rintro e w5 ⟨rfl, hr5, hu5, hw5⟩; have HX5 := hide (box_turn HX4.out hu5 hlr2); have v4 : w5.cell? ⟨w.heap.size, 4, none⟩ = some (.slice x.ra x.rows.length x.rcap) := cellB HX5.out 4 rfl; have HR5 := hide hr5; have HU5 := hide hu5; have HW5 := hide hw5; clear hr5 hu5 hw5 hT2)
    | (go_simp; go_at_call 18; have hO4 := own_stay HOd.out (fun g hg => HU4.out.block g (HOd.out.lt g hg).2 (by obtain ⟨_, _, _, htg, _⟩ := H3.out.drew.tab; exact own_ne HOd.out htg (by decide) hg)); have hO5 := own_stay hO4 (fun g hg => HU5.out.block g (hO4.lt g hg).2 (by obtain ⟨_, _, _, htg, _⟩ := hr4.out; exact own_ne hO4 htg (by decide) hg)); have hB5 := HB4.out.trans (Only.below HU5.out HB4.out.size (fun b hb => by subst hb; exact hD.lr)); refine (sameRows_any _ _ _ _ x.rows w5 (RL.of_own hO5).lies (HRB.out.below hB5) (by omega)).mono ?_; rintro e w6 ⟨rfl, hb6⟩; have HO6 := hide (own_below hO5 hb6); have HB6 := hide (hB5.trans (hb6.mono hB5.size)); have HT6 := hide ((TH.turnR HT4.out hr4.out HU5.out).below hb6); have HR6 := hide (HR5.out.below hb6); have HBt : Hid (tabBlk w6 bt = tabBlk w4 bt) := (tabBlk_same (hb6.block bt (TH.turnR HT4.out hr4.out HU5.out).lt)).trans (blk_turnR HT4.out hr4.out HU5.out); have HBr : Hid (tabBlk w6 br = tabBlk w5 br) := tabBlk_same (hb6.block br HR5.out.lt); clear hO4 hO5 hB5 hb6))
  all_goals
    have hSp := spoilRows_any a3 x.rows.length c3 w6 (RL.of_own HO6.out).rs (RL.of_own HO6.out).room
    have HSb : Hid (∀ g, blk a3 = some g → w2.heap.size ≤ g ∧ g < w3.heap.size) := fun g hg => ⟨own_blk HO6.out hg, by
      obtain ⟨cur, hc⟩ := (RL.of_own HO3.out).lt hg
      exact (Array.getElem?_eq_some_iff.1 hc).1⟩
    go_wp2_with fail
    refine hSp.mono ?_
    rintro e w7 ⟨rfl, hS⟩
    have q1 := hD0.tab.lt
    have q2 := hD0.ref.lt
    have hT7 := TH.spl HT6.out hS (fun h => by have := (HSb.out _ h).1; omega) (fun g hg h => by
      rw [HBt.out] at hg
      have h1 := HSb.out g h
      rcases HW4.out g hg with h2 | h2
      · have h3 : tabBlk w2 bt = some g := by rw [← h2]; exact (tabBlk_same (hb3.out.block bt q1)).symm
        have := hD0.tab.blkLt h3
        omega
      · have h3 : w3.drew.heap.size = w3.heap.size := rfl
        omega)
    have hR7 := RH.spl HR6.out hS (fun h => by have := (HSb.out _ h).1; omega) (fun g hg h => by
      rw [HBr.out] at hg
      have h1 := HSb.out g h
      rcases HW5.out g hg with h2 | h2
      · have h4 : tabBlk w4 br = tabBlk w3.drew br := blk_turnT H3.out.drew.ref H3.out.drew.tab HU4.out
        rw [h4] at h2
        have h3 : tabBlk w2 br = some g := by rw [← h2]; exact (tabBlk_same (hb3.out.block br q2)).symm
        have := RH.blkLt hD0.ref h3
        omega
      · have h3 := HU4.out.size
        have h5 : w3.drew.heap.size = w3.heap.size := rfl
        omega)
    have hB7 := HB6.out.trans (Only.below hS.only HB6.out.size (fun b hb => by have := (HSb.out _ hb).1; have := hD0.bel.size; omega))
    clear hSp hS
    go_wp2
    go_ret
    exact ⟨rfl, tl, hT7, hR7, hD.lt, hD.lr, hB7⟩

end Go.Proofs.Ythdempdiibjabaa.Tr

namespace Go.Proofs.Ythdempdiibjabaa.Tr
open Go.RowKit Go.Joins Go.Proofs.Ythdempdiibjabaa.Gk Go.Proofs.Ythdempdiibjabaa.Oq Go.Proofs.Ythdempdiibjabaa.Sp Go.Proofs.Ythdempdiibjabaa.Tb

theorem dos_res (l : List Rw) (ops : List Opn) : (dos l ops).1.res.length ≤ ops.length := by
  unfold dos
  split
  · simp
  · split
    · simp
    · split
      · simp only [runs_len]; omega
      · split
        · simp
        · simp only [runs_len]; omega

set_option maxRecDepth 100000 in
set_option maxHeartbeats 1600000 in
theorem step_do (B : World) (bt br : Nat) (l : List Rw) (x : ActV) (w : World) (hD : Duo B bt br l w) (hx : ActAt B x) (hk : x.kind % 4 = 0) :
    Calls Try.prog 16 #[ptr bt, ptr br, ActV.v x] w fun e w' => e = .returned (.bool true) ∧ ∃ l', Duo B bt br l' w' := by
  have hkb := hx.kind
  have hby := hx.bytes
  have hb0 := below_a1 w (.cells (actC x) ActT)
  have hx0 := heap_alloc_new w (.cells (actC x) ActT)
  have hD0 := hD.call hb0
  have hlt2 : w.heap.size ≠ bt := by have := hD.tab.lt; omega
  have hlr2 : w.heap.size ≠ br := by have := hD.ref.lt; omega
  go_enter Try.func16, Try.ntmps16
  go_wp2_with fail
  refine (among_any x.kind 4 _ (by omega) (by omega) hkb.1 hkb.2).mono ?_
  rintro e w1 ⟨rfl, hw1⟩
  rw [hk]
  rw [← hw1]
  obtain ⟨w2, hw2⟩ : ∃ w2, w2 = w.alloc (.cells (actC x) ActT) := ⟨_, rfl⟩
  rw [← hw2] at hx0 hD0
  rw [← hw2]
  have y1 : w2.cell? ⟨w.heap.size, 1, none⟩ = some (.slice x.oa x.ops.length x.oc) := cellB hx0 1 rfl
  have hx2 := (Array.getElem?_eq_some_iff.1 hx0).1
  clear hw2 hw1 hb0
  have hRo := hx.ops
  go_wp2_with fail
  refine (lendOps_any x.oa x.oc x.ops w2 (hRo.lies.below hD0.bel) hRo.nil hby).mono ?_
  rintro e w3 ⟨g3, c3, rfl, ho3, hb3⟩
  have hx3 := (hb3.block _ hx2).trans hx0
  have hx3l := (Array.getElem?_eq_some_iff.1 hx3).1
  have hD3 := hD0.call hb3
  have hDo := Do_tb bt l (some ⟨g3, 0, none⟩) c3 x.ops w3 hD3.tab (lentO_lies ho3 rfl)
  obtain ⟨an, han⟩ : ∃ an, an = dos l x.ops := ⟨_, rfl⟩
  rw [← han] at hDo
  obtain ⟨⟨res, fa, fc⟩, l2⟩ := an
  have HAN := hide han
  clear y1 han
  go_wp2_with fail
  refine hDo.mono ?_
  rintro e w4 ⟨ra, rcap, rl, rfl, hP⟩
  have hx4 := box_turn hx3 hP.turn hlt2
  have hx4l := (Array.getElem?_eq_some_iff.1 hx4).1
  have z1 : w4.cell? ⟨w.heap.size, 1, none⟩ = some (.slice x.oa x.ops.length x.oc) := cellB hx4 1 rfl
  have hB4 := hD3.bel.trans (Only.below hP.turn hD3.bel.size (fun b hb => by subst hb; exact hD.lt))
  have hR4 := RH.turnT hD3.ref hD3.tab hP.turn
  have hba := below_a1 w4 (.cells #[.int .i64 fa, .int .i64 fc] FltT)
  have hfa := heap_alloc_new w4 (.cells #[.int .i64 fa, .int .i64 fc] FltT)
  have hDr := Do_ref br l x.oa x.oc x.ops _ (hR4.below hba) (hRo.lies.below (hB4.trans (hba.mono hB4.size)))
  rw [← HAN.out] at hDr
  clear hDo
  go_wp2_with fail
  refine hDr.mono ?_
  rintro e w6 ⟨ra6, rcap6, rl6, rfl, hQ⟩
  have hG4 := hP.got.below hba
  have hG6 := Got.turnR hG4 (hR4.below hba) hQ.turn
  have hT6 := TH.turnR (hP.tab.below hba) (hR4.below hba) hQ.turn
  have hB6 := (hB4.trans (hba.mono hB4.size)).trans (Only.below hQ.turn (Nat.le_trans hB4.size hba.size) (fun b hb => by subst hb; exact hD.lr))
  have hx6 := box_turn ((hba.block _ hx4l).trans hx4) hQ.turn hlr2
  have hx6l := (Array.getElem?_eq_some_iff.1 hx6).1
  have hf6 := box_turn hfa hQ.turn (by have := hR4.lt; omega)
  have hf6l := (Array.getElem?_eq_some_iff.1 hf6).1
  have q1 : w6.cell? ⟨w.heap.size, 1, none⟩ = some (.slice x.oa x.ops.length x.oc) := cellB hx6 1 rfl
  have q2 : w6.cell? ⟨w4.heap.size, 0, none⟩ = some (.int .i64 fa) := cellB hf6 0 rfl
  have q3 : w6.cell? ⟨w4.heap.size, 1, none⟩ = some (.int .i64 fc) := cellB hf6 1 rfl
  clear hDr z1
  have hll : rl6.length = rl.length := by
    have h1 := congrArg List.length (hP.eqs.trans hQ.eqs.symm)
    rw [List.length_map, List.length_map] at h1
    exact h1.symm
  rw [hll]
  have hrn : rl.length ≤ x.ops.length := by
    have h1 := congrArg List.length hP.eqs
    rw [List.length_map] at h1
    have h2 := dos_res l x.ops
    rw [← HAN.out] at h2
    simp only at h1 h2
    omega
  have hb7 := below_a1 w6 (.cells #[.int .i64 fa, .int .i64 fc] FltT)
  have hg7 := heap_alloc_new w6 (.cells #[.int .i64 fa, .int .i64 fc] FltT)
  have hSm := sameResults_any ra ra6 rcap rcap6 rl rl6 _ (hG6.below hb7).lies (hQ.res.below hb7) (hP.eqs.trans hQ.eqs.symm) (by omega) (fun y hy => by have h1 := (hG6.rows y hy).room; have h2 := (hG6.rows y hy).max; unfold maxLen at h2; omega)
  go_wp2_with fail
  refine hSm.mono ?_
  rintro e w8 ⟨rfl, hb8⟩
  have hb68 := hb7.trans (hb8.mono hb7.size)
  have hx8 := (hb68.block _ hx6l).trans hx6
  have hf8 := (hb68.block _ hf6l).trans hf6
  have hg8 := (hb8.block _ (Array.getElem?_eq_some_iff.1 hg7).1).trans hg7
  have u1 : w8.cell? ⟨w.heap.size, 1, none⟩ = some (.slice x.oa x.ops.length x.oc) := cellB hx8 1 rfl
  have u2 : w8.cell? ⟨w4.heap.size, 0, none⟩ = some (.int .i64 fa) := cellB hf8 0 rfl
  have u3 : w8.cell? ⟨w4.heap.size, 1, none⟩ = some (.int .i64 fc) := cellB hf8 1 rfl
  have u4 : w8.cell? ⟨w6.heap.size, 0, none⟩ = some (.int .i64 fa) := cellB hg8 0 rfl
  have u5 : w8.cell? ⟨w6.heap.size, 1, none⟩ = some (.int .i64 fc) := cellB hg8 1 rfl
  have e1 : (fa == fa) = true := by simp
  have e2 : (fc == fc) = true := by simp
  have ho4 := own_stay ho3 (fun g hg => hP.turn.block g (ho3.lt g hg).2 (by obtain ⟨_, _, _, htg, _⟩ := hD3.tab; exact own_ne ho3 htg (by decide) hg))
  have ho5 := own_below ho4 hba
  have ho6 := own_stay ho5 (fun g hg => hQ.turn.block g (ho5.lt g hg).2 (by obtain ⟨_, _, _, htg, _⟩ := hR4.below hba; exact own_ne ho5 htg (by decide) hg))
  have ho8 := own_below ho6 hb68
  have hB8 := hB6.trans (hb68.mono hB6.size)
  have hKp := keptOps_any g3 c3 x.oa x.oc x.ops w8 ho8 (hRo.lies.below hB8) (by omega)
  clear hSm q1 q2 q3 hb7 hg7 hb8 ho4 ho5 ho6
  go_wp2_with fail
  refine hKp.mono ?_
  rintro e w9 ⟨rfl, hb9⟩
  have hb69 := hb68.trans (hb9.mono hb68.size)
  have hG9 := hG6.below hb69
  have hT9 := hT6.below hb69
  have hR9 := hQ.tab.below hb69
  have hB9 := hB6.trans (hb69.mono hB6.size)
  have HSb : Hid (∀ g, (blk ra = some g ∨ ∃ y ∈ rl, blk y.a = some g) → w3.heap.size ≤ g ∧ g < w4.heap.size ∧ tabBlk w4 bt ≠ some g) := by
    intro g hg
    rcases hg with hg | ⟨y, hy, hg⟩
    · have hob : (Value.slice ra rl.length rcap).ownBlock = some g := by cases ra <;> exact hg
      have h1 := hP.row.lt g hob
      refine ⟨h1.1, h1.2, fun ht => ?_⟩
      obtain ⟨_, ta, tcap, htg, htl⟩ := hP.tab
      rw [tabBlk_is htg] at ht
      obtain ⟨cur, hc⟩ := htl.lt ht
      exact own_ne hP.row hc (by decide) hob rfl
    · obtain ⟨cur, hc⟩ := (hP.rows y hy).lt hg
      exact ⟨hP.new y hy g hg, (Array.getElem?_eq_some_iff.1 hc).1, hP.apart y hy g hg⟩
  have hSp := spoilResults_any ra rcap rl w9 hG9.lies.lies (fun g hg => by
    rcases hG9.row.2 with ⟨e, h0⟩ | ⟨g', cap', cur, e, _, hgg, _⟩
    · rw [(Value.slice.inj e).1] at hg; cases hg
    · rw [(Value.slice.inj e).1] at hg
      have h1 : g' = g := Option.some.inj hg
      rw [h1] at hgg
      exact ⟨cur, hgg⟩) (fun y hy => ⟨(hG9.rows y hy).rs, (hG9.rows y hy).room⟩) (by omega)
  have HBt : Hid (tabBlk w9 bt = tabBlk w4 bt) := ((tabBlk_same (hb69.block bt hT6.lt)).trans (blk_turnR (hP.tab.below hba) (hR4.below hba) hQ.turn)).trans (tabBlk_same (hba.block bt hP.tab.lt))
  have HBr : Hid (tabBlk w9 br = tabBlk w6 br) := tabBlk_same (hb69.block br hQ.tab.lt)
  clear hKp u1 u2 u3 u4 u5 hb68
  go_wp2_with fail
  refine hSp.mono ?_
  rintro e w10 ⟨rfl, hS⟩
  have k1 := hD3.tab.lt
  have k2 := hD3.ref.lt
  have hT10 := TH.spl hT9 hS (fun h => by have := (HSb.out _ h).1; omega) (fun g hg h => (HSb.out g h).2.2 (by rw [← HBt.out]; exact hg))
  have hR10 := RH.spl hR9 hS (fun h => by have := (HSb.out _ h).1; omega) (fun g hg h => by
    rw [HBr.out] at hg
    have h1 := HSb.out g h
    rcases hQ.own g hg with h2 | h2
    · rw [tabBlk_same (hba.block br hR4.lt), blk_turnT hD3.ref hD3.tab hP.turn] at h2
      have := RH.blkLt hD3.ref h2
      omega
    · have h3 := hba.size
      omega)
  have hB10 := hB9.trans (Only.below hS.only hB9.size (fun b hb => by have := (HSb.out _ hb).1; have := hD3.bel.size; omega))
  clear hSp hS
  go_wp2
  go_ret
  exact ⟨rfl, l2, hT10, hR10, hD.lt, hD.lr, hB10⟩

end Go.Proofs.Ythdempdiibjabaa.Tr
