/- The walks over vals: Places, Remove. -/
import Derived.Test.YtlojajgehaiefaaGreatDoorVlOpen
namespace Go.Proofs.YtlojajgehaiefaaGreatDoor.Vl
open Go.RowKit Go.Joins
open Go.Proofs.YtlojajgehaiefaaGreatDoor.Dk (Bs Fil Fls St St.Ok Held Only Rising named getL getL_some)

section
variable {w0 w w' : World} {own : Nat → Prop} {bd bv most top : Nat} {S : St}
set_option maxRecDepth 100000 in
set_option maxHeartbeats 1600000 in
theorem Places_yes (h : VH w0 w own bd bv most top S) {n : Nat} (hn : n ∈ nums S) :
    Calls Tryz.prog 17 #[.pointer (some ⟨bv, 0, none⟩), .int .i64 n] w fun e w' => ∃ v, e = .returned (.tuple #[v, .int .i64 0]) ∧ w'.ownsRow w.heap.size PlT 3 v (plcsOf n ⟨(dat S n).toArray⟩).length (Gk.rc plE (plcsOf n ⟨(dat S n).toArray⟩)) ∧ Below w.heap.size w w' := by
  have hmf := makeFunc_run
  have hb := nums_bound hn
  have hdl := dat_le h.ok (show n ≤ 1048577 by omega)
  have hds : (ByteArray.mk (dat S n).toArray).size = (dat S n).length := by show Array.size _ = _; simp
  have hP := fun W => placesIn_any n ⟨(dat S n).toArray⟩ W (by omega)
  obtain ⟨w1, hw1⟩ : ∃ w1, w1 = w.alloc (.cells #[.int .i64 0] ErrT) := ⟨_, rfl⟩
  have hb1 : Below w.heap.size w w1 := by rw [hw1]; exact below_alloc1 _ _
  have hEB : w1.heap[w.heap.size]? = some (.cells #[.int .i64 0] ErrT (0, 0)) := by rw [hw1]; exact heap_alloc_new _ _
  have hz1 : w1.heap.size = w.heap.size + 1 := by rw [hw1]; simp
  have hR := read_yes (h.below hb1) hn
  generalize (ByteArray.mk (dat S n).toArray) = D at *
  generalize plcsOf n D = T at *
  generalize (frames D).2 = q at *
  clear h hn hds
  go_enter_defers Tryz.func17, Tryz.ntmps17
  go_wp2_with fail
  rw [← hw1]
  refine hR.mono ?_
  rintro e w2 ⟨rfl, hb2⟩
  have hPP := hP w2
  clear hR hP hw1
  go_wp2_with fail
  refine hPP.mono ?_
  rintro e w3 ⟨v, rfl, hown, hb3⟩
  have hEB3 := keepBlk hb3 (keepBlk hb2 hEB)
  have e0 := cell_one hEB3
  have e1 := unfrozen_of_block hEB3 0
  have hbl : Below w.heap.size w w3 := (hb1.trans (hb2.mono hb1.size)).trans (hb3.mono (Nat.le_trans hb1.size hb2.size))
  have hown' : w3.ownsRow (w.heap.size + 1) PlT 3 v T.length (Gk.rc plE T) := Gk.own_mono hown (by have := hb2.size; omega)
  have HOW := hide hown'
  clear hPP hown hown'
  go_wp2
  obtain ⟨f1, f2⟩ := set_one hbl (Nat.le_refl _) hEB3 (.int .i64 0)
  refine leaves_cons (f := 52) (args := #[.pointer (some ⟨w.heap.size, 0, none⟩)]) (by simp) (by simp [go_sem]) ?_
  refine (places_idle ⟨w.heap.size, 0, none⟩ 0 _ (cell_one f2) (unfrozen_of_block f2 0)).mono ?_
  rintro e u' w9 ⟨rfl, rfl, rfl⟩
  obtain ⟨f3, f4⟩ := set_one f1 (Nat.le_refl _) f2 (.int .i64 0)
  have hstay : ∀ g, v.ownBlock = some g → ((w3.setCell ⟨w.heap.size, 0, none⟩ (.int .i64 0)).setCell ⟨w.heap.size, 0, none⟩ (.int .i64 0)).heap[g]? = w3.heap[g]? := fun g hg => by
    have h1 := (HOW.out.lt g hg).1
    exact (Below.heap_setCell _ _ _ g (by show g ≠ w.heap.size; omega)).trans (Below.heap_setCell _ _ _ g (by show g ≠ w.heap.size; omega))
  have hown9 := Gk.own_mono (Gk.own_stay HOW.out hstay) (Nat.le_succ w.heap.size)
  generalize (w3.setCell ⟨w.heap.size, 0, none⟩ (.int .i64 0)).setCell ⟨w.heap.size, 0, none⟩ (.int .i64 0) = w9 at *
  have r0 := cell_one f4
  simp [Leaves, settle, results, Tryz.results17, go_sem, r0]
  exact ⟨hown9, f3⟩
set_option maxRecDepth 100000 in
theorem Remove_no (h : VH w0 w own bd bv most top S) {z : Int} (hn : hasN (nums S) z = false) :
    Calls Tryz.prog 21 #[.pointer (some ⟨bv, 0, none⟩), .int .i64 z] w fun e w' => e = .returned (.int .i64 110) ∧ Below w.heap.size w w' := by
  have hmf := makeFunc_run
  obtain ⟨w1, hw1⟩ : ∃ w1, w1 = w.alloc (.cells #[.int .i64 0] ErrT) := ⟨_, rfl⟩
  have hb1 : Below w.heap.size w w1 := by rw [hw1]; exact below_alloc1 _ _
  have hEB : w1.heap[w.heap.size]? = some (.cells #[.int .i64 0] ErrT (0, 0)) := by rw [hw1]; exact heap_alloc_new _ _
  have hF := find_any (h.below hb1) z
  rw [if_neg (by simp [hn])] at hF
  clear h hn
  go_enter_defers Tryz.func21, Tryz.ntmps21
  go_wp2_with fail
  rw [← hw1]
  refine hF.mono ?_
  rintro e w2 ⟨rfl, hb2⟩
  have hEB2 := keepBlk hb2 hEB
  have hbl : Below w.heap.size w w2 := hb1.trans (hb2.mono hb1.size)
  refine leaves_cons (f := 62) (args := #[.pointer (some ⟨w.heap.size, 0, none⟩)]) (by simp) (by simp [go_sem]) ?_
  refine (remove_pan ⟨w.heap.size, 0, none⟩ 0 110 [] _ (cell_one hEB2) (unfrozen_of_block hEB2 0)).mono ?_
  rintro e u' w9 ⟨rfl, rfl, rfl⟩
  obtain ⟨f3, f4⟩ := set_one hbl (Nat.le_refl _) hEB2 (.int .i64 110)
  have r0 := cell_one f4
  simp [Leaves, settle, results, Tryz.results21, go_sem, r0]
  exact f3
set_option maxRecDepth 100000 in
set_option maxHeartbeats 3200000 in
theorem Remove_yes (h : VH w0 w own bd bv most top S) {n : Nat} (hn : n ∈ nums S) (hap : (S.remove (nm n)).1 = 0) :
    Calls Tryz.prog 21 #[.pointer (some ⟨bv, 0, none⟩), .int .i64 n] w fun e w' => e = .returned (.int .i64 0) ∧ ∃ own', VH w0 w' own' bd bv most top (S.remove (nm n)).2 ∧ Stp (wi own bv) (wi own' bv) w w' := by
  have hmf := makeFunc_run
  have hb := nums_bound hn
  obtain ⟨w1, hw1⟩ : ∃ w1, w1 = w.alloc (.cells #[.int .i64 0] ErrT) := ⟨_, rfl⟩
  have hb1 : Below w.heap.size w w1 := by rw [hw1]; exact below_alloc1 _ _
  have hz1 : w1.heap.size = w.heap.size + 1 := by rw [hw1]; simp
  have hEB : w1.heap[w.heap.size]? = some (.cells #[.int .i64 0] ErrT (0, 0)) := by rw [hw1]; exact heap_alloc_new _ _
  have hF := find_any (h.below hb1) n
  rw [if_pos (hasN_yes hn)] at hF
  have hnm : ∀ W, Below w.heap.size w W → Calls Tryz.prog 50 #[.int .i64 n] W fun e w' => e = .returned (.string (nt n)) ∧ Below W.heap.size W w' := fun W hb2 => nameOf_any _ (by omega) W (h.below hb2).envW
  have HA : Hid (∀ W, VH w0 W own bd bv most top S → Calls Tryz.prog 64 #[.pointer (some ⟨bd, 0, none⟩), .string (nt n)] W fun e w' => e = .returned (.int .i64 0) ∧ Held w' (plus own W.heap.size) bd (S.remove (nm n)).2 ∧ Only (plus own W.heap.size) W w') := fun W hV => by
    have := Dk.remove_any W (hV.disk.own fun _ _ ho => Or.inl ho) (own := plus own W.heap.size) (nt n) (nt_small (by omega))
    simp only [nt_list] at this
    rw [hap] at this
    exact this
  have HV := hide h
  have hno := h.no
  have hlt := h.lt
  generalize (S.remove (nm n)).2 = S2 at *
  clear h hap hn
  go_enter_defers Tryz.func21, Tryz.ntmps21
  go_wp2_with fail
  rw [← hw1]
  refine hF.mono ?_
  rintro e w3 ⟨rfl, hb3⟩
  have hb13 := hb1.trans (hb3.mono hb1.size)
  have h3 := HV.out.below hb13
  have hc0 := h3.c0
  have hUS : US bv bd w3 := ⟨hc0, h3.lt⟩
  have H3 := hide h3
  have HB13 := hide hb13
  have HB23 := hide hb3
  have hnm2 : ∀ W, Below w3.heap.size w3 W → _ := fun W hb => hnm W (HB13.out.trans (hb.mono HB13.out.size))
  have happ : ∀ W, Below w3.heap.size w3 W → _ := fun W hb => HA.out W (H3.out.below hb)
  have HZ1 := hide hz1
  have HEB1 := hide hEB
  clear hF hnm HA h3 hb1 hb3 hb13 hz1 hw1 hEB
  go_wp2
  go_region_held3 (US bv bd) (first | with_reducible exact US.drew (by assumption) | with_reducible exact US.call (by assumption) (by assumption) | with_reducible exact US.only (by assumption) hno (by assumption) | with_reducible assumption)
    (first | (go_at_call 50; refine (hnm2 _ (by first | exact Below.refl _ _ | exact (Below.refl _ _).drew)).mono ?_; rintro e w4 ⟨rfl, hb4⟩; have HB4 : Hid (Below w3.heap.size w3 w4) := by first | exact hb4 | exact ((Below.refl _ _).drew).trans hb4) | (go_at_call 64; refine (happ _ (by first | exact HB4.out | exact HB4.out.drew)).mono ?_; rintro e w5 ⟨rfl, hH5, hO5⟩) | (go_at_call 48; refine (pass_no _).mono ?_; rintro e w6 ⟨rfl, rfl⟩))
  rename_i hHeld
  have hT := (H3.out.below HB4.out).turn hH5 hO5
  have hold : ¬ own w.heap.size := fun ho => by have := (HV.out.old _ ho).2; omega
  have s3 := HB23.out.size
  have s4 := HB4.out.size
  have z1 := HZ1.out
  have hEB6 : w6.heap[w.heap.size]? = some (.cells #[.int .i64 0] ErrT (0, 0)) := ((hO5.block w.heap.size (by omega) fun e => e.elim hold (by omega)).trans ((HB4.out.block w.heap.size (by omega)).trans (HB23.out.block w.heap.size (by omega)))).trans HEB1.out
  have hO6 : Only (plus (wi own bv) w.heap.size) w w6 := (Only.of_below (HB13.out.trans (HB4.out.mono HB13.out.size))).trans (hT.2.only.mono fun b _ hb => hb.imp id fun h => by have := HB13.out.size; omega)
  have HT := hide hT.1
  have HSUB : Hid (∀ b, wi (fun b => plus own w4.heap.size b ∧ b < w6.heap.size) bv b → wi own bv b ∨ w.heap.size ≤ b) := fun b hb => by
    rcases hb with hb | rfl
    · exact hb.1.imp Or.inl fun h => by omega
    · exact Or.inl (Or.inr rfl)
  have ho6 : ¬ (plus own w4.heap.size w.heap.size ∧ w.heap.size < w6.heap.size) := fun e => e.1.elim hold (by omega)
  have hne : w.heap.size ≠ bv := by omega
  have hg0 := HV.out.base.size
  have e0 := cell_one hEB6
  have e1 := unfrozen_of_block hEB6 0
  clear hHeld hT hH5 hO5 hnm2 happ hUS hc0 hb4 HEB1
  go_wp2
  have d8 : (w6.setCell ⟨w.heap.size, 0, none⟩ (.int .i64 0)).heap[w.heap.size]? = some (.cells #[.int .i64 0] ErrT (0, 0)) := by rw [block_setCell hEB6]; rfl
  have hV8 := HT.out.set ho6 hne hg0 0 (.int .i64 0)
  have hO8 := only_sets hO6 (Or.inr (Nat.le_refl _)) 0 (.int .i64 0)
  generalize w6.setCell ⟨w.heap.size, 0, none⟩ (.int .i64 0) = w8 at *
  refine leaves_cons (f := 62) (args := #[.pointer (some ⟨w.heap.size, 0, none⟩)]) (by simp) (by simp [go_sem]) ?_
  refine (remove_idle ⟨w.heap.size, 0, none⟩ 0 _ (cell_one d8) (unfrozen_of_block d8 0)).mono ?_
  rintro e u' w9 ⟨rfl, rfl, rfl⟩
  have d9 : (w8.setCell ⟨w.heap.size, 0, none⟩ (.int .i64 0)).heap[w.heap.size]? = some (.cells #[.int .i64 0] ErrT (0, 0)) := by rw [block_setCell d8]; rfl
  have hV9 := hV8.set ho6 hne hg0 0 (.int .i64 0)
  have hO9 := only_sets hO8 (Or.inr (Nat.le_refl _)) 0 (.int .i64 0)
  generalize w8.setCell ⟨w.heap.size, 0, none⟩ (.int .i64 0) = w9 at *
  have r0 := cell_one d9
  simp [Leaves, settle, results, Tryz.results21, go_sem, r0]
  exact ⟨_, hV9, HSUB.out, hO9⟩
end

end Go.Proofs.YtlojajgehaiefaaGreatDoor.Vl
