/- The walk over vals: Put, where nothing is refused. -/
import Derived.Test.YtgfmnffaknmcnaaGreatDoorVlGet
namespace Go.Proofs.YtgfmnffaknmcnaaGreatDoor.Vl
open Go.RowKit Go.Joins
open Go.Proofs.YtgfmnffaknmcnaaGreatDoor.Dk (Bs Fil Fls St St.Ok Held Only Rising named getL getL_some)

section
variable {w0 w w' : World} {own : Nat → Prop} {bd bv most top : Nat} {S : St}
/-- another block's cell -/
theorem VH.set (h : VH w0 w own bd bv most top S) {b : Nat} (h1 : ¬ own b) (h2 : b ≠ bv) (h3 : w0.heap.size ≤ b) (i : Nat) (v : Value) : VH w0 (w.setCell ⟨b, i, none⟩ v) own bd bv most top S := by
  refine ⟨h.disk.frame fun k _ hk => Below.heap_setCell _ _ _ k (fun e => h1 (by have e : k = b := e; rw [← e]; exact hk)), fun x hx => ⟨(h.old x hx).1, by simpa using (h.old x hx).2⟩, (Below.heap_setCell _ _ _ bv (fun e => h2 (show bv = b from e).symm)).trans h.block, h.no, h.ge, h.env, ?_⟩
  exact h.base.trans ⟨rfl, rfl, rfl, by simp, fun k hk => Below.heap_setCell _ _ _ k (by show k ≠ b; omega)⟩
theorem only_sets {O : Nat → Prop} {w W : World} (h : Only O w W) {b : Nat} (hb : O b) (i : Nat) (v : Value) : Only O w (W.setCell ⟨b, i, none⟩ v) := h.trans (Only.of_set W (a := ⟨b, i, none⟩) hb v)
set_option maxRecDepth 100000 in
set_option maxHeartbeats 6400000 in
theorem Put_ok (h : VH w0 w own bd bv most top S) (htop : top ≤ 1048576) (s : ByteArray) (hs : s.size ≤ 65536) {n q : Nat} (hend : endR S most top = some (n, q)) (hn : n ≤ 1048576) (hap : (S.append (nm n) (frm s.data.toList)).1 = 0) :
    Calls Tryz.prog 10 #[.pointer (some ⟨bv, 0, none⟩), .string s] w fun e w' => e = .returned (.tuple #[.agg #[.int .i64 n, .int .i64 q, .int .i64 s.size], .int .i64 0]) ∧ ∃ own', VH w0 w' own' bd bv most (max top n) (S.append (nm n) (frm s.data.toList)).2 ∧ Stp (wi own bv) (wi own' bv) w w' := by
  have hmf := makeFunc_run
  have hFr := fun W => Frame_any s W (by omega)
  rw [show frameV s = .tuple #[.string ⟨(frm s.data.toList).toArray⟩, .int .i64 0] by rw [frameV, frame, if_neg (by omega)]; rfl] at hFr
  have hEn : ∀ W, Below w.heap.size w W → _ := fun W hb => end_any (h.below hb) htop
  simp only [hend, endE] at hEn
  have hnm : ∀ W, Below w.heap.size w W → Calls Tryz.prog 48 #[.int .i64 n] W fun e w' => e = .returned (.string (nt n)) ∧ Below W.heap.size W w' := fun W hb2 => nameOf_any _ (by omega) W (h.below hb2).envW
  have HA : Hid (∀ W, VH w0 W own bd bv most top S → Calls Tryz.prog 47 #[.pointer (some ⟨bd, 0, none⟩), .string (nt n), .string ⟨(frm s.data.toList).toArray⟩] W fun e w' => e = .returned (.int .i64 0) ∧ Held w' (plus own W.heap.size) bd (S.append (nm n) (frm s.data.toList)).2 ∧ Only (plus own W.heap.size) W w') := fun W hV => by
    have := Dk.append_any W (hV.disk.own fun _ _ ho => Or.inl ho) (own := plus own W.heap.size) (fun b hb => Or.inr hb) (nt n) ⟨(frm s.data.toList).toArray⟩ (nt_small (by omega)) (by show Array.size _ ≤ _; rw [List.size_toArray, frm_size]; omega)
    simp only [nt_list] at this
    rw [hap] at this
    exact this
  have HV := hide h
  have hno := h.no
  have hlt := h.lt
  generalize (S.append (nm n) (frm s.data.toList)).2 = S2 at *
  generalize (ByteArray.mk (frm s.data.toList).toArray) = F at *
  obtain ⟨g, hg⟩ : ∃ g : Nat, g = max top n := ⟨_, rfl⟩
  have hgc : max (top : Int) (n : Int) = (g : Int) := by omega
  rw [← hg]
  clear h hap hend hg
  go_enter_defers Tryz.func10, Tryz.ntmps10
  go_wp2_with fail
  obtain ⟨w1, hw1⟩ : ∃ w1, w1 = (w.alloc (.cells #[.int .i64 0, .int .i64 0, .int .i64 0] PlT)).alloc (.cells #[.int .i64 0] ErrT) := ⟨_, rfl⟩
  have hb1 : Below w.heap.size w w1 := by rw [hw1]; exact ((Below.refl _ _).alloc (Nat.le_refl _) _).alloc (by simp) _
  have hz1 : w1.heap.size = w.heap.size + 2 := by rw [hw1]; simp
  have HEB1 : Hid (w1.heap[w.heap.size + 1]? = some (.cells #[.int .i64 0] ErrT (0, 0))) := by
    show _ = _
    rw [hw1, show w.heap.size + 1 = (w.alloc (.cells #[.int .i64 0, .int .i64 0, .int .i64 0] PlT)).heap.size by simp]
    exact heap_alloc_new _ _
  have HPB1 : Hid (w1.heap[w.heap.size]? = some (.cells #[.int .i64 0, .int .i64 0, .int .i64 0] PlT (0, 0))) := by
    show _ = _
    rw [hw1]
    exact keepBlk (below_alloc1 _ _) (heap_alloc_new _ _)
  rw [← hw1]
  clear hw1
  refine (hFr w1).mono ?_
  rintro e w2 ⟨rfl, hb2⟩
  have hb12 := hb1.trans (hb2.mono hb1.size)
  have hE2 := hEn w2 hb12
  go_wp2_with (first | (go_at_call 45; refine (pass_no _).mono ?_; rintro e w2' ⟨rfl, rfl⟩))
  refine hE2.mono ?_
  rintro e w3 ⟨rfl, hb3⟩
  have hb13 := hb12.trans (hb3.mono hb12.size)
  have hb23 : Below w1.heap.size w1 w3 := hb2.trans (hb3.mono hb2.size)
  have h3 := HV.out.below hb13
  have hc0 := h3.c0
  have hUS : US bv bd w3 := ⟨hc0, h3.lt⟩
  have H3 := hide h3
  have HB13 := hide hb13
  have HB23 := hide hb23
  have hnm2 : ∀ W, Below w3.heap.size w3 W → _ := fun W hb => hnm W (HB13.out.trans (hb.mono HB13.out.size))
  have happ : ∀ W, Below w3.heap.size w3 W → _ := fun W hb => HA.out W (H3.out.below hb)
  have HZ1 := hide hz1
  clear hE2 hEn hFr hnm HA h3 hb1 hb2 hb3 hb12 hb13 hb23 hz1
  go_wp2
  go_region_held3 (US bv bd) (first | with_reducible exact US.drew (by assumption) | with_reducible exact US.call (by assumption) (by assumption) | with_reducible exact US.only (by assumption) hno (by assumption) | with_reducible assumption)
    (first | (go_at_call 48; refine (hnm2 _ (by first | exact Below.refl _ _ | exact (Below.refl _ _).drew)).mono ?_; rintro e w4 ⟨rfl, hb4⟩; have HB4 : Hid (Below w3.heap.size w3 w4) := by first | exact hb4 | exact ((Below.refl _ _).drew).trans hb4) | (go_at_call 47; refine (happ _ (by first | exact HB4.out | exact HB4.out.drew)).mono ?_; rintro e w5 ⟨rfl, hH5, hO5⟩) | (go_at_call 45; refine (pass_no _).mono ?_; rintro e w6 ⟨rfl, rfl⟩))
  rename_i hHeld
  have hT := (H3.out.below HB4.out).turn hH5 hO5
  have hold : ∀ b, w.heap.size ≤ b → ¬ own b := fun b hb ho => by have := (HV.out.old b ho).2; omega
  have hst : ∀ b, w.heap.size ≤ b → b < w1.heap.size → w6.heap[b]? = w1.heap[b]? := fun b hb1 hb2 => by
    have s3 := HB23.out.size
    have s4 := HB4.out.size
    exact (hO5.block b (by omega) fun e => e.elim (hold b hb1) (by omega)).trans ((HB4.out.block b (by omega)).trans (HB23.out.block b hb2))
  have HEB6 : Hid (w6.heap[w.heap.size + 1]? = some (.cells #[.int .i64 0] ErrT (0, 0))) := (hst _ (by omega) (by have := HZ1.out; omega)).trans HEB1.out
  have HPB6 : Hid (w6.heap[w.heap.size]? = some (.cells #[.int .i64 0, .int .i64 0, .int .i64 0] PlT (0, 0))) := (hst _ (by omega) (by have := HZ1.out; omega)).trans HPB1.out
  have HT := hide hT
  have c2 := hT.1.c2
  have z2 := hT.1.fz 2
  have x0 : w6.cell? ⟨w.heap.size, 0, none⟩ = some (.int .i64 0) := cell_of_block HPB6.out 0
  have x1 : w6.cell? ⟨w.heap.size, 1, none⟩ = some (.int .i64 0) := cell_of_block HPB6.out 1
  have x2 : w6.cell? ⟨w.heap.size, 2, none⟩ = some (.int .i64 0) := cell_of_block HPB6.out 2
  have y0 := unfrozen_of_block HPB6.out 0
  have y1 := unfrozen_of_block HPB6.out 1
  have y2 := unfrozen_of_block HPB6.out 2
  have e0 : w6.cell? ⟨w.heap.size + 1, 0, none⟩ = some (.int .i64 0) := cell_of_block HEB6.out 0
  have e1 := unfrozen_of_block HEB6.out 0
  have n1 : ¬ w.heap.size = bv := by omega
  have n2 : ¬ bv = w.heap.size := by omega
  have n3 : ¬ w.heap.size + 1 = bv := by omega
  have n4 : ¬ bv = w.heap.size + 1 := by omega
  clear hHeld hT hst hH5 hO5 hnm2 happ hUS hc0 hb4 HEB1 HPB1 hold hlt
  go_wp2
  obtain ⟨w7, hw7⟩ : ∃ w7, w7 = w6.setCell ⟨bv, 2, none⟩ (.int .i64 g) := ⟨_, rfl⟩
  have h7 := HT.out.1.topped g
  have b7 : w7.heap[w.heap.size]? = some (.cells #[.int .i64 0, .int .i64 0, .int .i64 0] PlT (0, 0)) := by rw [hw7]; exact (Below.heap_setCell _ _ _ w.heap.size n1).trans HPB6.out
  have d7 : w7.heap[w.heap.size + 1]? = some (.cells #[.int .i64 0] ErrT (0, 0)) := by rw [hw7]; exact (Below.heap_setCell _ _ _ (w.heap.size + 1) n3).trans HEB6.out
  rw [← hw7] at h7 ⊢
  have hsz := HB23.out.size
  have hsz4 := HB4.out.size
  have hz1 := HZ1.out
  have k0 : ∀ b, w.heap.size ≤ b → b < w.heap.size + 2 → ¬ (plus own w4.heap.size b ∧ b < w6.heap.size) := fun b hb1 hb2 hb => hb.1.elim (fun ho => by have := (HV.out.old b ho).2; omega) (by omega)
  have hg0 := HV.out.base.size
  obtain ⟨w8, hw8⟩ : ∃ w8, w8 = ((((w7.setCell ⟨w.heap.size, 0, none⟩ (.int .i64 n)).setCell ⟨w.heap.size, 1, none⟩ (.int .i64 q)).setCell ⟨w.heap.size, 2, none⟩ (.int .i64 s.size)).setCell ⟨w.heap.size + 1, 0, none⟩ (.int .i64 0)) := ⟨_, rfl⟩
  have hV8 : VH w0 w8 (fun b => plus own w4.heap.size b ∧ b < w6.heap.size) bd bv most g S2 := by rw [hw8]; exact (((h7.1.set (k0 _ (by omega) (by omega)) n1 hg0 0 _).set (k0 _ (by omega) (by omega)) n1 hg0 1 _).set (k0 _ (by omega) (by omega)) n1 hg0 2 _).set (k0 (w.heap.size + 1) (by omega) (by omega)) n3 (by omega) 0 _
  have hO7 : Only (plus (wi own bv) w.heap.size) w w7 := (Only.of_below (HB13.out.trans (HB4.out.mono HB13.out.size))).trans ((HT.out.2.trans h7.2).only.mono fun b _ hb => hb.imp id fun h => by omega)
  have hO8 : Only (plus (wi own bv) w.heap.size) w w8 := by rw [hw8]; exact only_sets (only_sets (only_sets (only_sets hO7 (Or.inr (Nat.le_refl _)) 0 _) (Or.inr (Nat.le_refl _)) 1 _) (Or.inr (Nat.le_refl _)) 2 _) (b := w.heap.size + 1) (Or.inr (by omega)) 0 _
  have b8 : w8.heap[w.heap.size]? = some (.cells #[.int .i64 n, .int .i64 q, .int .i64 s.size] PlT (0, 0)) := by
    rw [hw8]
    refine (Below.heap_setCell _ _ _ w.heap.size (by show w.heap.size ≠ w.heap.size + 1; omega)).trans ?_
    rw [block_setCell (block_setCell (block_setCell b7 _) _) _]; rfl
  have d8 : w8.heap[w.heap.size + 1]? = some (.cells #[.int .i64 0] ErrT (0, 0)) := by
    rw [hw8]
    rw [block_setCell ((Below.heap_setCell _ ⟨w.heap.size, 2, none⟩ _ (w.heap.size + 1) (by show w.heap.size + 1 ≠ w.heap.size; omega)).trans ((Below.heap_setCell _ ⟨w.heap.size, 1, none⟩ _ (w.heap.size + 1) (by show w.heap.size + 1 ≠ w.heap.size; omega)).trans ((Below.heap_setCell _ ⟨w.heap.size, 0, none⟩ _ (w.heap.size + 1) (by show w.heap.size + 1 ≠ w.heap.size; omega)).trans d7))) _]; rfl
  rw [← hw8]
  have HSUB : Hid (∀ b, wi (fun b => plus own w4.heap.size b ∧ b < w6.heap.size) bv b → wi own bv b ∨ w.heap.size ≤ b) := fun b hb => by
    rcases hb with hb | rfl
    · exact hb.1.imp Or.inl fun h => by omega
    · exact Or.inl (Or.inr rfl)
  clear hw8 hw7 b7 d7 h7 hO7 x0 x1 x2 y0 y1 y2 e0 e1 c2 z2
  refine leaves_cons (f := 43) (args := #[.pointer (some ⟨w.heap.size + 1, 0, none⟩)]) (by simp) (by simp [go_sem]) ?_
  refine (put_idle ⟨w.heap.size + 1, 0, none⟩ 0 _ (cell_one d8) (unfrozen_of_block d8 0)).mono ?_
  rintro e u' w9 ⟨rfl, rfl, rfl⟩
  have hV9 := hV8.set (k0 (w.heap.size + 1) (by omega) (by omega)) n3 (by omega) 0 (.int .i64 0)
  have hO9 := only_sets hO8 (b := w.heap.size + 1) (Or.inr (by omega)) 0 (.int .i64 0)
  have d9 : (w8.setCell ⟨w.heap.size + 1, 0, none⟩ (.int .i64 0)).heap[w.heap.size + 1]? = some (.cells #[.int .i64 0] ErrT (0, 0)) := by rw [block_setCell d8]; rfl
  have b9 : (w8.setCell ⟨w.heap.size + 1, 0, none⟩ (.int .i64 0)).heap[w.heap.size]? = some (.cells #[.int .i64 n, .int .i64 q, .int .i64 s.size] PlT (0, 0)) := (Below.heap_setCell _ _ _ w.heap.size (by show w.heap.size ≠ w.heap.size + 1; omega)).trans b8
  generalize w8.setCell ⟨w.heap.size + 1, 0, none⟩ (.int .i64 0) = w9 at *
  have r0 := cell_one d9
  have r1 : w9.cell? ⟨w.heap.size, 0, none⟩ = some (.int .i64 n) := cell_of_block b9 0
  have r2 : w9.cell? ⟨w.heap.size, 1, none⟩ = some (.int .i64 q) := cell_of_block b9 1
  have r3 : w9.cell? ⟨w.heap.size, 2, none⟩ = some (.int .i64 s.size) := cell_of_block b9 2
  simp [Leaves, settle, results, Tryz.results10, go_sem, r0, r1, r2, r3]
  exact ⟨_, hV9, HSUB.out, hO9⟩
end

end Go.Proofs.YtgfmnffaknmcnaaGreatDoor.Vl
