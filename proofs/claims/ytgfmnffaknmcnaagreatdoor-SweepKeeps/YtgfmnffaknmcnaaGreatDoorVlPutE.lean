/- The walk over vals: Put, where the disk refuses. Put, whatever the disk says: the value is put, or there is no room. -/
import Derived.Test.YtgfmnffaknmcnaaGreatDoorVlPut
import Derived.Test.YtgfmnffaknmcnaaGreatDoorVlGetN
import Derived.Test.YtgfmnffaknmcnaaGreatDoorVlSt
namespace Go.Proofs.YtgfmnffaknmcnaaGreatDoor.Vl
open Go.RowKit Go.Joins
open Go.Proofs.YtgfmnffaknmcnaaGreatDoor.Dk (Bs Fil Fls St St.Ok Held Only Rising named getL getL_some)

theorem res_putP (a : Act) (t : Nat) (v : Value) (h4 : t ≠ 4) (h5 : t ≠ 5) : results Tryz.f10 (a.put (some t) v).tmps = results Tryz.f10 a.tmps := by
  simp [results, Tryz.results10, Act.put, h4, h5]
section
variable {w0 w w' : World} {own : Nat → Prop} {bd bv most top : Nat} {S : St}
set_option maxRecDepth 100000 in
set_option maxHeartbeats 6400000 in
theorem Put_no (h : VH w0 w own bd bv most top S) (htop : top ≤ 1048576) (s : ByteArray) (hs : s.size ≤ 65536) {n q : Nat} (hend : endR S most top = some (n, q)) (hn : n ≤ 1048576) {c : Nat} (hcz : c ≠ 0) (hap : S.append (nm n) (frm s.data.toList) = (c, S)) :
    Calls Tryz.prog 10 #[.pointer (some ⟨bv, 0, none⟩), .string s] w fun e w' => e = .returned (.tuple #[.agg #[.int .i64 0, .int .i64 0, .int .i64 0], .int .i64 c]) ∧ ∃ own', VH w0 w' own' bd bv most top S ∧ Stp (wi own bv) (wi own' bv) w w' := by
  have hmf := makeFunc_run
  have hFr := fun W => Frame_any s W (by omega)
  rw [show frameV s = .tuple #[.string ⟨(frm s.data.toList).toArray⟩, .int .i64 0] by rw [frameV, frame, if_neg (by omega)]; rfl] at hFr
  have hEn : ∀ W, Below w.heap.size w W → _ := fun W hb => end_any (h.below hb) htop
  simp only [hend, endE] at hEn
  have hnm : ∀ W, Below w.heap.size w W → Calls Tryz.prog 48 #[.int .i64 n] W fun e w' => e = .returned (.string (nt n)) ∧ Below W.heap.size W w' := fun W hb2 => nameOf_any _ (by omega) W (h.below hb2).envW
  have HA : Hid (∀ W, VH w0 W own bd bv most top S → Calls Tryz.prog 47 #[.pointer (some ⟨bd, 0, none⟩), .string (nt n), .string ⟨(frm s.data.toList).toArray⟩] W fun e w' => e = .returned (.int .i64 c) ∧ Held w' (plus own W.heap.size) bd S ∧ Only (plus own W.heap.size) W w') := fun W hV => by
    have := Dk.append_any W (hV.disk.own fun _ _ ho => Or.inl ho) (own := plus own W.heap.size) (fun b hb => Or.inr hb) (nt n) ⟨(frm s.data.toList).toArray⟩ (nt_small (by omega)) (by show Array.size _ ≤ _; rw [List.size_toArray, frm_size]; omega)
    simp only [nt_list] at this
    rw [hap] at this
    exact this
  have HV := hide h
  have hno := h.no
  have hlt := h.lt
  generalize (ByteArray.mk (frm s.data.toList).toArray) = F at *
  clear h hap hend
  go_enter_defers Tryz.func10, Tryz.ntmps10
  go_wp2_with fail
  obtain ⟨w1, hw1⟩ : ∃ w1, w1 = (w.alloc (.cells #[.int .i64 0, .int .i64 0, .int .i64 0] PlT)).alloc (.cells #[.int .i64 0] ErrT) := ⟨_, rfl⟩
  have hb1 : Below w.heap.size w w1 := by rw [hw1]; exact ((Below.refl _ _).alloc (Nat.le_refl _) _).alloc (by simp) _
  have hz1 : w1.heap.size = w.heap.size + 2 := by rw [hw1]; simp
  have HEB1 : Hid (w1.heap[w.heap.size + 1]? = some (.cells #[.int .i64 0] ErrT (0, 0))) := by
    show _ = _
    rw [hw1, show w.heap.size + 1 = (w.alloc (.cells #[.int .i64 0, .int .i64 0, .int .i64 0] PlT)).heap.size by simp]
    exact heap_alloc_new _ _
  have HPB1 : Hid (w1.heap[w.heap.size]? = some (.cells #[.int .i64 0, .int .i64 0, .int .i64 0] PlT (0, 0))) := by
    show _ = _
    rw [hw1]
    exact keepBlk (below_alloc1 _ _) (heap_alloc_new _ _)
  rw [← hw1]
  clear hw1
  refine (hFr w1).mono ?_
  rintro e w2 ⟨rfl, hb2⟩
  have hb12 := hb1.trans (hb2.mono hb1.size)
  have hE2 := hEn w2 hb12
  go_wp2_with (first | (go_at_call 45; refine (pass_no _).mono ?_; rintro e w2' ⟨rfl, rfl⟩))
  refine hE2.mono ?_
  rintro e w3 ⟨rfl, hb3⟩
  have hb13 := hb12.trans (hb3.mono hb12.size)
  have hb23 : Below w1.heap.size w1 w3 := hb2.trans (hb3.mono hb2.size)
  have h3 := HV.out.below hb13
  have hc0 := h3.c0
  have hUS : US bv bd w3 := ⟨hc0, h3.lt⟩
  have H3 := hide h3
  have HB13 := hide hb13
  have HB23 := hide hb23
  have hnm2 : ∀ W, Below w3.heap.size w3 W → _ := fun W hb => hnm W (HB13.out.trans (hb.mono HB13.out.size))
  have happ : ∀ W, Below w3.heap.size w3 W → _ := fun W hb => HA.out W (H3.out.below hb)
  have HZ1 := hide hz1
  clear hE2 hEn hFr hnm HA h3 hb1 hb2 hb3 hb12 hb13 hb23 hz1
  go_wp2
  refine wp_region_held_drew (S := US bv bd) (by kernel_rfl) hUS.drew (fun hHeld => ?_)
  refine wpAnyH_take (i := 0) (v := .pointer (some ⟨bv, 0, none⟩)) rfl (by kernel_rfl) (by kernel_rfl) (by kernel_rfl) (fun _ a _ h => leaves_res (res_putP a 23 _ (by decide) (by decide)) _ _ _ h) (Or.inl ⟨by rfl, fun W _ => by go_simp⟩) hHeld ?_
  refine wpAnyH_take (i := 1) (v := .pointer (some ⟨bv, 0, none⟩)) rfl (by kernel_rfl) (by kernel_rfl) (by kernel_rfl) (fun _ a _ h => leaves_res (res_putP a 24 _ (by decide) (by decide)) _ _ _ h) (Or.inl ⟨by rfl, fun W _ => by go_simp⟩) hHeld ?_
  refine wpAnyH_take (i := 2) (v := .pointer (some ⟨bv, 0, none⟩)) rfl (by kernel_rfl) (by kernel_rfl) (by kernel_rfl) (fun _ a _ h => leaves_res (res_putP a 25 _ (by decide) (by decide)) _ _ _ h) (Or.inl ⟨by rfl, fun W _ => by go_simp⟩) hHeld ?_
  refine wpAnyH_take (i := 3) (v := .pointer (some ⟨bd, 0, none⟩)) rfl (by kernel_rfl) (by kernel_rfl) (by kernel_rfl) (fun _ a _ h => leaves_res (res_putP a 26 _ (by decide) (by decide)) _ _ _ h) (Or.inl ⟨by rfl, fun W hW => by obtain ⟨y0, _⟩ := hW; go_simp⟩) hHeld ?_
  refine wpAnyH_take (i := 4) (v := .int .i64 n) rfl (by kernel_rfl) (by kernel_rfl) (by kernel_rfl) (fun _ a _ h => leaves_res (res_putP a 27 _ (by decide) (by decide)) _ _ _ h) (Or.inl ⟨by rfl, fun W _ => by go_simp⟩) hHeld ?_
  refine wpAnyH_take (i := 6) (v := .string F) rfl (by kernel_rfl) (by kernel_rfl) (by kernel_rfl) (fun _ a _ h => leaves_res (res_putP a 29 _ (by decide) (by decide)) _ _ _ h) (Or.inl ⟨by rfl, fun W _ => by go_simp⟩) hHeld ?_
  refine wpAnyH_ready (rs := [5]) (by kernel_rfl) (by simp) ?_
  refine AllReadyH.cons rfl (fun K hK => ?_) AllReadyH.nil
  go_simp
  refine (hnm2 _ ((Below.refl _ _).drew)).mono ?_
  rintro e w4 ⟨rfl, hb4⟩
  have HB4 : Hid (Below w3.heap.size w3 w4) := ((Below.refl _ _).drew).trans hb4
  refine hK.out _ _ (US.call hb4 hUS.drew) (fun hHeld2 => ?_)
  clear hK K
  refine wpAnyH_ready (rs := [7]) (by kernel_rfl) (by simp) ?_
  refine AllReadyH.cons rfl (fun K hK => ?_) AllReadyH.nil
  go_simp
  refine (happ _ HB4.out).mono ?_
  rintro e w6 ⟨rfl, hH5, hO5⟩
  refine hK.out _ _ (US.only hO5 hno (US.call hb4 hUS.drew)) (fun hHeld3 => ?_)
  clear hK K
  refine wpAnyH_ready (rs := [8]) (by kernel_rfl) (by simp) ?_
  refine AllReadyH.cons rfl (fun K hK => ?_) AllReadyH.nil
  clear hK
  go_simp
  refine (pass_yes c hcz _).mono ?_
  rintro e w7 ⟨rfl, rfl⟩
  have hT := (H3.out.below HB4.out).turn hH5 hO5
  have hold : ∀ b, w.heap.size ≤ b → ¬ own b := fun b hb ho => by have := (HV.out.old b ho).2; omega
  have hz1 := HZ1.out
  have hst : ∀ b, w.heap.size ≤ b → b < w1.heap.size → w7.heap[b]? = w1.heap[b]? := fun b hb1 hb2 => by
    have s3 := HB23.out.size
    have s4 := HB4.out.size
    exact (hO5.block b (by omega) fun e => e.elim (hold b hb1) (by omega)).trans ((HB4.out.block b (by omega)).trans (HB23.out.block b hb2))
  have b6 : w7.heap[w.heap.size]? = some (.cells #[.int .i64 0, .int .i64 0, .int .i64 0] PlT (0, 0)) := (hst _ (by omega) (by omega)).trans HPB1.out
  have d6 : w7.heap[w.heap.size + 1]? = some (.cells #[.int .i64 0] ErrT (0, 0)) := (hst _ (by omega) (by omega)).trans HEB1.out
  refine leaves_cons (f := 43) (args := #[.pointer (some ⟨w.heap.size + 1, 0, none⟩)]) (by simp) (by simp [go_sem]) ?_
  refine (put_pan ⟨w.heap.size + 1, 0, none⟩ 0 c [] _ (cell_one d6) (unfrozen_of_block d6 0)).mono ?_
  rintro e u' w9 ⟨rfl, rfl, rfl⟩
  have k0 : ¬ (plus own w4.heap.size (w.heap.size + 1) ∧ w.heap.size + 1 < w7.heap.size) := fun hb => hb.1.elim (hold _ (by omega)) (by have := HB23.out.size; have := HB4.out.size; omega)
  have hg0 := HV.out.base.size
  have hlt9 := HV.out.lt
  have hV9 := hT.1.set k0 (by omega) (by omega) 0 (.int .i64 c)
  have hO9 : Only (plus (wi own bv) w.heap.size) w (w7.setCell ⟨w.heap.size + 1, 0, none⟩ (.int .i64 c)) := only_sets ((Only.of_below (HB13.out.trans (HB4.out.mono HB13.out.size))).trans (hT.2.only.mono fun b _ hb => hb.imp id fun h => by have := HB13.out.size; have := HB4.out.size; omega)) (b := w.heap.size + 1) (Or.inr (by omega)) 0 _
  have d9 : (w7.setCell ⟨w.heap.size + 1, 0, none⟩ (.int .i64 c)).heap[w.heap.size + 1]? = some (.cells #[.int .i64 c] ErrT (0, 0)) := by rw [block_setCell d6]; rfl
  have b9 : (w7.setCell ⟨w.heap.size + 1, 0, none⟩ (.int .i64 c)).heap[w.heap.size]? = some (.cells #[.int .i64 0, .int .i64 0, .int .i64 0] PlT (0, 0)) := (Below.heap_setCell _ _ _ w.heap.size (by show w.heap.size ≠ w.heap.size + 1; omega)).trans b6
  have HSUB : Hid (∀ b, wi (fun b => plus own w4.heap.size b ∧ b < w7.heap.size) bv b → wi own bv b ∨ w.heap.size ≤ b) := fun b hb => by
    rcases hb with hb | rfl
    · exact hb.1.imp Or.inl fun h => by have := HB13.out.size; have := HB4.out.size; omega
    · exact Or.inl (Or.inr rfl)
  have HF := hide (And.intro hV9 hO9)
  clear hV9 hO9 hT hst b6 d6 hold
  generalize w7.setCell ⟨w.heap.size + 1, 0, none⟩ (.int .i64 c) = w9 at *
  have r0 := cell_one d9
  have r1 : w9.cell? ⟨w.heap.size, 0, none⟩ = some (.int .i64 0) := cell_of_block b9 0
  have r2 : w9.cell? ⟨w.heap.size, 1, none⟩ = some (.int .i64 0) := cell_of_block b9 1
  have r3 : w9.cell? ⟨w.heap.size, 2, none⟩ = some (.int .i64 0) := cell_of_block b9 2
  simp [Leaves, settle, results, Tryz.results10, go_sem, r0, r1, r2, r3]
  exact ⟨_, HF.out.1, HSUB.out, HF.out.2⟩
end

end Go.Proofs.YtgfmnffaknmcnaaGreatDoor.Vl

namespace Go.Proofs.YtgfmnffaknmcnaaGreatDoor.Vl
open Go.RowKit Go.Joins
open Go.Proofs.YtgfmnffaknmcnaaGreatDoor.Dk (Bs Fil Fls St St.Ok Held Only Rising named getL getL_some getL_none getL_of_mem getL_put putL fileOr used used_put length_put)

/-- where the next value comes: behind all that is there -/
theorem next_end {S : St} {top most : Nat} (htops : ∀ n ∈ nums S, n ≤ top) (ht : top ≤ 1000000) (hr : Rising S.files) : ∃ n, endR S most top = some (n, (dat S n).length) ∧ 1 ≤ n ∧ n ≤ top + 1 ∧ (n ∈ nums S ∨ n = top + 1) ∧ ∀ m ∈ nums S, m ≤ n := by
  have hnew : endR S most top = newR top → ∃ n, endR S most top = some (n, (dat S n).length) ∧ 1 ≤ n ∧ n ≤ top + 1 ∧ (n ∈ nums S ∨ n = top + 1) ∧ ∀ m ∈ nums S, m ≤ n := fun e => by
    refine ⟨top + 1, ?_, by omega, Nat.le_refl _, Or.inr rfl, fun m hm => by have := htops m hm; omega⟩
    have hd : dat S (top + 1) = [] := dat_none (by omega) (nums_none (by omega) (by omega) fun hn => by have := htops _ hn; omega)
    rw [e, newR, if_neg (by omega), hd]; rfl
  cases hl : (nums S).getLast? with
  | none => exact hnew (by rw [endR, hl])
  | some n =>
    obtain ⟨hm, hge⟩ := nums_last (nums_rise hr) hl
    have ht := htops n hm
    by_cases hs : (dat S n).length < most
    · exact ⟨n, by rw [endR, hl]; simp only; rw [if_pos hs], (nums_bound hm).1, by omega, Or.inl hm, hge⟩
    · refine hnew ?_
      rw [endR, hl]; simp only; rw [if_neg hs, Nat.max_eq_left ht]
theorem append_two {S : St} (hu : Up S) {n : Nat} (hn : n ≤ 1048577) (s : ByteArray) : S.append (nm n) (frm s.data.toList) = (0, putS S n s) ∨ S.append (nm n) (frm s.data.toList) = (22, S) := by
  unfold St.append
  rw [if_neg (by simp [nm_named hn])]
  split
  · exact Or.inr rfl
  · refine Or.inl ?_
    rw [hu.do, dat_fileOr hn]
    rfl
section
variable {w0 w : World} {own : Nat → Prop} {bd bv most top : Nat} {S : St}
theorem VH.putE (h : VH w0 w own bd bv most top S) (hu : Up S) (htops : ∀ n ∈ nums S, n ≤ top) (ht : top ≤ 1000000) (s : ByteArray) (hs : s.size ≤ 65536) :
    Calls Tryz.prog 10 #[.pointer (some ⟨bv, 0, none⟩), .string s] w fun e w' => ∃ own' : Nat → Prop, Stp (wi own bv) (wi own' bv) w w' ∧
      ((∃ n : Nat, e = .returned (.tuple #[.agg #[.int .i64 n, .int .i64 (dat S n).length, .int .i64 s.size], .int .i64 0]) ∧ 1 ≤ n ∧ n ≤ top + 1 ∧ (∀ m ∈ nums S, m ≤ n) ∧ VH w0 w' own' bd bv most (max top n) (putS S n s)) ∨
       (e = .returned (.tuple #[.agg #[.int .i64 0, .int .i64 0, .int .i64 0], .int .i64 22]) ∧ VH w0 w' own' bd bv most top S)) := by
  obtain ⟨n, he, h1, h2, h3, h4⟩ := next_end (most := most) htops ht h.ok.rising
  rcases append_two hu (show n ≤ 1048577 by omega) s with ha | ha
  · have := Put_ok h (by omega) s hs he (by omega) (by rw [ha])
    rw [ha] at this
    refine this.mono ?_
    rintro e w' ⟨rfl, own', hV, hst⟩
    exact ⟨own', hst, Or.inl ⟨n, rfl, h1, h2, h4, hV⟩⟩
  · refine (Put_no h (by omega) s hs he (by omega) (c := 22) (by decide) ha).mono ?_
    rintro e w' ⟨rfl, own', hV, hst⟩
    exact ⟨own', hst, Or.inr ⟨rfl, hV⟩⟩
end

end Go.Proofs.YtgfmnffaknmcnaaGreatDoor.Vl
