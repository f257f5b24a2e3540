/- The walk over vals: Get, of a file that is not there. -/
import Derived.Test.YtgfmnffaknmcnaaGreatDoorVlGet
namespace Go.Proofs.YtgfmnffaknmcnaaGreatDoor.Vl
open Go.RowKit Go.Joins
open Go.Proofs.YtgfmnffaknmcnaaGreatDoor.Dk (Bs Fil Fls St St.Ok Held Only Rising named getL getL_some)

theorem leaves_res {P : Program} {fn : Func} {tmps tmps' : Array Value} {R : Ending → World → Prop} (h : results fn tmps = results fn tmps') : ∀ (ds : List Deferred) (u : FrameMode) (w : World), Leaves P fn tmps R ds u w → Leaves P fn tmps' R ds u w
  | [], .returning, _, ⟨v, h1, h2⟩ => ⟨v, h ▸ h1, h2⟩
  | [], .panicking _, _, h1 => h1
  | [], .run, _, h1 => h1
  | d :: ds, u, w, ⟨h1, fv, cap, f, args, h2, h3, h4⟩ => ⟨h1, fv, cap, f, args, h2, h3, h4.mono fun e u' w' hr => by
      cases e with
      | returned v => exact leaves_res h ds _ w' hr
      | panicked c => exact leaves_res h ds _ w' hr
      | outgrown => exact hr⟩
theorem res_put (a : Act) (t : Nat) (v : Value) (h4 : t ≠ 4) (h5 : t ≠ 5) : results Tryz.f31 (a.put (some t) v).tmps = results Tryz.f31 a.tmps := by
  simp [results, Tryz.results31, Act.put, h4, h5]
section
variable {w0 w w' : World} {own : Nat → Prop} {bd bv most top : Nat} {S : St}
set_option maxRecDepth 100000 in
set_option maxHeartbeats 3200000 in
theorem Get_no (h : VH w0 w own bd bv most top S) {z : Int} (hn : hasN (nums S) z = false) (at_ long : Int) :
    Calls Tryz.prog 31 #[.pointer (some ⟨bv, 0, none⟩), .agg #[.int .i64 z, .int .i64 at_, .int .i64 long]] w fun e w' => e = .returned (getV (⟨#[]⟩, 110)) ∧ Below w.heap.size w w' := by
  have hmf := makeFunc_run
  have hrd : ∀ W, Below w.heap.size w W → _ := fun W hb2 => read_no (h.below hb2) hn
  clear h hn
  go_enter_defers Tryz.func31, Tryz.ntmps31
  go_wp2
  obtain ⟨w1, hw1⟩ : ∃ w1, w1 = (w.alloc (.cells #[.int .i64 z, .int .i64 at_, .int .i64 long] PlT)).alloc (.cells #[.int .i64 0] ErrT) := ⟨_, rfl⟩
  have hb1 : Below w.heap.size w w1 := by rw [hw1]; exact ((Below.refl _ _).alloc (Nat.le_refl _) _).alloc (by simp) _
  have hz1 : w1.heap.size = w.heap.size + 2 := by rw [hw1]; simp
  have hp0 : w1.cell? ⟨w.heap.size, 0, none⟩ = some (.int .i64 z) := by rw [hw1]; simp
  have hp1 : w1.cell? ⟨w.heap.size, 1, none⟩ = some (.int .i64 at_) := by rw [hw1]; simp
  have HEB1 : Hid (w1.heap[w.heap.size + 1]? = some (.cells #[.int .i64 0] ErrT (0, 0))) := by
    show _ = _
    rw [hw1, show w.heap.size + 1 = (w.alloc (.cells #[.int .i64 z, .int .i64 at_, .int .i64 long] PlT)).heap.size by simp]
    exact heap_alloc_new _ _
  rw [← hw1]
  have hrd1 : ∀ W, Below w1.heap.size w1 W → _ := fun W hb2 => hrd W (hb1.trans (hb2.mono hb1.size))
  have HB1 := hide hb1
  have HZ1 := hide hz1
  clear hw1 hb1 hrd hz1
  have hGS : GS w.heap.size z at_ w1 w1.drew := ⟨⟨hp0, hp1⟩, by have := HZ1.out; show w.heap.size < w1.heap.size; omega, (Below.refl _ _).drew⟩
  refine wp_region_held_drew (S := GS w.heap.size z at_ w1) (by kernel_rfl) hGS (fun hHeld => ?_)
  refine wpAnyH_take (i := 0) (v := .pointer (some ⟨bv, 0, none⟩)) rfl (by kernel_rfl) (by kernel_rfl) (by kernel_rfl) (fun _ a _ h => leaves_res (res_put a 11 _ (by decide) (by decide)) _ _ _ h) (Or.inl ⟨by rfl, fun W _ => by go_simp⟩) hHeld ?_
  refine wpAnyH_take (i := 1) (v := .pointer (some ⟨w.heap.size, 0, none⟩)) rfl (by kernel_rfl) (by kernel_rfl) (by kernel_rfl) (fun _ a _ h => leaves_res (res_put a 12 _ (by decide) (by decide)) _ _ _ h) (Or.inl ⟨by rfl, fun W _ => by go_simp⟩) hHeld ?_
  refine wpAnyH_take (i := 2) (v := .int .i64 z) rfl (by kernel_rfl) (by kernel_rfl) (by kernel_rfl) (fun _ a _ h => leaves_res (res_put a 13 _ (by decide) (by decide)) _ _ _ h) (Or.inl ⟨by rfl, fun W hW => by obtain ⟨⟨y0, y1⟩, _⟩ := hW; go_simp⟩) hHeld ?_
  refine wpAnyH_take (i := 4) (v := .pointer (some ⟨w.heap.size, 1, none⟩)) rfl (by kernel_rfl) (by kernel_rfl) (by kernel_rfl) (fun _ a _ h => leaves_res (res_put a 15 _ (by decide) (by decide)) _ _ _ h) (Or.inl ⟨by rfl, fun W _ => by go_simp⟩) hHeld ?_
  refine wpAnyH_take (i := 5) (v := .int .i64 at_) rfl (by kernel_rfl) (by kernel_rfl) (by kernel_rfl) (fun _ a _ h => leaves_res (res_put a 16 _ (by decide) (by decide)) _ _ _ h) (Or.inl ⟨by rfl, fun W hW => by obtain ⟨⟨y0, y1⟩, _⟩ := hW; go_simp⟩) hHeld ?_
  refine wpAnyH_ready (rs := [3, 11]) (by kernel_rfl) (by simp) ?_
  have HEBK : Hid (∀ W, Below w1.heap.size w1 W → Below w.heap.size w W ∧ W.heap[w.heap.size + 1]? = some (.cells #[.int .i64 0] ErrT (0, 0))) := fun W hb => ⟨HB1.out.trans (hb.mono HB1.out.size), keepBlk hb HEB1.out⟩
  refine AllReadyH.cons rfl (fun K hK => ?_) ?_
  · go_simp
    refine (hrd1 _ ?_).mono ?_
    · exact (Below.refl _ _).drew
    rintro e w2 ⟨rfl, hb2⟩
    obtain ⟨hbl, eb⟩ := HEBK.out w2 (((Below.refl w1.heap.size w1).drew).trans (hb2.mono (by simp)))
    refine leaves_cons (f := 74) (args := #[.pointer (some ⟨w.heap.size + 1, 0, none⟩)]) (by simp) (by simp [go_sem]) ?_
    refine (get_pan ⟨w.heap.size + 1, 0, none⟩ 0 110 [] _ (cell_one eb) (unfrozen_of_block eb 0)).mono ?_
    rintro e u' w9 ⟨rfl, rfl, rfl⟩
    obtain ⟨f3, f4⟩ := set_one hbl (Nat.le_add_right _ 1) eb (.int .i64 110)
    have r0 := cell_one f4
    simp [Leaves, settle, results, Tryz.results31, go_sem, r0]
    exact f3
  refine AllReadyH.cons rfl (fun K hK => ?_) AllReadyH.nil
  go_simp
  have hGS1 : GS w.heap.size z at_ w1 w1 := ⟨⟨hp0, hp1⟩, by have := HZ1.out; omega, Below.refl _ _⟩
  refine hK.out _ _ (GS.drew (GS.alloc hGS1 _)) (fun hHeld2 => ?_)
  clear hK K
  refine wpAnyH_ready (rs := [3]) (by kernel_rfl) (by simp) ?_
  refine AllReadyH.cons rfl (fun K hK => ?_) AllReadyH.nil
  go_simp
  refine (hrd1 _ ?_).mono ?_
  · exact (below_alloc1 _ _).drew
  rintro e w2 ⟨rfl, hb2⟩
  obtain ⟨hbl, eb⟩ := HEBK.out w2 (((below_alloc1 w1 _).drew).trans (hb2.mono (by simp)))
  refine leaves_cons (f := 74) (args := #[.pointer (some ⟨w.heap.size + 1, 0, none⟩)]) (by simp) (by simp [go_sem]) ?_
  refine (get_pan ⟨w.heap.size + 1, 0, none⟩ 0 110 [] _ (cell_one eb) (unfrozen_of_block eb 0)).mono ?_
  rintro e u' w9 ⟨rfl, rfl, rfl⟩
  obtain ⟨f3, f4⟩ := set_one hbl (Nat.le_add_right _ 1) eb (.int .i64 110)
  have r0 := cell_one f4
  simp [Leaves, settle, results, Tryz.results31, go_sem, r0]
  exact f3
end

end Go.Proofs.YtgfmnffaknmcnaaGreatDoor.Vl
