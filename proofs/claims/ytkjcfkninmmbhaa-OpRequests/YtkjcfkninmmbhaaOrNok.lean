/- Layer 8, the document's own answer: its reader reads a number, a text. -/
import Derived.Test.YtkjcfkninmmbhaaOrRd
namespace Go.Proofs.Ytkjcfkninmmbhaa.Oq
open Go.RowKit Go.Joins Go.Proofs.Ytkjcfkninmmbhaa.Gk

set_option maxRecDepth 100000 in
set_option maxHeartbeats 8000000 in
theorem num_rf_ok (S : Rd) (br : Nat) (w : World) (a : Option Addr) (c : Nat) (l : List Fld) (p : Nat) (h : RfL w br a c l p S) (fn : Int) (fs : ByteArray) (r : List Fld) (e : S.rest = ⟨false, fn, fs⟩ :: r) (h0 : ¬ fn < 0) (h1 : ¬ 1099511627776 < fn) :
    Calls Try.prog 38 #[.pointer (some ⟨br, 0, none⟩)] w fun e w' => e = .returned (.int .i64 fn) ∧ RfH w' br ⟨r, S.wrong⟩ ∧ One br w w' := by
  have hlt := h.lt
  have c0 : w.cell? ⟨br, 0, none⟩ = some (.slice a l.length c) := by rw [cell_of_block h.heap]; rfl
  have c1 : w.cell? ⟨br, 1, none⟩ = some (.int .i64 p) := by rw [cell_of_block h.heap]; rfl
  have f1 := unfrozen_of_block h.heap 1
  have hmo := h.most
  obtain ⟨b, off, rfl, hpl, hne, d0, d1, d2⟩ := h.head e
  have hg' : ¬ (l.length : Int) ≤ (p : Int) := by omega
  have HH := hide h
  simp only at d0 d1 d2
  clear h
  go_enter Try.func38, Try.ntmps38
  go_wp2
  refine wp_region_quiet_lit (by kernel_rfl) (by kernel_rfl) ?_
  refine QW.out ?_
  repeat (refine QW.step (fun K hK => ?_); go_simp; refine hK _ ?_; clear hK K)
  refine QW.nil ?_
  rintro w7 ⟨nq, rfl⟩
  go_wp2
  obtain ⟨X, hX⟩ : ∃ X, X = (w.drewN nq).setCell ⟨br, 1, none⟩ (.int .i64 ((p : Int) + 1)) := ⟨_, rfl⟩
  have hst : RfL X br (some ⟨b, off, none⟩) c l (p + 1) ⟨r, S.wrong⟩ := by
    rw [hX]
    have := (HH.out.drewN nq).step e
    simpa using this
  have hOX : One br w X := by rw [hX]; exact (One.drewN w nq).trans (One.set _ br 1 _)
  have x0 : X.cell? ⟨br, 0, none⟩ = some (.slice (some ⟨b, off, none⟩) l.length c) := by rw [cell_of_block hst.heap]; rfl
  have x1 : X.cell? ⟨br, 1, none⟩ = some (.int .i64 ((p : Int) + 1)) := by rw [cell_of_block hst.heap]; simp
  have g1 : X.cell? ⟨b, off + p * 3 + 1, none⟩ = w.cell? ⟨b, off + p * 3 + 1, none⟩ := by rw [hX]; exact (World.cell?_of_block (Below.heap_setCell _ _ _ b hne)).trans rfl
  have g2 : X.cell? ⟨b, off + p * 3 + 2, none⟩ = w.cell? ⟨b, off + p * 3 + 2, none⟩ := by rw [hX]; exact (World.cell?_of_block (Below.heap_setCell _ _ _ b hne)).trans rfl
  rw [d1] at g1
  rw [d2] at g2
  have HS := hide hst
  rw [← hX]
  clear hX hst c0 c1 d0 d1 d2
  have hs1 : (p : Int) + 1 - 1 = (p : Int) := by omega
  have hs2 : IntKind.i64.wrap (p : Int) = (p : Int) := by rw [IntKind.wrap_i64]; omega
  have hs3 : (p : Int) < (l.length : Int) := by omega
  refine wp_region_quiet_lit (by kernel_rfl) (by kernel_rfl) ?_
  refine QW.out ?_
  repeat (refine QW.step (fun K hK => ?_); go_simp; refine hK _ ?_; clear hK K)
  refine QW.nil ?_
  rintro w8 ⟨nq2, rfl⟩
  go_wp2
  go_ret
  exact ⟨rfl, ⟨_, _, _, _, HS.out.drewN _⟩, hOX.trans (One.drewN X _)⟩

set_option maxRecDepth 100000 in
set_option maxHeartbeats 8000000 in
theorem text_rf_ok (S : Rd) (br : Nat) (w : World) (a : Option Addr) (c : Nat) (l : List Fld) (p : Nat) (h : RfL w br a c l p S) (fn : Int) (fs : ByteArray) (r : List Fld) (e : S.rest = ⟨true, fn, fs⟩ :: r) :
    Calls Try.prog 39 #[.pointer (some ⟨br, 0, none⟩)] w fun e w' => e = .returned (.string fs) ∧ RfH w' br ⟨r, S.wrong⟩ ∧ One br w w' := by
  have hlt := h.lt
  have c0 : w.cell? ⟨br, 0, none⟩ = some (.slice a l.length c) := by rw [cell_of_block h.heap]; rfl
  have c1 : w.cell? ⟨br, 1, none⟩ = some (.int .i64 p) := by rw [cell_of_block h.heap]; rfl
  have f1 := unfrozen_of_block h.heap 1
  have hmo := h.most
  obtain ⟨b, off, rfl, hpl, hne, d0, d1, d2⟩ := h.head e
  have hg' : ¬ (l.length : Int) ≤ (p : Int) := by omega
  have HH := hide h
  simp only at d0 d1 d2
  clear h
  go_enter Try.func39, Try.ntmps39
  go_wp2
  refine wp_region_quiet_lit (by kernel_rfl) (by kernel_rfl) ?_
  refine QW.out ?_
  repeat (refine QW.step (fun K hK => ?_); go_simp; refine hK _ ?_; clear hK K)
  refine QW.nil ?_
  rintro w7 ⟨nq, rfl⟩
  go_wp2
  obtain ⟨X, hX⟩ : ∃ X, X = (w.drewN nq).setCell ⟨br, 1, none⟩ (.int .i64 ((p : Int) + 1)) := ⟨_, rfl⟩
  have hst : RfL X br (some ⟨b, off, none⟩) c l (p + 1) ⟨r, S.wrong⟩ := by
    rw [hX]
    have := (HH.out.drewN nq).step e
    simpa using this
  have hOX : One br w X := by rw [hX]; exact (One.drewN w nq).trans (One.set _ br 1 _)
  have x0 : X.cell? ⟨br, 0, none⟩ = some (.slice (some ⟨b, off, none⟩) l.length c) := by rw [cell_of_block hst.heap]; rfl
  have x1 : X.cell? ⟨br, 1, none⟩ = some (.int .i64 ((p : Int) + 1)) := by rw [cell_of_block hst.heap]; simp
  have g1 : X.cell? ⟨b, off + p * 3 + 1, none⟩ = w.cell? ⟨b, off + p * 3 + 1, none⟩ := by rw [hX]; exact (World.cell?_of_block (Below.heap_setCell _ _ _ b hne)).trans rfl
  have g2 : X.cell? ⟨b, off + p * 3 + 2, none⟩ = w.cell? ⟨b, off + p * 3 + 2, none⟩ := by rw [hX]; exact (World.cell?_of_block (Below.heap_setCell _ _ _ b hne)).trans rfl
  rw [d1] at g1
  rw [d2] at g2
  have HS := hide hst
  rw [← hX]
  clear hX hst c0 c1 d0 d1 d2
  have hs1 : (p : Int) + 1 - 1 = (p : Int) := by omega
  have hs2 : IntKind.i64.wrap (p : Int) = (p : Int) := by rw [IntKind.wrap_i64]; omega
  have hs3 : (p : Int) < (l.length : Int) := by omega
  refine wp_region_quiet_lit (by kernel_rfl) (by kernel_rfl) ?_
  refine QW.out ?_
  repeat (refine QW.step (fun K hK => ?_); go_simp; refine hK _ ?_; clear hK K)
  refine QW.nil ?_
  rintro w8 ⟨nq2, rfl⟩
  go_wp2
  go_ret
  exact ⟨rfl, ⟨_, _, _, _, HS.out.drewN _⟩, hOX.trans (One.drewN X _)⟩

end Go.Proofs.Ytkjcfkninmmbhaa.Oq
