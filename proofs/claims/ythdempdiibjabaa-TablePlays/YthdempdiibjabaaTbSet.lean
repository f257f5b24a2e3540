/- Layer 9: walks over alone.go: set. -/
import Derived.Test.YthdempdiibjabaaTbRepl
import Derived.Test.YthdempdiibjabaaTbAdd
namespace Go.Proofs.Ythdempdiibjabaa.Tb
open Go.RowKit Go.Joins Go.Proofs.Ythdempdiibjabaa.Gk Go.Proofs.Ythdempdiibjabaa.Oq Go.Proofs.Ythdempdiibjabaa.Sp

/-- what set comes to -/
def setR (l : List Rw) (x : Opn) : Rs × List Rw := if there l x.key = true ∨ x.test ≠ 0 then repR l x else addR l x

set_option maxRecDepth 100000 in
set_option maxHeartbeats 1600000 in
theorem set_any (l : List Rw) (x : Opn) (h1 : x.key.size ≤ 64) (h2 : x.val.size ≤ 8192) (hrow : x.val.size ≤ 4096 → (Opn.row x).Ok) : OneC 47 l x (setR l x) := by
  have hA := add_any l x h1 h2 hrow
  have hB := replace_any l x h1 h2 hrow
  unfold setR
  intro bt w hT
  obtain ⟨hok, a, cap, hg, hl⟩ := id hT
  have hF := fun W (hb : Below w.heap.size w W) => find_any a cap x.key l hok.rise (by have := hok.len; omega) W (hl.lies.below hb)
  obtain ⟨kind, key, val, stamp, test, most⟩ := x
  obtain ⟨W, hW⟩ : ∃ W, W = (w.alloc (.cells (opC kind key val stamp test most) OpT)).alloc (.cells rs0 ResT) := ⟨_, rfl⟩
  have hFr : Fr w bt kind key val stamp test most (.slice a l.length cap) W := by rw [hW]; exact Fr.start hg
  simp only at hF ⊢
  obtain ⟨x0, x1, x2, x3, x4, x5⟩ := hFr.xs
  obtain ⟨r0, r1, r2, r3⟩ := hFr.rs
  obtain ⟨f0, f1, f2, f3, ft⟩ := hFr.fs
  have t0 := hFr.tb
  have hlt := hide (Array.getElem?_eq_some_iff.1 hg).1
  clear hrow h1 h2
  cases hth : there l key
  rotate_left
  · simp only [true_or, if_true]
    rw [hth] at hF
    go_enter Try.func47, Try.ntmps47
    go_wp2_with fail
    rw [← hW]
    clear hW
    have mixed : Try.prog.follows .mixedOrders = true := by kernel_rfl
    have hFq := fun n os => hF (Go.Sort.grow (W.drewN n) os) (hFr.bel.trans ((Gr.grow (Gr.refl W) n os).below.mono hFr.bel.size))
    have y1 := fun n os => cell_grown (w := W) (Array.getElem?_eq_some_iff.1 hFr.box).1 x1 n os
    have yt := fun n os => cell_grown (w := W) (Array.getElem?_eq_some_iff.1 hFr.tab).1 t0 n os
    clear x0 x1 x2 x3 x4 x5 r0 r1 r2 r3 f0 f1 f2 f3 ft t0 hF
    go_quiet_grown (first | (go_at_call 43; refine Calls.grown_of (hFq _ _)))
    have hg1 : Gr W (Go.Sort.grow (W.drewN nq) osq) := Gr.grow (Gr.refl _) nq osq
    generalize Go.Sort.grow (W.drewN nq) osq = w1 at hg1 ⊢
    have hF1 := hFr.call hg1.below
    clear hFq y1 yt
    obtain ⟨x0, x1, x2, x3, x4, x5⟩ := hF1.xs
    obtain ⟨r0, r1, r2, r3⟩ := hF1.rs
    obtain ⟨f0, f1, f2, f3, ft⟩ := hF1.fs
    have t0 := hF1.tb
    clear hFr hg1 hg
    go_wp2_with fail
    clear x0 x1 x2 x3 x4 x5 r0 r1 r2 r3 f0 f1 f2 f3 ft t0
    refine (hB bt _ (hT.below hF1.bel)).mono ?_
    rintro e w2 ⟨R, rfl, hP⟩
    have hr := hF1.res1 hlt.out hP.turn
    have r0 : w2.cell? ⟨w.heap.size + 1, 0, none⟩ = some (.int .i64 0) := cellB hr 0 rfl
    have r1 : w2.cell? ⟨w.heap.size + 1, 1, none⟩ = some (.int .i64 0) := cellB hr 1 rfl
    have r2 : w2.cell? ⟨w.heap.size + 1, 2, none⟩ = some (.string ⟨#[]⟩) := cellB hr 2 rfl
    have r3 : w2.cell? ⟨w.heap.size + 1, 3, none⟩ = some (.slice none 0 0) := cellB hr 3 rfl
    have f0 := unfrozen_of_block hr 0
    have f1 := unfrozen_of_block hr 1
    have f2 := unfrozen_of_block hr 2
    have f3 := unfrozen_of_block hr 3
    have HP := hide (fun u0 u1 u2 u3 => ResP.lift hF1 hlt.out hP u0 u1 u2 u3)
    clear hr hP
    obtain ⟨⟨rc, rst, rv, rr⟩, ra, rcap⟩ := R
    go_wp2
    refine bodyPost_ret (v := RsA.v ⟨⟨rc, rst, rv, rr⟩, ra, rcap⟩) (by simp [results, Try.results47, go_sem, r0, r1, r2, r3]) rfl ?_
    exact ⟨_, rfl, HP.out _ _ _ _⟩
  by_cases ht : test = 0
  rotate_left
  · simp only [ne_eq, ht, not_false_eq_true, or_true, if_true]
    rw [hth] at hF
    have b1 : (test != 0) = true := by simp [ht]
    clear ht
    go_enter Try.func47, Try.ntmps47
    go_wp2_with fail
    rw [← hW]
    clear hW
    have mixed : Try.prog.follows .mixedOrders = true := by kernel_rfl
    have hFq := fun n os => hF (Go.Sort.grow (W.drewN n) os) (hFr.bel.trans ((Gr.grow (Gr.refl W) n os).below.mono hFr.bel.size))
    have y1 := fun n os => cell_grown (w := W) (Array.getElem?_eq_some_iff.1 hFr.box).1 x1 n os
    have yt := fun n os => cell_grown (w := W) (Array.getElem?_eq_some_iff.1 hFr.tab).1 t0 n os
    clear x0 x1 x2 x3 x4 x5 r0 r1 r2 r3 f0 f1 f2 f3 ft t0 hF
    go_quiet_grown (first | (go_at_call 43; refine Calls.grown_of (hFq _ _)))
    have hg1 : Gr W (Go.Sort.grow (W.drewN nq) osq) := Gr.grow (Gr.refl _) nq osq
    generalize Go.Sort.grow (W.drewN nq) osq = w1 at hg1 ⊢
    have hF1 := hFr.call hg1.below
    clear hFq y1 yt
    obtain ⟨x0, x1, x2, x3, x4, x5⟩ := hF1.xs
    obtain ⟨r0, r1, r2, r3⟩ := hF1.rs
    obtain ⟨f0, f1, f2, f3, ft⟩ := hF1.fs
    have t0 := hF1.tb
    clear hFr hg1 hg
    go_wp2_with fail
    clear x0 x1 x2 x3 x4 x5 r0 r1 r2 r3 f0 f1 f2 f3 ft t0
    refine (hB bt _ (hT.below hF1.bel)).mono ?_
    rintro e w2 ⟨R, rfl, hP⟩
    have hr := hF1.res1 hlt.out hP.turn
    have r0 : w2.cell? ⟨w.heap.size + 1, 0, none⟩ = some (.int .i64 0) := cellB hr 0 rfl
    have r1 : w2.cell? ⟨w.heap.size + 1, 1, none⟩ = some (.int .i64 0) := cellB hr 1 rfl
    have r2 : w2.cell? ⟨w.heap.size + 1, 2, none⟩ = some (.string ⟨#[]⟩) := cellB hr 2 rfl
    have r3 : w2.cell? ⟨w.heap.size + 1, 3, none⟩ = some (.slice none 0 0) := cellB hr 3 rfl
    have f0 := unfrozen_of_block hr 0
    have f1 := unfrozen_of_block hr 1
    have f2 := unfrozen_of_block hr 2
    have f3 := unfrozen_of_block hr 3
    have HP := hide (fun u0 u1 u2 u3 => ResP.lift hF1 hlt.out hP u0 u1 u2 u3)
    clear hr hP
    obtain ⟨⟨rc, rst, rv, rr⟩, ra, rcap⟩ := R
    go_wp2
    refine bodyPost_ret (v := RsA.v ⟨⟨rc, rst, rv, rr⟩, ra, rcap⟩) (by simp [results, Try.results47, go_sem, r0, r1, r2, r3]) rfl ?_
    exact ⟨_, rfl, HP.out _ _ _ _⟩
  · subst ht
    simp only [ne_eq, not_true_eq_false, or_false, Bool.false_eq_true, if_false]
    rw [hth] at hF
    go_enter Try.func47, Try.ntmps47
    go_wp2_with fail
    rw [← hW]
    clear hW
    have mixed : Try.prog.follows .mixedOrders = true := by kernel_rfl
    have hFq := fun n os => hF (Go.Sort.grow (W.drewN n) os) (hFr.bel.trans ((Gr.grow (Gr.refl W) n os).below.mono hFr.bel.size))
    have y1 := fun n os => cell_grown (w := W) (Array.getElem?_eq_some_iff.1 hFr.box).1 x1 n os
    have yt := fun n os => cell_grown (w := W) (Array.getElem?_eq_some_iff.1 hFr.tab).1 t0 n os
    clear x0 x1 x2 x3 x4 x5 r0 r1 r2 r3 f0 f1 f2 f3 ft t0 hF
    go_quiet_grown (first | (go_at_call 43; refine Calls.grown_of (hFq _ _)))
    have hg1 : Gr W (Go.Sort.grow (W.drewN nq) osq) := Gr.grow (Gr.refl _) nq osq
    generalize Go.Sort.grow (W.drewN nq) osq = w1 at hg1 ⊢
    have hF1 := hFr.call hg1.below
    clear hFq y1 yt
    obtain ⟨x0, x1, x2, x3, x4, x5⟩ := hF1.xs
    obtain ⟨r0, r1, r2, r3⟩ := hF1.rs
    obtain ⟨f0, f1, f2, f3, ft⟩ := hF1.fs
    have t0 := hF1.tb
    clear hFr hg1 hg
    go_wp2_with fail
    clear x0 x1 x2 x3 x4 x5 r0 r1 r2 r3 f0 f1 f2 f3 ft t0
    refine (hA bt _ (hT.below hF1.bel)).mono ?_
    rintro e w2 ⟨R, rfl, hP⟩
    have hr := hF1.res1 hlt.out hP.turn
    have r0 : w2.cell? ⟨w.heap.size + 1, 0, none⟩ = some (.int .i64 0) := cellB hr 0 rfl
    have r1 : w2.cell? ⟨w.heap.size + 1, 1, none⟩ = some (.int .i64 0) := cellB hr 1 rfl
    have r2 : w2.cell? ⟨w.heap.size + 1, 2, none⟩ = some (.string ⟨#[]⟩) := cellB hr 2 rfl
    have r3 : w2.cell? ⟨w.heap.size + 1, 3, none⟩ = some (.slice none 0 0) := cellB hr 3 rfl
    have f0 := unfrozen_of_block hr 0
    have f1 := unfrozen_of_block hr 1
    have f2 := unfrozen_of_block hr 2
    have f3 := unfrozen_of_block hr 3
    have HP := hide (fun u0 u1 u2 u3 => ResP.lift hF1 hlt.out hP u0 u1 u2 u3)
    clear hr hP
    obtain ⟨⟨rc, rst, rv, rr⟩, ra, rcap⟩ := R
    go_wp2
    refine bodyPost_ret (v := RsA.v ⟨⟨rc, rst, rv, rr⟩, ra, rcap⟩) (by simp [results, Try.results47, go_sem, r0, r1, r2, r3]) rfl ?_
    exact ⟨_, rfl, HP.out _ _ _ _⟩

end Go.Proofs.Ythdempdiibjabaa.Tb
