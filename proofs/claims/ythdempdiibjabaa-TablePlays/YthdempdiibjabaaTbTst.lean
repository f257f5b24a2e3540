/- Layer 9: walks over alone.go: tested. -/
import Derived.Test.YthdempdiibjabaaTbFr
import Derived.Test.YthdempdiibjabaaGQuiet
namespace Go.Proofs.Ythdempdiibjabaa.Tb
open Go.RowKit Go.Joins Go.Proofs.Ythdempdiibjabaa.Gk Go.Proofs.Ythdempdiibjabaa.Oq Go.Proofs.Ythdempdiibjabaa.Sp

/-- what tested answers: a place, a code and a stamp -/
def tst (l : List Rw) (x : Opn) : Nat × Int × Int :=
  match row? l x.key with
  | none => (0, 91, 0)
  | some r => if x.test ≠ 0 ∧ x.test ≠ r.stamp then (0, 92, r.stamp) else (pos l x.key, 0, r.stamp)
abbrev tstV (p : Nat × Int × Int) : Value := .tuple #[.int .i64 p.1, .agg #[.int .i64 p.2.1, .int .i64 p.2.2, .string ⟨#[]⟩, .slice none 0 0]]

set_option maxRecDepth 100000 in
set_option maxHeartbeats 1600000 in
theorem tested_any (bt : Nat) (l : List Rw) (x : Opn) (w : World) (hT : TH w bt l) :
    Calls Try.prog 71 #[ptr bt, x.v] w fun e w' => e = .returned (tstV (tst l x)) ∧ Below w.heap.size w w' := by
  obtain ⟨hok, a, cap, hg, hl⟩ := hT
  have hF := fun W (hb : Below w.heap.size w W) => find_any a cap x.key l hok.rise (by have := hok.len; omega) W (hl.lies.below hb)
  obtain ⟨kind, key, val, stamp, test, most⟩ := x
  obtain ⟨W, hW⟩ : ∃ W, W = (w.alloc (.cells (opC kind key val stamp test most) OpT)).alloc (.cells rs0 ResT) := ⟨_, rfl⟩
  have hFr : Fr w bt kind key val stamp test most (.slice a l.length cap) W := by rw [hW]; exact Fr.start hg
  unfold tst
  simp only at hF ⊢
  obtain ⟨x0, x1, x2, x3, x4, x5⟩ := hFr.xs
  obtain ⟨r0, r1, r2, r3⟩ := hFr.rs
  obtain ⟨f0, f1, f2, f3, ft⟩ := hFr.fs
  have t0 := hFr.tb
  cases hr : row? l key with
  | none =>
    have hth : there l key = false := by unfold there; rw [hr]; rfl
    rw [hth] at hF
    go_enter Try.func71, Try.ntmps71
    go_wp2_with fail
    rw [← hW]
    clear hW
    have mixed : Try.prog.follows .mixedOrders = true := by kernel_rfl
    have hFq := fun n os => hF (Go.Sort.grow (W.drewN n) os) (hFr.bel.trans ((Gr.grow (Gr.refl W) n os).below.mono hFr.bel.size))
    have y1 := fun n os => cell_grown (w := W) (Array.getElem?_eq_some_iff.1 hFr.box).1 x1 n os
    have yt := fun n os => cell_grown (w := W) (Array.getElem?_eq_some_iff.1 hFr.tab).1 t0 n os
    clear x0 x1 x2 x3 x4 x5 r0 r1 r2 r3 f0 f1 f2 f3 ft t0 hF
    go_quiet_grown (first | (go_at_call 43; refine Calls.grown_of (hFq _ _)))
    have hg1 : Gr W (Go.Sort.grow (W.drewN nq) osq) := Gr.grow (Gr.refl _) nq osq
    generalize Go.Sort.grow (W.drewN nq) osq = w1 at hg1 ⊢
    have hF1 := hFr.call hg1.below
    clear hFq y1 yt
    obtain ⟨x0, x1, x2, x3, x4, x5⟩ := hF1.xs
    obtain ⟨r0, r1, r2, r3⟩ := hF1.rs
    obtain ⟨f0, f1, f2, f3, ft⟩ := hF1.fs
    have t0 := hF1.tb
    have hbe := hide hF1.bel
    clear hFr hF1 hg1
    go_wp2
    refine bodyPost_ret (v := tstV (0, 91, 0)) (by simp [results, Try.results71, go_sem, r0, r1, r2, r3]) rfl ?_
    exact ⟨rfl, set4_below hbe.out (Nat.le_succ _) _ _ _ _⟩
  | some r =>
    have hth : there l key = true := by unfold there; rw [hr]; rfl
    rw [hth] at hF
    obtain ⟨hp, hrp, _⟩ := row?_at hok.rise hr
    obtain ⟨b, off, rfl, hbl, hc⟩ := hl.lies.at (k := 3) rwenc_len (pos l key) hp
    have c1 := hc 1 _ rfl
    rw [hrp] at c1
    obtain ⟨rk, rst, rv⟩ := r
    simp only at c1 ⊢
    generalize pos l key = p at *
    have i1 : (0 : Int) ≤ (p : Int) := by omega
    have i2 : (p : Int) < (l.length : Int) := by omega
    clear hc hrp
    by_cases ht : test ≠ 0 ∧ test ≠ rst
    · have b1 : (test != 0) = true := by simp [ht.1]
      have b2 : (test != rst) = true := by simp [ht.2]
      simp only [if_pos ht]
      clear ht
      go_enter Try.func71, Try.ntmps71
      go_wp2_with fail
      rw [← hW]
      clear hW
      have mixed : Try.prog.follows .mixedOrders = true := by kernel_rfl
      have hFq := fun n os => hF (Go.Sort.grow (W.drewN n) os) (hFr.bel.trans ((Gr.grow (Gr.refl W) n os).below.mono hFr.bel.size))
      have y1 := fun n os => cell_grown (w := W) (Array.getElem?_eq_some_iff.1 hFr.box).1 x1 n os
      have yt := fun n os => cell_grown (w := W) (Array.getElem?_eq_some_iff.1 hFr.tab).1 t0 n os
      clear x0 x1 x2 x3 x4 x5 r0 r1 r2 r3 f0 f1 f2 f3 ft t0 hF
      go_quiet_grown (first | (go_at_call 43; refine Calls.grown_of (hFq _ _)))
      have hg1 : Gr W (Go.Sort.grow (W.drewN nq) osq) := Gr.grow (Gr.refl _) nq osq
      generalize Go.Sort.grow (W.drewN nq) osq = w1 at hg1 ⊢
      have hF1 := hFr.call hg1.below
      clear hFq y1 yt
      obtain ⟨x0, x1, x2, x3, x4, x5⟩ := hF1.xs
      obtain ⟨r0, r1, r2, r3⟩ := hF1.rs
      obtain ⟨f0, f1, f2, f3, ft⟩ := hF1.fs
      have t0 := hF1.tb
      have hbe := hide hF1.bel
      have d1 := (hF1.bel.cell (p := ⟨b, off + p * 3 + 1, none⟩) hbl).trans c1
      clear hFr hF1 hg1 c1
      go_wp2
      refine bodyPost_ret (v := tstV (0, 92, rst)) (by simp [results, Try.results71, go_sem, r0, r1, r2, r3]) rfl ?_
      exact ⟨rfl, set4_below hbe.out (Nat.le_succ _) _ _ _ _⟩
    · simp only [if_neg ht]
      by_cases h0 : test = 0
      · have b1 : (test != 0) = false := by simp [h0]
        clear h0 ht
        go_enter Try.func71, Try.ntmps71
        go_wp2_with fail
        rw [← hW]
        clear hW
        have mixed : Try.prog.follows .mixedOrders = true := by kernel_rfl
        have hFq := fun n os => hF (Go.Sort.grow (W.drewN n) os) (hFr.bel.trans ((Gr.grow (Gr.refl W) n os).below.mono hFr.bel.size))
        have y1 := fun n os => cell_grown (w := W) (Array.getElem?_eq_some_iff.1 hFr.box).1 x1 n os
        have yt := fun n os => cell_grown (w := W) (Array.getElem?_eq_some_iff.1 hFr.tab).1 t0 n os
        clear x0 x1 x2 x3 x4 x5 r0 r1 r2 r3 f0 f1 f2 f3 ft t0 hF
        go_quiet_grown (first | (go_at_call 43; refine Calls.grown_of (hFq _ _)))
        have hg1 : Gr W (Go.Sort.grow (W.drewN nq) osq) := Gr.grow (Gr.refl _) nq osq
        generalize Go.Sort.grow (W.drewN nq) osq = w1 at hg1 ⊢
        have hF1 := hFr.call hg1.below
        clear hFq y1 yt
        obtain ⟨x0, x1, x2, x3, x4, x5⟩ := hF1.xs
        obtain ⟨r0, r1, r2, r3⟩ := hF1.rs
        obtain ⟨f0, f1, f2, f3, ft⟩ := hF1.fs
        have t0 := hF1.tb
        have hbe := hide hF1.bel
        have d1 := (hF1.bel.cell (p := ⟨b, off + p * 3 + 1, none⟩) hbl).trans c1
        clear hFr hF1 hg1 c1
        go_wp2
        refine bodyPost_ret (v := tstV (p, 0, rst)) (by simp [results, Try.results71, go_sem, r0, r1, r2, r3]) rfl ?_
        exact ⟨rfl, set4_below hbe.out (Nat.le_succ _) _ _ _ _⟩
      · have b1 : (test != 0) = true := by simp [h0]
        have b2 : (test != rst) = false := by
          have : test = rst := by
            by_cases e : test = rst
            · exact e
            · exact absurd ⟨h0, e⟩ ht
          simp [this]
        clear h0 ht
        go_enter Try.func71, Try.ntmps71
        go_wp2_with fail
        rw [← hW]
        clear hW
        have mixed : Try.prog.follows .mixedOrders = true := by kernel_rfl
        have hFq := fun n os => hF (Go.Sort.grow (W.drewN n) os) (hFr.bel.trans ((Gr.grow (Gr.refl W) n os).below.mono hFr.bel.size))
        have y1 := fun n os => cell_grown (w := W) (Array.getElem?_eq_some_iff.1 hFr.box).1 x1 n os
        have yt := fun n os => cell_grown (w := W) (Array.getElem?_eq_some_iff.1 hFr.tab).1 t0 n os
        clear x0 x1 x2 x3 x4 x5 r0 r1 r2 r3 f0 f1 f2 f3 ft t0 hF
        go_quiet_grown (first | (go_at_call 43; refine Calls.grown_of (hFq _ _)))
        have hg1 : Gr W (Go.Sort.grow (W.drewN nq) osq) := Gr.grow (Gr.refl _) nq osq
        generalize Go.Sort.grow (W.drewN nq) osq = w1 at hg1 ⊢
        have hF1 := hFr.call hg1.below
        clear hFq y1 yt
        obtain ⟨x0, x1, x2, x3, x4, x5⟩ := hF1.xs
        obtain ⟨r0, r1, r2, r3⟩ := hF1.rs
        obtain ⟨f0, f1, f2, f3, ft⟩ := hF1.fs
        have t0 := hF1.tb
        have hbe := hide hF1.bel
        have d1 := (hF1.bel.cell (p := ⟨b, off + p * 3 + 1, none⟩) hbl).trans c1
        clear hFr hF1 hg1 c1
        go_wp2
        refine bodyPost_ret (v := tstV (p, 0, rst)) (by simp [results, Try.results71, go_sem, r0, r1, r2, r3]) rfl ?_
        exact ⟨rfl, set4_below hbe.out (Nat.le_succ _) _ _ _ _⟩

end Go.Proofs.Ythdempdiibjabaa.Tb
