/- Layer 9: walks over alone.go: get. -/
import Derived.Test.YthdempdiibjabaaTbRepl
namespace Go.Proofs.Ythdempdiibjabaa.Tb
open Go.RowKit Go.Joins Go.Proofs.Ythdempdiibjabaa.Gk Go.Proofs.Ythdempdiibjabaa.Oq Go.Proofs.Ythdempdiibjabaa.Sp

/-- what get comes to -/
def getR (l : List Rw) (x : Opn) : Rs × List Rw :=
  if (tst l x).2.1 = 0 then (Tb.rs 0 (tst l x).2.2 (((row? l x.key).map Rw.val).getD nix), l) else (Tb.rs (tst l x).2.1 (tst l x).2.2 nix, l)

set_option maxRecDepth 100000 in
set_option maxHeartbeats 1600000 in
theorem get_any (l : List Rw) (x : Opn) : OneC 49 l x (getR l x) := by
  intro bt w hT
  obtain ⟨hok, a, cap, hg, hl⟩ := id hT
  have hF := fun W (hb : Below w.heap.size w W) => tested_any bt l x W (hT.below hb)
  obtain ⟨kind, key, val, stamp, test, most⟩ := x
  obtain ⟨W, hW⟩ : ∃ W, W = (w.alloc (.cells (opC kind key val stamp test most) OpT)).alloc (.cells rs0 ResT) := ⟨_, rfl⟩
  have hFr : Fr w bt kind key val stamp test most (.slice a l.length cap) W := by rw [hW]; exact Fr.start hg
  have hlt := hide (Array.getElem?_eq_some_iff.1 hg).1
  obtain ⟨x0, x1, x2, x3, x4, x5⟩ := hFr.xs
  obtain ⟨r0, r1, r2, r3⟩ := hFr.rs
  obtain ⟨f0, f1, f2, f3, ft⟩ := hFr.fs
  have t0 := hFr.tb
  unfold getR
  by_cases hz : (tst l ⟨kind, key, val, stamp, test, most⟩).2.1 = 0
  · obtain ⟨r, hr, ht⟩ := tst_zero hz
    simp only at hr ht
    obtain ⟨hp, hrp, _⟩ := row?_at hok.rise hr
    have hrv := (hok.each r (row?_some hr).1).v
    obtain ⟨b, off, rfl, hbl, hc⟩ := hl.lies.at (k := 3) rwenc_len (pos l key) hp
    have c2 := hc 2 _ rfl
    rw [hrp] at c2
    rw [ht] at hF ⊢
    simp only [if_true, hr, Option.map_some, Option.getD_some]
    obtain ⟨rk, rst, rv⟩ := r
    simp only at hF c2 hrv ⊢
    have hC := fun W => clone_any rv W (by omega)
    generalize pos l key = p at *
    have i1 : (0 : Int) ≤ (p : Int) := by omega
    have i2 : (p : Int) < (l.length : Int) := by omega
    clear ht hz hrp hr hc
    go_enter Try.func49, Try.ntmps49
    go_wp2_with fail
    rw [← hW]
    clear hW x0 x1 x2 x3 x4 x5 r0 r1 r2 r3 f0 f1 f2 f3 ft t0
    refine (hF W hFr.bel).mono ?_
    rintro e w1 ⟨rfl, hb1⟩
    have hF1 := hFr.call hb1
    have hz1 := hF1.lt
    have hz0 : w.heap.size < w1.heap.size := by omega
    have hzt := (Array.getElem?_eq_some_iff.1 hF1.tab).1
    clear hF
    have hF1' := hF1.call (below_a1 w1 (.cells #[.int .i64 0, .int .i64 rst, .string ⟨#[]⟩, .slice none 0 0] ResT))
    have hb5 := heap_alloc_new w1 (.cells #[.int .i64 0, .int .i64 rst, .string ⟨#[]⟩, .slice none 0 0] ResT)
    obtain ⟨x0, x1, x2, x3, x4, x5⟩ := hF1.xs
    obtain ⟨r0, r1, r2, r3⟩ := hF1.rs
    obtain ⟨f0, f1, f2, f3, ft⟩ := hF1.fs
    have t0 := hF1.tb
    clear hFr hb1 hg
    have hbz := Nat.lt_of_lt_of_le hbl hF1.bel.size
    have d2 := (hF1.bel.cell (p := ⟨b, off + p * 3 + 2, none⟩) hbl).trans c2
    go_wp2_with fail
    obtain ⟨w5, hw5⟩ : ∃ w5, w5 = w1.alloc (.cells #[.int .i64 0, .int .i64 rst, .string ⟨#[]⟩, .slice none 0 0] ResT) := ⟨_, rfl⟩
    rw [← hw5] at hF1' hb5 ⊢
    clear hw5 hF1 x0 x1 x2 x3 x4 x5 r0 r1 r2 r3 f0 f1 f2 f3 ft t0 d2 c2
    refine (hC _).mono ?_
    rintro e w3 ⟨rfl, hb3⟩
    have hF3 := hF1'.call hb3
    have hB7 := (hb3.block _ (Array.getElem?_eq_some_iff.1 hb5).1).trans hb5
    obtain ⟨r0, r1, r2, r3⟩ := hF3.rs
    obtain ⟨f0, f1, f2, f3, _⟩ := hF3.fs
    have k0 : w3.cell? ⟨w1.heap.size, 0, none⟩ = some (.int .i64 0) := cellB hB7 0 rfl
    have k1 : w3.cell? ⟨w1.heap.size, 1, none⟩ = some (.int .i64 rst) := cellB hB7 1 rfl
    have k2 : w3.cell? ⟨w1.heap.size, 2, none⟩ = some (.string ⟨#[]⟩) := cellB hB7 2 rfl
    have k3 : w3.cell? ⟨w1.heap.size, 3, none⟩ = some (.slice none 0 0) := cellB hB7 3 rfl
    have g2 := unfrozen_of_block hB7 2
    have n1 : ¬ w.heap.size + 1 = w1.heap.size := by omega
    have n2 : ¬ w1.heap.size = w.heap.size + 1 := by omega
    have hbe := hide (hF3.bel.setCell (p := ⟨w1.heap.size, 2, none⟩) (by show w.heap.size ≤ w1.heap.size; omega) (.string rv))
    clear hb3 hB7 hF1' hF3 hb5
    go_wp2
    refine bodyPost_ret (v := RsA.v ⟨Tb.rs 0 rst rv, none, 0⟩) (by simp [results, Try.results49, go_sem, r0, r1, r2, r3]) rfl ?_
    exact ⟨_, rfl, ResP.plain hT (set4_below hbe.out (Nat.le_succ _) _ _ _ _)⟩
  · simp only [if_neg hz]
    obtain ⟨q, hq⟩ : ∃ q, q = tst l ⟨kind, key, val, stamp, test, most⟩ := ⟨_, rfl⟩
    rw [← hq] at hF hz ⊢
    clear hq
    obtain ⟨p, c, rst⟩ := q
    simp only at hF hz ⊢
    have hc0 : (c == 0) = false := by simp [hz]
    clear hz
    go_enter Try.func49, Try.ntmps49
    go_wp2_with fail
    rw [← hW]
    clear hW x0 x1 x2 x3 x4 x5 r0 r1 r2 r3 f0 f1 f2 f3 ft t0
    refine (hF W hFr.bel).mono ?_
    rintro e w1 ⟨rfl, hb1⟩
    have hF1 := hFr.call hb1
    have hz1 := hF1.lt
    have hz0 : w.heap.size < w1.heap.size := by omega
    have hzt := (Array.getElem?_eq_some_iff.1 hF1.tab).1
    clear hF
    obtain ⟨x0, x1, x2, x3, x4, x5⟩ := hF1.xs
    obtain ⟨r0, r1, r2, r3⟩ := hF1.rs
    obtain ⟨f0, f1, f2, f3, ft⟩ := hF1.fs
    have t0 := hF1.tb
    have hbe := hide hF1.bel
    obtain ⟨q0, q1, q2, q3⟩ := set4_cells hF1.res (.int .i64 (c)) (.int .i64 (rst)) (.string ⟨#[]⟩) (.slice none 0 0) (.cells #[.int .i64 (c), .int .i64 rst, .string ⟨#[]⟩, .slice none 0 0] ResT)
    clear hFr hF1 hb1
    go_wp2
    refine bodyPost_ret (v := RsA.v ⟨Tb.rs (c) (rst) ⟨#[]⟩, none, 0⟩) (by simp [results, Try.results49, go_sem, q0, q1, q2, q3]) rfl ?_
    exact ⟨_, rfl, ResP.plain hT (set4_alloc_below hbe.out (Nat.le_succ _) _ _ _ _ _)⟩

end Go.Proofs.Ythdempdiibjabaa.Tb
