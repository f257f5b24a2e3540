/- Layer 9: walks over alone.go: remove. -/
import Derived.Test.YthdempdiibjabaaTbRepl
namespace Go.Proofs.Ythdempdiibjabaa.Tb
open Go.RowKit Go.Joins Go.Proofs.Ythdempdiibjabaa.Gk Go.Proofs.Ythdempdiibjabaa.Oq Go.Proofs.Ythdempdiibjabaa.Sp

/-- what remove comes to -/
def remR (l : List Rw) (x : Opn) : Rs × List Rw :=
  if (tst l x).2.1 = 0 then (Tb.rs 0 (tst l x).2.2 nix, del l x.key) else (Tb.rs (tst l x).2.1 (tst l x).2.2 nix, l)

set_option maxRecDepth 100000 in
set_option maxHeartbeats 1600000 in
theorem remove_any (l : List Rw) (x : Opn) : OneC 48 l x (remR l x) := by
  intro bt w hT
  obtain ⟨hok, a, cap, hg, hl⟩ := id hT
  have hF := fun W (hb : Below w.heap.size w W) => tested_any bt l x W (hT.below hb)
  obtain ⟨kind, key, val, stamp, test, most⟩ := x
  obtain ⟨W, hW⟩ : ∃ W, W = (w.alloc (.cells (opC kind key val stamp test most) OpT)).alloc (.cells rs0 ResT) := ⟨_, rfl⟩
  have hFr : Fr w bt kind key val stamp test most (.slice a l.length cap) W := by rw [hW]; exact Fr.start hg
  have hlt := hide (Array.getElem?_eq_some_iff.1 hg).1
  obtain ⟨x0, x1, x2, x3, x4, x5⟩ := hFr.xs
  obtain ⟨r0, r1, r2, r3⟩ := hFr.rs
  obtain ⟨f0, f1, f2, f3, ft⟩ := hFr.fs
  have t0 := hFr.tb
  unfold remR
  by_cases hz : (tst l ⟨kind, key, val, stamp, test, most⟩).2.1 = 0
  · obtain ⟨r, hr, ht⟩ := tst_zero hz
    simp only at hr ht
    obtain ⟨hp, hrp, _⟩ := row?_at hok.rise hr
    rw [ht] at hF ⊢
    simp only [if_true]
    have hWi := fun W (hb : Below w.heap.size w W) => without_any a cap l (pos l key) (pos l key + 1) (Nat.le_succ _) hp W (hl.below hb) (by have := hok.len; omega)
    have HP : Hid (l.take (pos l key) ++ l.drop (pos l key + 1) = del l key) := by
      show _ = _
      rw [take_pos hok.rise, drop_yes hok.rise hr]; rfl
    have HOK := hide (hok.del hr)
    have hpb : pos l key < 4096 := by have := hok.len; omega
    generalize pos l key = p at *
    generalize r.stamp = rst at *
    obtain ⟨p1, hp1⟩ : ∃ p1, p1 = p + 1 := ⟨_, rfl⟩
    rw [← hp1] at hWi HP
    have hwr : IntKind.i64.wrap ((p : Int) + 1) = (p1 : Int) := by rw [IntKind.wrap_i64]; omega
    clear hp1 ht hz hrp hr
    go_enter Try.func48, Try.ntmps48
    go_wp2_with fail
    rw [← hW]
    clear hW x0 x1 x2 x3 x4 x5 r0 r1 r2 r3 f0 f1 f2 f3 ft t0
    refine (hF W hFr.bel).mono ?_
    rintro e w1 ⟨rfl, hb1⟩
    have hF1 := hFr.call hb1
    have hz1 := hF1.lt
    have hz0 : w.heap.size < w1.heap.size := by omega
    have hzt := (Array.getElem?_eq_some_iff.1 hF1.tab).1
    clear hF
    have hF1' := hF1.call (below_a1 w1 (.cells #[.int .i64 0, .int .i64 rst, .string ⟨#[]⟩, .slice none 0 0] ResT))
    have hb5 := heap_alloc_new w1 (.cells #[.int .i64 0, .int .i64 rst, .string ⟨#[]⟩, .slice none 0 0] ResT)
    obtain ⟨x0, x1, x2, x3, x4, x5⟩ := hF1.xs
    obtain ⟨r0, r1, r2, r3⟩ := hF1.rs
    obtain ⟨f0, f1, f2, f3, ft⟩ := hF1.fs
    have t0 := hF1.tb
    clear hFr hb1 hg
    go_wp2_with fail
    obtain ⟨w5, hw5⟩ : ∃ w5, w5 = w1.alloc (.cells #[.int .i64 0, .int .i64 rst, .string ⟨#[]⟩, .slice none 0 0] ResT) := ⟨_, rfl⟩
    rw [← hw5] at hF1' hb5 ⊢
    have HB5 := hide hb5
    clear hw5 hF1 x0 x1 x2 x3 x4 x5 r0 r1 r2 r3 f0 f1 f2 f3 ft t0 hb5
    refine (hWi _ hF1'.bel).mono ?_
    rintro e w3 ⟨a3, cap3, L3, rfl, hL3, hown3, hb3⟩
    have hF3 := hide (hF1'.call hb3)
    have t3 := hF3.out.tb
    have ft3 := hF3.out.fs.2.2.2.2
    have HL3 := hide hL3
    have HB7 := hide ((hb3.block _ (Array.getElem?_eq_some_iff.1 HB5.out).1).trans HB5.out)
    clear hL3
    have HW : Hid (w1.heap.size ≠ bt) := by have h1 := hlt.out; show w1.heap.size ≠ bt; omega
    obtain ⟨r0, r1, r2, r3⟩ := hF3.out.rs
    obtain ⟨f0, f1, f2, f3, _⟩ := hF3.out.fs
    have k0 : w3.cell? ⟨w1.heap.size, 0, none⟩ = some (.int .i64 0) := cellB HB7.out 0 rfl
    have k1 : w3.cell? ⟨w1.heap.size, 1, none⟩ = some (.int .i64 rst) := cellB HB7.out 1 rfl
    have k2 : w3.cell? ⟨w1.heap.size, 2, none⟩ = some (.string ⟨#[]⟩) := cellB HB7.out 2 rfl
    have k3 : w3.cell? ⟨w1.heap.size, 3, none⟩ = some (.slice none 0 0) := cellB HB7.out 3 rfl
    have n1 : ¬ w1.heap.size = bt := HW.out
    have n2 : ¬ w.heap.size + 1 = bt := by have h1 := hlt.out; omega
    have hG := hide (hF3.out.put hlt.out (.slice a3 L3.length cap3))
    have HT4 := hide (TH.put hF3.out.tab (RL.of_own hown3) (show Tok L3 by rw [HL3.out, HP.out]; exact HOK.out))
    have HN4 := hide (put_own hF3.out.tab hown3 hF1'.bel.size)
    clear hF1' hb3 hown3
    go_wp2
    refine bodyPost_ret (v := RsA.v ⟨Tb.rs 0 rst ⟨#[]⟩, none, 0⟩) (by simp [results, Try.results48, go_sem, r0, r1, r2, r3]) rfl ?_
    refine ⟨_, rfl, ?_⟩
    exact ResP.put hG.out (Eq.mp (congrArg (TH (w3.setCell ⟨bt, 0, none⟩ (.slice a3 L3.length cap3)) bt) (HL3.out.trans HP.out)) HT4.out) HN4.out _ _ _ _
  · simp only [if_neg hz]
    obtain ⟨q, hq⟩ : ∃ q, q = tst l ⟨kind, key, val, stamp, test, most⟩ := ⟨_, rfl⟩
    rw [← hq] at hF hz ⊢
    clear hq
    obtain ⟨p, c, rst⟩ := q
    simp only at hF hz ⊢
    have hc0 : (c == 0) = false := by simp [hz]
    clear hz
    go_enter Try.func48, Try.ntmps48
    go_wp2_with fail
    rw [← hW]
    clear hW x0 x1 x2 x3 x4 x5 r0 r1 r2 r3 f0 f1 f2 f3 ft t0
    refine (hF W hFr.bel).mono ?_
    rintro e w1 ⟨rfl, hb1⟩
    have hF1 := hFr.call hb1
    have hz1 := hF1.lt
    have hz0 : w.heap.size < w1.heap.size := by omega
    have hzt := (Array.getElem?_eq_some_iff.1 hF1.tab).1
    clear hF
    obtain ⟨x0, x1, x2, x3, x4, x5⟩ := hF1.xs
    obtain ⟨r0, r1, r2, r3⟩ := hF1.rs
    obtain ⟨f0, f1, f2, f3, ft⟩ := hF1.fs
    have t0 := hF1.tb
    have hbe := hide hF1.bel
    obtain ⟨q0, q1, q2, q3⟩ := set4_cells hF1.res (.int .i64 (c)) (.int .i64 (rst)) (.string ⟨#[]⟩) (.slice none 0 0) (.cells #[.int .i64 (c), .int .i64 rst, .string ⟨#[]⟩, .slice none 0 0] ResT)
    clear hFr hF1 hb1
    go_wp2
    refine bodyPost_ret (v := RsA.v ⟨Tb.rs (c) (rst) ⟨#[]⟩, none, 0⟩) (by simp [results, Try.results48, go_sem, q0, q1, q2, q3]) rfl ?_
    exact ⟨_, rfl, ResP.plain hT (set4_alloc_below hbe.out (Nat.le_succ _) _ _ _ _ _)⟩

end Go.Proofs.Ythdempdiibjabaa.Tb
