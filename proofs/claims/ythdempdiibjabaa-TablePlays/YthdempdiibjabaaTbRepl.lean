/- Layer 9: walks over alone.go: replace. -/
import Derived.Test.YthdempdiibjabaaTbTst
namespace Go.Proofs.Ythdempdiibjabaa.Tb
open Go.RowKit Go.Joins Go.Proofs.Ythdempdiibjabaa.Gk Go.Proofs.Ythdempdiibjabaa.Oq Go.Proofs.Ythdempdiibjabaa.Sp

/-- what replace comes to -/
def repR (l : List Rw) (x : Opn) : Rs × List Rw :=
  if (tst l x).2.1 = 0 then
    if x.stamp ≤ (tst l x).2.2 then (Tb.rs 92 (tst l x).2.2 nix, l)
    else if 4096 < x.val.size then (Tb.rs 93 0 nix, l)
    else (Tb.rs 0 x.stamp nix, put l (Opn.row x))
  else (Tb.rs (tst l x).2.1 (tst l x).2.2 nix, l)
theorem tst_zero {l : List Rw} {x : Opn} (h : (tst l x).2.1 = 0) : ∃ r, row? l x.key = some r ∧ tst l x = (pos l x.key, 0, r.stamp) := by
  unfold tst at h ⊢
  cases hr : row? l x.key with
  | none => rw [hr] at h; simp at h
  | some r =>
    rw [hr] at h
    simp only at h ⊢
    split at h
    · simp at h
    · rename_i hn; exact ⟨r, rfl, by rw [if_neg hn]⟩

set_option maxRecDepth 100000 in
set_option maxHeartbeats 1600000 in
theorem replace_any (l : List Rw) (x : Opn) (h1 : x.key.size ≤ 64) (h2 : x.val.size ≤ 8192) (hrow : x.val.size ≤ 4096 → (Opn.row x).Ok) : OneC 46 l x (repR l x) := by
  intro bt w hT
  obtain ⟨hok, a, cap, hg, hl⟩ := id hT
  have hF := fun W (hb : Below w.heap.size w W) => tested_any bt l x W (hT.below hb)
  obtain ⟨kind, key, val, stamp, test, most⟩ := x
  obtain ⟨W, hW⟩ : ∃ W, W = (w.alloc (.cells (opC kind key val stamp test most) OpT)).alloc (.cells rs0 ResT) := ⟨_, rfl⟩
  have hFr : Fr w bt kind key val stamp test most (.slice a l.length cap) W := by rw [hW]; exact Fr.start hg
  have hlt := hide (Array.getElem?_eq_some_iff.1 hg).1
  obtain ⟨x0, x1, x2, x3, x4, x5⟩ := hFr.xs
  obtain ⟨r0, r1, r2, r3⟩ := hFr.rs
  obtain ⟨f0, f1, f2, f3, ft⟩ := hFr.fs
  have t0 := hFr.tb
  unfold repR
  by_cases hz : (tst l ⟨kind, key, val, stamp, test, most⟩).2.1 = 0
  · obtain ⟨r, hr, ht⟩ := tst_zero hz
    simp only at hr ht
    obtain ⟨hp, hrp, _⟩ := row?_at hok.rise hr
    rw [ht] at hF ⊢
    simp only [if_true]
    by_cases hs : stamp ≤ r.stamp
    · simp only [if_pos hs]
      generalize pos l key = p at *
      generalize r.stamp = rst at *
      clear hrow ht hz hrp
      go_enter Try.func46, Try.ntmps46
      go_wp2_with fail
      rw [← hW]
      clear hW x0 x1 x2 x3 x4 x5 r0 r1 r2 r3 f0 f1 f2 f3 ft t0
      refine (hF W hFr.bel).mono ?_
      rintro e w1 ⟨rfl, hb1⟩
      have hF1 := hFr.call hb1
      have hz1 := hF1.lt
      have hz0 : w.heap.size < w1.heap.size := by omega
      have hzt := (Array.getElem?_eq_some_iff.1 hF1.tab).1
      clear hF
      obtain ⟨x0, x1, x2, x3, x4, x5⟩ := hF1.xs
      obtain ⟨r0, r1, r2, r3⟩ := hF1.rs
      obtain ⟨f0, f1, f2, f3, ft⟩ := hF1.fs
      have t0 := hF1.tb
      have hbe := hide hF1.bel
      obtain ⟨q0, q1, q2, q3⟩ := set4_cells hF1.res (.int .i64 (92)) (.int .i64 (rst)) (.string ⟨#[]⟩) (.slice none 0 0) (.cells #[.int .i64 (0), .int .i64 rst, .string ⟨#[]⟩, .slice none 0 0] ResT)
      clear hFr hF1 hb1
      go_wp2
      refine bodyPost_ret (v := RsA.v ⟨Tb.rs (92) (rst) ⟨#[]⟩, none, 0⟩) (by simp [results, Try.results46, go_sem, q0, q1, q2, q3]) rfl ?_
      exact ⟨_, rfl, ResP.plain hT (set4_alloc_below hbe.out (Nat.le_succ _) _ _ _ _ _)⟩
    · simp only [if_neg hs]
      have i0 : r.stamp < stamp := by omega
      by_cases hv : 4096 < val.size
      · simp only [if_pos hv]
        have i1 : (4096 : Int) < (val.size : Int) := by omega
        generalize pos l key = p at *
        generalize r.stamp = rst at *
        clear hrow ht hz hrp hs
        go_enter Try.func46, Try.ntmps46
        go_wp2_with fail
        rw [← hW]
        clear hW x0 x1 x2 x3 x4 x5 r0 r1 r2 r3 f0 f1 f2 f3 ft t0
        refine (hF W hFr.bel).mono ?_
        rintro e w1 ⟨rfl, hb1⟩
        have hF1 := hFr.call hb1
        have hz1 := hF1.lt
        have hz0 : w.heap.size < w1.heap.size := by omega
        have hzt := (Array.getElem?_eq_some_iff.1 hF1.tab).1
        clear hF
        obtain ⟨x0, x1, x2, x3, x4, x5⟩ := hF1.xs
        obtain ⟨r0, r1, r2, r3⟩ := hF1.rs
        obtain ⟨f0, f1, f2, f3, ft⟩ := hF1.fs
        have t0 := hF1.tb
        have hbe := hide hF1.bel
        obtain ⟨q0, q1, q2, q3⟩ := set4_cells hF1.res (.int .i64 (93)) (.int .i64 (0)) (.string ⟨#[]⟩) (.slice none 0 0) (.cells #[.int .i64 (0), .int .i64 rst, .string ⟨#[]⟩, .slice none 0 0] ResT)
        clear hFr hF1 hb1
        go_wp2
        refine bodyPost_ret (v := RsA.v ⟨Tb.rs (93) (0) ⟨#[]⟩, none, 0⟩) (by simp [results, Try.results46, go_sem, q0, q1, q2, q3]) rfl ?_
        exact ⟨_, rfl, ResP.plain hT (set4_alloc_below hbe.out (Nat.le_succ _) _ _ _ _ _)⟩
      · simp only [if_neg hv]
        have i1 : ¬ (4096 : Int) < (val.size : Int) := by omega
        have hR := fun W => row_any ⟨kind, key, val, stamp, test, most⟩ W (by show key.size ≤ _; exact Nat.le_trans h1 (by omega)) (by show val.size ≤ _; omega)
        have hWi := fun W (hb : Below w.heap.size w W) => with_any a cap l (pos l key) (pos l key + 1) (Nat.le_succ _) hp (Opn.row ⟨kind, key, val, stamp, test, most⟩) W (hl.below hb) (by have := hok.len; omega)
        have HP : Hid (l.take (pos l key) ++ Opn.row ⟨kind, key, val, stamp, test, most⟩ :: l.drop (pos l key + 1) = put l (Opn.row ⟨kind, key, val, stamp, test, most⟩)) := by
          show _ = _
          rw [take_pos hok.rise, drop_yes hok.rise hr]; rfl
        have HOK := hide (hok.put_old (hrow (by show val.size ≤ _; omega)) hr)
        have hpb : pos l key < 4096 := by have := hok.len; omega
        generalize pos l key = p at *
        generalize r.stamp = rst at *
        obtain ⟨p1, hp1⟩ : ∃ p1, p1 = p + 1 := ⟨_, rfl⟩
        rw [← hp1] at hWi HP
        have hwr : IntKind.i64.wrap ((p : Int) + 1) = (p1 : Int) := by rw [IntKind.wrap_i64]; omega
        clear hp1
        clear hrow ht hz hrp hs hr
        go_enter Try.func46, Try.ntmps46
        go_wp2_with fail
        rw [← hW]
        clear hW x0 x1 x2 x3 x4 x5 r0 r1 r2 r3 f0 f1 f2 f3 ft t0
        refine (hF W hFr.bel).mono ?_
        rintro e w1 ⟨rfl, hb1⟩
        have hF1 := hFr.call hb1
        have hz1 := hF1.lt
        have hz0 : w.heap.size < w1.heap.size := by omega
        have hzt := (Array.getElem?_eq_some_iff.1 hF1.tab).1
        clear hF
        have hF1' := hF1.call (below_a1 w1 (.cells #[.int .i64 0, .int .i64 rst, .string ⟨#[]⟩, .slice none 0 0] ResT))
        obtain ⟨x0, x1, x2, x3, x4, x5⟩ := hF1.xs
        obtain ⟨r0, r1, r2, r3⟩ := hF1.rs
        obtain ⟨f0, f1, f2, f3, ft⟩ := hF1.fs
        have t0 := hF1.tb
        clear hFr hb1 hg
        go_wp2_with fail
        obtain ⟨w5, hw5⟩ : ∃ w5, w5 = w1.alloc (.cells #[.int .i64 0, .int .i64 rst, .string ⟨#[]⟩, .slice none 0 0] ResT) := ⟨_, rfl⟩
        rw [← hw5] at hF1' ⊢
        clear hw5 hF1 x0 x1 x2 x3 x4 x5 r0 r1 r2 r3 f0 f1 f2 f3 ft t0
        obtain ⟨x0, x1, x2, x3, x4, x5⟩ := hF1'.xs
        obtain ⟨r0, r1, r2, r3⟩ := hF1'.rs
        obtain ⟨f0, f1, f2, f3, ft⟩ := hF1'.fs
        have t0 := hF1'.tb
        go_region_law (first
          | (go_simp; go_at_call 70; refine (hR _).mono ?_; rintro e w2 ⟨rfl, hb2⟩; have hF2 := hide (hF1'.drew.call hb2); have t2 := hF2.out.tb)
          | (go_simp; go_at_call 69; refine (hWi _ hF2.out.bel).mono ?_; rintro e w3 ⟨a3, cap3, L3, rfl, hL3, hown3, hb3⟩; have hF3 := hide (hF2.out.call hb3); have t3 := hF3.out.tb; have ft3 := hF3.out.fs.2.2.2.2; have HL3 := hide hL3; clear hL3))
        all_goals
          have hG := hF3.out.put hlt.out (.slice a3 L3.length cap3)
          have HT4 := hide (TH.put hF3.out.tab (RL.of_own hown3) (show Tok L3 by rw [HL3.out, HP.out]; exact HOK.out))
          have HN4 := hide (put_own hF3.out.tab hown3 hF2.out.bel.size)
          generalize w3.setCell ⟨bt, 0, none⟩ (.slice a3 L3.length cap3) = w4 at hG HT4 HN4 ⊢
          clear x0 x1 x2 x3 x4 x5 r0 r1 r2 r3 f0 f1 f2 f3 ft t0
          obtain ⟨x0, x1, x2, x3, x4, x5⟩ := hG.xs
          obtain ⟨r0, r1, r2, r3⟩ := hG.rs
          obtain ⟨f0, f1, f2, f3⟩ := hG.fs
          have HG := hide hG
          clear hF1' t2 hb2 t3 ft3 hb3 hown3 hG
          go_wp2
          refine bodyPost_ret (v := RsA.v ⟨Tb.rs (0) (stamp) ⟨#[]⟩, none, 0⟩) (by simp [results, Try.results46, go_sem, r0, r1, r2, r3]) rfl ?_
          refine ⟨_, rfl, ?_⟩
          have HT5 := HT4.out
          rw [HL3.out, HP.out] at HT5
          exact ResP.put HG.out HT5 HN4.out _ _ _ _
  · simp only [if_neg hz]
    obtain ⟨q, hq⟩ : ∃ q, q = tst l ⟨kind, key, val, stamp, test, most⟩ := ⟨_, rfl⟩
    rw [← hq] at hF hz ⊢
    clear hq
    obtain ⟨p, c, rst⟩ := q
    simp only at hF hz ⊢
    have hc0 : (c != 0) = true := by simp [hz]
    clear hrow
    go_enter Try.func46, Try.ntmps46
    go_wp2_with fail
    rw [← hW]
    clear hW x0 x1 x2 x3 x4 x5 r0 r1 r2 r3 f0 f1 f2 f3 ft t0
    refine (hF W hFr.bel).mono ?_
    rintro e w1 ⟨rfl, hb1⟩
    have hF1 := hFr.call hb1
    have hz1 := hF1.lt
    have hz0 : w.heap.size < w1.heap.size := by omega
    have hzt := (Array.getElem?_eq_some_iff.1 hF1.tab).1
    clear hF
    obtain ⟨x0, x1, x2, x3, x4, x5⟩ := hF1.xs
    obtain ⟨r0, r1, r2, r3⟩ := hF1.rs
    obtain ⟨f0, f1, f2, f3, ft⟩ := hF1.fs
    have t0 := hF1.tb
    have hbe := hide hF1.bel
    obtain ⟨q0, q1, q2, q3⟩ := set4_cells hF1.res (.int .i64 (c)) (.int .i64 (rst)) (.string ⟨#[]⟩) (.slice none 0 0) (.cells #[.int .i64 (c), .int .i64 rst, .string ⟨#[]⟩, .slice none 0 0] ResT)
    clear hFr hF1 hb1
    go_wp2
    refine bodyPost_ret (v := RsA.v ⟨Tb.rs (c) (rst) ⟨#[]⟩, none, 0⟩) (by simp [results, Try.results46, go_sem, q0, q1, q2, q3]) rfl ?_
    exact ⟨_, rfl, ResP.plain hT (set4_alloc_below hbe.out (Nat.le_succ _) _ _ _ _ _)⟩

end Go.Proofs.Ythdempdiibjabaa.Tb
