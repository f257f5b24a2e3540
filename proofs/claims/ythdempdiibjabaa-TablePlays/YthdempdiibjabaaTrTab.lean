/- Layer 9, the document's answer: add, change, write. Layer 9, the document's answer: write. -/
import Derived.Test.YthdempdiibjabaaTrRep
namespace Go.Proofs.Ythdempdiibjabaa.Tr
open Go.RowKit Go.Joins Go.Proofs.Ythdempdiibjabaa.Gk Go.Proofs.Ythdempdiibjabaa.Oq Go.Proofs.Ythdempdiibjabaa.Sp Go.Proofs.Ythdempdiibjabaa.Tb

/-- what the document's add comes to -/
def addX (l : List Rw) (x : Opn) : Rs × List Rw :=
  if 4096 < x.val.size then (Tb.rs 93 0 nix, l) else if 4096 ≤ l.length then (Tb.rs 22 0 nix, l) else (Tb.rs 0 x.stamp nix, put l (Opn.row x))

set_option maxRecDepth 100000 in
set_option maxHeartbeats 1600000 in
theorem add_ref (l : List Rw) (x : Opn) (hrow : x.val.size ≤ 4096 → l.length < 4096 → Tok (put l (Opn.row x))) : OneR 82 l x (addX l x) := by
  intro br w hR
  obtain ⟨hok, a, cap, hg, hl⟩ := id hR
  have hlen := hok.len
  have hlt := hR.lt
  unfold addX
  obtain ⟨kind, key, val, stamp, test, most⟩ := x
  obtain ⟨W, hW⟩ : ∃ W, W = (w.alloc (.cells (opC kind key val stamp test most) OpT)).alloc (.cells rs0 ResT) := ⟨_, rfl⟩
  have hFr : RFr w br kind key val stamp test most (.slice a l.length cap) W := by rw [hW]; exact RFr.start hg
  simp only at hrow ⊢
  obtain ⟨x0, x1, x2, x3, x4, x5⟩ := hFr.xs
  obtain ⟨r0, r1, r2, r3⟩ := hFr.rs
  obtain ⟨f0, f1, f2, f3, ft⟩ := hFr.fs
  have t0 := hFr.tb
  by_cases h1 : 4096 < val.size
  · simp only [if_pos h1]
    have i1 : (4096 : Int) < (val.size : Int) := by omega
    rw [hW] at x0 x1 x2 x3 x4 x5 r0 r1 r2 r3 f0 f1 f2 f3 ft t0
    go_enter Try.func82, Try.ntmps82
    go_wp2
    refine bodyPost_ret (v := RsA.v ⟨Tb.rs 93 0 ⟨#[]⟩, none, 0⟩) (by simp [results, Try.results82, go_sem]) rfl ?_
    exact ⟨_, rfl, RsP.plain hR (below_a2 _ _ _)⟩
  · simp only [if_neg h1]
    have i1 : ¬ (4096 : Int) < (val.size : Int) := by omega
    by_cases h2 : 4096 ≤ l.length
    · simp only [if_pos h2]
      have i2 : (4096 : Int) ≤ (l.length : Int) := by omega
      rw [hW] at x0 x1 x2 x3 x4 x5 r0 r1 r2 r3 f0 f1 f2 f3 ft t0
      go_enter Try.func82, Try.ntmps82
      go_wp2
      refine bodyPost_ret (v := RsA.v ⟨Tb.rs 22 0 ⟨#[]⟩, none, 0⟩) (by simp [results, Try.results82, go_sem]) rfl ?_
      exact ⟨_, rfl, RsP.plain hR (below_a2 _ _ _)⟩
    · simp only [if_neg h2]
      have i2 : ¬ (4096 : Int) ≤ (l.length : Int) := by omega
      have hPt := put_ref br l (Opn.row ⟨kind, key, val, stamp, test, most⟩) W (hR.below hFr.bel) (hrow (by omega) (by omega))
      generalize put l (Opn.row ⟨kind, key, val, stamp, test, most⟩) = l' at hPt ⊢
      rw [hW] at x0 x1 x2 x3 x4 x5 r0 r1 r2 r3 f0 f1 f2 f3 ft t0
      go_enter Try.func82, Try.ntmps82
      go_wp2_with fail
      rw [← hW]
      refine hPt.mono ?_
      rintro e w1 ⟨rfl, hR1, hu1, hw1⟩
      have hb1 := (hu1.block w.heap.size (Array.getElem?_eq_some_iff.1 hFr.box).1 (by show w.heap.size ≠ br; omega)).trans hFr.box
      have hs1 := hFr.res1 hlt hu1
      have y3 : w1.cell? ⟨w.heap.size, 3, none⟩ = some (.int .i64 stamp) := cellB hb1 3 rfl
      have s0 : w1.cell? ⟨w.heap.size + 1, 0, none⟩ = some (.int .i64 0) := cellB hs1 0 rfl
      have s1 : w1.cell? ⟨w.heap.size + 1, 1, none⟩ = some (.int .i64 0) := cellB hs1 1 rfl
      have s2 : w1.cell? ⟨w.heap.size + 1, 2, none⟩ = some (.string ⟨#[]⟩) := cellB hs1 2 rfl
      have s3 : w1.cell? ⟨w.heap.size + 1, 3, none⟩ = some (.slice none 0 0) := cellB hs1 3 rfl
      have g0 := unfrozen_of_block hs1 0
      have g1 := unfrozen_of_block hs1 1
      have g2 := unfrozen_of_block hs1 2
      have g3 := unfrozen_of_block hs1 3
      clear x0 x1 x2 x3 x4 x5 r0 r1 r2 r3 f0 f1 f2 f3 ft t0 hPt
      go_wp2
      refine bodyPost_ret (v := RsA.v ⟨Tb.rs 0 stamp ⟨#[]⟩, none, 0⟩) (by simp [results, Try.results82, go_sem, s0, s1, s2, s3]) rfl ?_
      exact ⟨_, rfl, RsP.put hFr hlt hR1 hu1 hw1 _ _ _ _⟩

/-- what the document's change comes to, with the row that is there -/
def changeX (l : List Rw) (x : Opn) (r : Rw) : Rs × List Rw :=
  if (x.test ≠ 0 ∧ x.test ≠ r.stamp) ∨ x.stamp ≤ r.stamp then (Tb.rs 92 r.stamp nix, l)
  else if 4096 < x.val.size then (Tb.rs 93 0 nix, l) else (Tb.rs 0 x.stamp nix, put l (Opn.row x))

set_option maxRecDepth 100000 in
set_option maxHeartbeats 1600000 in
theorem change_ref (l : List Rw) (x : Opn) (r : Rw) (br : Nat) (w : World) (hR : RH w br l) (hrow : x.val.size ≤ 4096 → Tok (put l (Opn.row x))) :
    Calls Try.prog 81 #[ptr br, x.v, r.v] w fun e w' => ∃ R, e = .returned (RsA.v R) ∧ RsP br w (changeX l x r) R w' := by
  obtain ⟨hok, a, cap, hg, hl⟩ := id hR
  have hlen := hok.len
  have hlt := hR.lt
  unfold changeX
  obtain ⟨kind, key, val, stamp, test, most⟩ := x
  obtain ⟨rk, rst, rv⟩ := r
  simp only at hrow ⊢
  obtain ⟨W, hW⟩ : ∃ W, W = ((w.alloc (.cells (opC kind key val stamp test most) OpT)).alloc (.cells #[.string rk, .int .i64 rst, .string rv] RowT)).alloc (.cells rs0 ResT) := ⟨_, rfl⟩
  by_cases hA : test ≠ 0 ∧ test ≠ rst
  · simp only [if_pos (Or.inl hA)]
    have b1 : (test != 0) = true := by simp [hA.1]
    have b2 : (test != rst) = true := by simp [hA.2]
    clear hA hrow
    go_enter Try.func81, Try.ntmps81
    go_wp2
    refine bodyPost_ret (v := RsA.v ⟨Tb.rs 92 rst ⟨#[]⟩, none, 0⟩) (by simp [results, Try.results81, go_sem]) rfl ?_
    exact ⟨_, rfl, RsP.plain hR (below_a3 _ _ _ _)⟩
  · have hsp : Hid (test = 0 ∨ (test ≠ 0 ∧ test = rst)) := by
      by_cases h0 : test = 0
      · exact Or.inl h0
      · by_cases h1 : test = rst
        · exact Or.inr ⟨h0, h1⟩
        · exact absurd ⟨h0, h1⟩ hA
    by_cases hB : stamp ≤ rst
    · simp only [if_pos (Or.inr hB)]
      clear hA hrow
      rcases hsp.out with h0 | ⟨h0, h1⟩
      case' inl =>
        have b1 : (test != 0) = false := by simp [h0]
        clear h0
      case' inr =>
        have b1 : (test != 0) = true := by simp [h0]
        have b2 : (test != rst) = false := by simp [h1]
        clear h0 h1
      all_goals
        go_enter Try.func81, Try.ntmps81
        go_wp2
        refine bodyPost_ret (v := RsA.v ⟨Tb.rs 92 rst ⟨#[]⟩, none, 0⟩) (by simp [results, Try.results81, go_sem]) rfl ?_
        exact ⟨_, rfl, RsP.plain hR (below_a3 _ _ _ _)⟩
    · simp only [if_neg (fun h : (test ≠ 0 ∧ test ≠ rst) ∨ stamp ≤ rst => h.elim hA hB)]
      by_cases hv : 4096 < val.size
      · simp only [if_pos hv]
        have i1 : (4096 : Int) < (val.size : Int) := by omega
        clear hA hrow
        rcases hsp.out with h0 | ⟨h0, h1⟩
        case' inl =>
          have b1 : (test != 0) = false := by simp [h0]
          clear h0
        case' inr =>
          have b1 : (test != 0) = true := by simp [h0]
          have b2 : (test != rst) = false := by simp [h1]
          clear h0 h1
        all_goals
          go_enter Try.func81, Try.ntmps81
          go_wp2
          refine bodyPost_ret (v := RsA.v ⟨Tb.rs 93 0 ⟨#[]⟩, none, 0⟩) (by simp [results, Try.results81, go_sem]) rfl ?_
          exact ⟨_, rfl, RsP.plain hR (below_a3 _ _ _ _)⟩
      · simp only [if_neg hv]
        have i1 : ¬ (4096 : Int) < (val.size : Int) := by omega
        have hb3 : Below w.heap.size w W := by rw [hW]; exact below_a3 _ _ _ _
        have hPt := put_ref br l (Opn.row ⟨kind, key, val, stamp, test, most⟩) W (hR.below hb3) (hrow (by omega))
        generalize put l (Opn.row ⟨kind, key, val, stamp, test, most⟩) = l' at hPt ⊢
        have hx0 : W.heap[w.heap.size]? = some (.cells (opC kind key val stamp test most) OpT (0, 0)) := by rw [hW, heap_alloc_old _ _ (by simp; omega), heap_alloc_old _ _ (by simp)]; exact heap_alloc_new _ _
        have hs0 : W.heap[w.heap.size + 1 + 1]? = some (.cells rs0 ResT (0, 0)) := by
          have := heap_alloc_new ((w.alloc (.cells (opC kind key val stamp test most) OpT)).alloc (.cells #[.string rk, .int .i64 rst, .string rv] RowT)) (.cells rs0 ResT)
          rw [hW]; simpa using this
        clear hA hrow
        rcases hsp.out with h0 | ⟨h0, h1⟩
        case' inl =>
          have b1 : (test != 0) = false := by simp [h0]
          clear h0
        case' inr =>
          have b1 : (test != 0) = true := by simp [h0]
          have b2 : (test != rst) = false := by simp [h1]
          clear h0 h1
        all_goals
          go_enter Try.func81, Try.ntmps81
          go_wp2_with fail
          rw [← hW]
          refine hPt.mono ?_
          rintro e w1 ⟨rfl, hR1, hu1, hw1⟩
          have hx1 := (hu1.block w.heap.size (Array.getElem?_eq_some_iff.1 hx0).1 (by show w.heap.size ≠ br; omega)).trans hx0
          have hs1 := (hu1.block _ (Array.getElem?_eq_some_iff.1 hs0).1 (by show w.heap.size + 1 + 1 ≠ br; omega)).trans hs0
          have y3 : w1.cell? ⟨w.heap.size, 3, none⟩ = some (.int .i64 stamp) := cellB hx1 3 rfl
          have s0 : w1.cell? ⟨w.heap.size + 1 + 1, 0, none⟩ = some (.int .i64 0) := cellB hs1 0 rfl
          have s1 : w1.cell? ⟨w.heap.size + 1 + 1, 1, none⟩ = some (.int .i64 0) := cellB hs1 1 rfl
          have s2 : w1.cell? ⟨w.heap.size + 1 + 1, 2, none⟩ = some (.string ⟨#[]⟩) := cellB hs1 2 rfl
          have s3 : w1.cell? ⟨w.heap.size + 1 + 1, 3, none⟩ = some (.slice none 0 0) := cellB hs1 3 rfl
          have g0 := unfrozen_of_block hs1 0
          have g1 := unfrozen_of_block hs1 1
          have g2 := unfrozen_of_block hs1 2
          have g3 := unfrozen_of_block hs1 3
          clear hPt
          go_wp2
          refine bodyPost_ret (v := RsA.v ⟨Tb.rs 0 stamp ⟨#[]⟩, none, 0⟩) (by simp [results, Try.results81, go_sem, s0, s1, s2, s3]) rfl ?_
          exact ⟨_, rfl, rfl, Or.inl ⟨rfl, rfl, rfl⟩, hR1.set4 hs1 _ _ _ _, Turn.set4 ((Only.of_below hb3).trans hu1) (by omega) _ _ _ _, fun g hg => Or.inr (Nat.le_trans hb3.size (hw1 g (by rw [← hg]; exact (tabBlk_same (set4_other _ _ _ (hR1.neRes hs1) _ _ _ _)).symm)))⟩

end Go.Proofs.Ythdempdiibjabaa.Tr

namespace Go.Proofs.Ythdempdiibjabaa.Tr
open Go.RowKit Go.Joins Go.Proofs.Ythdempdiibjabaa.Gk Go.Proofs.Ythdempdiibjabaa.Oq Go.Proofs.Ythdempdiibjabaa.Sp Go.Proofs.Ythdempdiibjabaa.Tb

theorem one_none {l : List Rw} {x : Opn} (hk : x.kind ≠ 6) (hr : row? l x.key = none) : one l x = if x.kind = 1 ∨ (x.kind = 3 ∧ x.test = 0) then addX l x else (Tb.rs 91 0 nix, l) := by
  unfold one addX; rw [if_neg hk, hr]
theorem one_some {l : List Rw} {x : Opn} {r : Rw} (hk : x.kind = 2 ∨ x.kind = 3) (hr : row? l x.key = some r) : one l x = changeX l x r := by
  unfold one changeX
  rw [if_neg (by omega), hr]
  simp only
  rw [if_neg (by omega)]
  by_cases hA : x.test ≠ 0 ∧ x.test ≠ r.stamp
  · rw [if_pos hA, if_pos (Or.inl hA)]
  · rw [if_neg hA, if_neg (by omega), if_neg (by omega)]
    by_cases hB : x.stamp ≤ r.stamp
    · rw [if_pos hB, if_pos (Or.inr hB)]
    · rw [if_neg hB, if_neg (fun h : (x.test ≠ 0 ∧ x.test ≠ r.stamp) ∨ x.stamp ≤ r.stamp => h.elim hA hB)]
theorem one_there {l : List Rw} {x : Opn} {r : Rw} (hk : x.kind = 1) (hr : row? l x.key = some r) : one l x = (Tb.rs 90 r.stamp nix, l) := by
  unfold one
  rw [if_neg (by omega), hr]
  simp only
  rw [if_pos hk]

set_option maxRecDepth 100000 in
set_option maxHeartbeats 1600000 in
theorem write_ref (l : List Rw) (x : Opn) (hok0 : Tok l) (hm : x.may = true) (hk : x.kind = 1 ∨ x.kind = 2 ∨ x.kind = 3) : OneR 75 l x (one l x) := by
  cases hr : row? l x.key with
  | some r =>
    by_cases h1 : x.kind = 1
    · rw [one_there h1 hr]
      intro br w hR
      obtain ⟨hok, a, cap, hg, hl⟩ := id hR
      have hlen := hok.len
      have hlt := hR.lt
      obtain ⟨kind, key, val, stamp, test, most⟩ := x
      obtain ⟨W, hW⟩ : ∃ W, W = (w.alloc (.cells (opC kind key val stamp test most) OpT)).alloc (.cells rs0 ResT) := ⟨_, rfl⟩
      have hFr : RFr w br kind key val stamp test most (.slice a l.length cap) W := by rw [hW]; exact RFr.start hg
      have hFd := Find_ref br l key W (hR.below hFr.bel)
      simp only at hr h1
      have b1 : (kind == 1) = true := by simp [h1]
      clear h1 hk hm
      have hth : there l key = true := by unfold there; rw [hr]; rfl
      rw [hth] at hFd
      obtain ⟨hp, hrp, hke⟩ := row?_at hok.rise hr
      clear hke
      obtain ⟨b, off, rfl, hbl, hc⟩ := hl.lies.at (k := 3) rwenc_len (pos l key) hp
      have c0 := hc 0 _ rfl
      have c1 := hc 1 _ rfl
      have c2 := hc 2 _ rfl
      rw [Nat.add_zero] at c0
      rw [hrp] at c0 c1 c2
      obtain ⟨rk, rst0, rv0⟩ := r
      simp only at c0 c1 c2 ⊢
      generalize pos l key = p at *
      have i1 : (0 : Int) ≤ (p : Int) := by omega
      have i2 : (p : Int) < (l.length : Int) := by omega
      clear hc hrp
      go_enter Try.func75, Try.ntmps75
      go_wp2_with fail
      rw [← hW]
      refine hFd.mono ?_
      rintro e w1 ⟨rfl, hb1⟩
      have hF1 := hFr.call hb1
      obtain ⟨x0, x1, x2, x3, x4, x5⟩ := hF1.xs
      obtain ⟨r0, r1, r2, r3⟩ := hF1.rs
      obtain ⟨f0, f1, f2, f3, ft⟩ := hF1.fs
      have t0 := hF1.tb
      have hbe := hide hF1.bel
      have d0 := (hF1.bel.cell (p := ⟨b, off + p * 3, none⟩) hbl).trans c0
      have d1 := (hF1.bel.cell (p := ⟨b, off + p * 3 + 1, none⟩) hbl).trans c1
      have d2 := (hF1.bel.cell (p := ⟨b, off + p * 3 + 2, none⟩) hbl).trans c2
      go_wp2
      refine bodyPost_ret (v := RsA.v ⟨Tb.rs 90 rst0 ⟨#[]⟩, none, 0⟩) (by simp [results, Try.results75, go_sem, r0, r1, r2, r3]) rfl ?_
      exact ⟨_, rfl, RsP.plain hR (set4_below hbe.out (Nat.le_succ _) _ _ _ _)⟩
    · rw [one_some (by omega) hr]
      have hCh := change_ref l x r
      have hrow : x.val.size ≤ 4096 → Tok (put l (Opn.row x)) := fun hv => hok0.put_old (row_ok hm hk (by omega)) hr
      intro br w hR
      obtain ⟨hok, a, cap, hg, hl⟩ := id hR
      have hlen := hok.len
      have hlt := hR.lt
      obtain ⟨kind, key, val, stamp, test, most⟩ := x
      obtain ⟨W, hW⟩ : ∃ W, W = (w.alloc (.cells (opC kind key val stamp test most) OpT)).alloc (.cells rs0 ResT) := ⟨_, rfl⟩
      have hFr : RFr w br kind key val stamp test most (.slice a l.length cap) W := by rw [hW]; exact RFr.start hg
      have hFd := Find_ref br l key W (hR.below hFr.bel)
      simp only at hr h1
      have b1 : (kind == 1) = false := by simp [h1]
      clear h1 hk hm
      have hth : there l key = true := by unfold there; rw [hr]; rfl
      rw [hth] at hFd
      obtain ⟨hp, hrp, hke⟩ := row?_at hok.rise hr
      clear hke
      obtain ⟨b, off, rfl, hbl, hc⟩ := hl.lies.at (k := 3) rwenc_len (pos l key) hp
      have c0 := hc 0 _ rfl
      have c1 := hc 1 _ rfl
      have c2 := hc 2 _ rfl
      rw [Nat.add_zero] at c0
      rw [hrp] at c0 c1 c2
      obtain ⟨rk, rst0, rv0⟩ := r
      simp only at c0 c1 c2 ⊢
      generalize pos l key = p at *
      have i1 : (0 : Int) ≤ (p : Int) := by omega
      have i2 : (p : Int) < (l.length : Int) := by omega
      clear hc hrp
      go_enter Try.func75, Try.ntmps75
      go_wp2_with fail
      rw [← hW]
      refine hFd.mono ?_
      rintro e w1 ⟨rfl, hb1⟩
      have hF1 := hFr.call hb1
      obtain ⟨x0, x1, x2, x3, x4, x5⟩ := hF1.xs
      obtain ⟨r0, r1, r2, r3⟩ := hF1.rs
      obtain ⟨f0, f1, f2, f3, ft⟩ := hF1.fs
      have t0 := hF1.tb
      have hbe := hide hF1.bel
      have d0 := (hF1.bel.cell (p := ⟨b, off + p * 3, none⟩) hbl).trans c0
      have d1 := (hF1.bel.cell (p := ⟨b, off + p * 3 + 1, none⟩) hbl).trans c1
      have d2 := (hF1.bel.cell (p := ⟨b, off + p * 3 + 2, none⟩) hbl).trans c2
      go_wp2_with fail
      go_region_law (first | (go_simp; go_at_call 81; refine (hCh br w1.drew (hR.below hF1.drew.bel) hrow).mono ?_; rintro e w2 ⟨R, rfl, hP⟩; have hr := hF1.drew.res1 hlt hP.turn; have s0 : w2.cell? ⟨w.heap.size + 1, 0, none⟩ = some (.int .i64 0) := cellB hr 0 rfl; have s1 : w2.cell? ⟨w.heap.size + 1, 1, none⟩ = some (.int .i64 0) := cellB hr 1 rfl; have s2 : w2.cell? ⟨w.heap.size + 1, 2, none⟩ = some (.string ⟨#[]⟩) := cellB hr 2 rfl; have s3 : w2.cell? ⟨w.heap.size + 1, 3, none⟩ = some (.slice none 0 0) := cellB hr 3 rfl; have g0 := unfrozen_of_block hr 0; have g1 := unfrozen_of_block hr 1; have g2 := unfrozen_of_block hr 2; have g3 := unfrozen_of_block hr 3; have HP := hide (fun u0 u1 u2 u3 => RsP.lift hF1.drew hlt hP u0 u1 u2 u3); clear hr hP; obtain ⟨⟨rc, rst, rv, rr⟩, ra, rcap⟩ := R))
      all_goals
        go_wp2
        refine bodyPost_ret (v := RsA.v ⟨⟨rc, rst, rv, rr⟩, ra, rcap⟩) (by simp [results, Try.results75, go_sem, s0, s1, s2, s3]) rfl ?_
        exact ⟨_, rfl, HP.out _ _ _ _⟩
  | none =>
    rw [one_none (by omega) hr]
    by_cases hA : x.kind = 1 ∨ (x.kind = 3 ∧ x.test = 0)
    · rw [if_pos hA]
      have hAd := add_ref l x (fun hv hl => hok0.put_new (row_ok hm hk (by omega)) hr hl)
      have hth : there l x.key = false := by unfold there; rw [hr]; rfl
      intro br w hR
      obtain ⟨hok, a, cap, hg, hl⟩ := id hR
      have hlen := hok.len
      have hlt := hR.lt
      obtain ⟨kind, key, val, stamp, test, most⟩ := x
      obtain ⟨W, hW⟩ : ∃ W, W = (w.alloc (.cells (opC kind key val stamp test most) OpT)).alloc (.cells rs0 ResT) := ⟨_, rfl⟩
      have hFr : RFr w br kind key val stamp test most (.slice a l.length cap) W := by rw [hW]; exact RFr.start hg
      have hFd := Find_ref br l key W (hR.below hFr.bel)
      simp only at hr hth hA
      rw [hth] at hFd
      have b2 : (kind == 2) = false := by simp; omega
      rcases hA with hA | ⟨hA, hB⟩
      case' inl =>
        have b3 : (kind == 3) = false := by simp; omega
        clear hA
      case' inr =>
        have b3 : (kind == 3) = true := by simp [hA]
        have b4 : (test != 0) = false := by simp [hB]
        clear hA hB
      all_goals
        clear hk hm
        go_enter Try.func75, Try.ntmps75
        go_wp2_with fail
        rw [← hW]
        refine hFd.mono ?_
        rintro e w1 ⟨rfl, hb1⟩
        have hF1 := hFr.call hb1
        obtain ⟨x0, x1, x2, x3, x4, x5⟩ := hF1.xs
        obtain ⟨r0, r1, r2, r3⟩ := hF1.rs
        obtain ⟨f0, f1, f2, f3, ft⟩ := hF1.fs
        have t0 := hF1.tb
        have hbe := hide hF1.bel
        go_wp2_with fail
        clear x0 x1 x2 x3 x4 x5 r0 r1 r2 r3 f0 f1 f2 f3 ft t0
        refine (hAd br _ (hR.below hF1.bel)).mono ?_
        rintro e w2 ⟨R, rfl, hP⟩
        have hr := hF1.res1 hlt hP.turn
        have r0 : w2.cell? ⟨w.heap.size + 1, 0, none⟩ = some (.int .i64 0) := cellB hr 0 rfl
        have r1 : w2.cell? ⟨w.heap.size + 1, 1, none⟩ = some (.int .i64 0) := cellB hr 1 rfl
        have r2 : w2.cell? ⟨w.heap.size + 1, 2, none⟩ = some (.string ⟨#[]⟩) := cellB hr 2 rfl
        have r3 : w2.cell? ⟨w.heap.size + 1, 3, none⟩ = some (.slice none 0 0) := cellB hr 3 rfl
        have f0 := unfrozen_of_block hr 0
        have f1 := unfrozen_of_block hr 1
        have f2 := unfrozen_of_block hr 2
        have f3 := unfrozen_of_block hr 3
        have HP := hide (fun u0 u1 u2 u3 => RsP.lift hF1 hlt hP u0 u1 u2 u3)
        clear hr hP
        obtain ⟨⟨rc, rst, rv, rr⟩, ra, rcap⟩ := R
        go_wp2
        refine bodyPost_ret (v := RsA.v ⟨⟨rc, rst, rv, rr⟩, ra, rcap⟩) (by simp [results, Try.results75, go_sem, r0, r1, r2, r3]) rfl ?_
        exact ⟨_, rfl, HP.out _ _ _ _⟩
    · rw [if_neg hA]
      have hth : there l x.key = false := by unfold there; rw [hr]; rfl
      intro br w hR
      obtain ⟨hok, a, cap, hg, hl⟩ := id hR
      have hlen := hok.len
      have hlt := hR.lt
      obtain ⟨kind, key, val, stamp, test, most⟩ := x
      obtain ⟨W, hW⟩ : ∃ W, W = (w.alloc (.cells (opC kind key val stamp test most) OpT)).alloc (.cells rs0 ResT) := ⟨_, rfl⟩
      have hFr : RFr w br kind key val stamp test most (.slice a l.length cap) W := by rw [hW]; exact RFr.start hg
      have hFd := Find_ref br l key W (hR.below hFr.bel)
      simp only at hr hth hA hk
      rw [hth] at hFd
      by_cases h2 : kind = 2
      case' pos =>
        have b2 : (kind == 2) = true := by simp [h2]
        clear h2
      case' neg =>
        have b2 : (kind == 2) = false := by simp [h2]
        have b3 : (kind == 3) = true := by simp; omega
        have b4 : (test != 0) = true := by simp; omega
        clear h2
      all_goals
        clear hk hm hA
        go_enter Try.func75, Try.ntmps75
        go_wp2_with fail
        rw [← hW]
        refine hFd.mono ?_
        rintro e w1 ⟨rfl, hb1⟩
        have hF1 := hFr.call hb1
        obtain ⟨x0, x1, x2, x3, x4, x5⟩ := hF1.xs
        obtain ⟨r0, r1, r2, r3⟩ := hF1.rs
        obtain ⟨f0, f1, f2, f3, ft⟩ := hF1.fs
        have t0 := hF1.tb
        have hbe := hide hF1.bel
        go_wp2
        refine bodyPost_ret (v := RsA.v ⟨Tb.rs 91 0 ⟨#[]⟩, none, 0⟩) (by simp [results, Try.results75, go_sem, r0, r1, r2, r3]) rfl ?_
        exact ⟨_, rfl, RsP.plain hR (set4_below hbe.out (Nat.le_succ _) _ _ _ _)⟩

end Go.Proofs.Ythdempdiibjabaa.Tr
