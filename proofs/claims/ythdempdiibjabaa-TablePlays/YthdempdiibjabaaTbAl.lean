/- Layer 9: walks over alone.go: alone. -/
import Derived.Test.YthdempdiibjabaaTbSet
import Derived.Test.YthdempdiibjabaaTbRem
import Derived.Test.YthdempdiibjabaaTbGet
import Derived.Test.YthdempdiibjabaaTbMany
namespace Go.Proofs.Ythdempdiibjabaa.Tb
open Go.RowKit Go.Joins Go.Proofs.Ythdempdiibjabaa.Gk Go.Proofs.Ythdempdiibjabaa.Oq Go.Proofs.Ythdempdiibjabaa.Sp

/-- an operation by its kind -/
theorem one_add {l : List Rw} {x : Opn} (h : x.kind = 1) : addR l x = one l x := by
  unfold addR one
  rw [if_neg (show ¬ x.kind = 6 by omega)]
  cases row? l x.key with
  | none => simp [h]
  | some r => simp [h]
theorem one_repl {l : List Rw} {x : Opn} (h : x.kind = 2) : repR l x = one l x := by
  unfold repR one tst
  rw [if_neg (show ¬ x.kind = 6 by omega)]
  cases row? l x.key with
  | none => simp [h]
  | some r =>
    by_cases ht : x.test ≠ 0 ∧ x.test ≠ r.stamp
    · simp only [h, if_pos ht]; simp
    · simp only [h, if_neg ht]; simp
theorem one_set {l : List Rw} {x : Opn} (h : x.kind = 3) : setR l x = one l x := by
  unfold setR repR addR one tst there
  rw [if_neg (show ¬ x.kind = 6 by omega)]
  cases row? l x.key with
  | none =>
    by_cases ht : x.test = 0
    · simp [h, ht]
    · simp [h, ht]
  | some r =>
    by_cases ht : x.test ≠ 0 ∧ x.test ≠ r.stamp
    · simp only [h, if_pos ht]; simp
    · simp only [h, if_neg ht]; simp
theorem one_rem {l : List Rw} {x : Opn} (h : x.kind = 4) : remR l x = one l x := by
  unfold remR one tst
  rw [if_neg (show ¬ x.kind = 6 by omega)]
  cases row? l x.key with
  | none => simp [h]
  | some r =>
    by_cases ht : x.test ≠ 0 ∧ x.test ≠ r.stamp
    · simp only [h, if_pos ht]; simp
    · simp only [h, if_neg ht]; simp
theorem one_get {l : List Rw} {x : Opn} (h : x.kind = 5) : getR l x = one l x := by
  unfold getR one tst
  rw [if_neg (show ¬ x.kind = 6 by omega)]
  cases row? l x.key with
  | none => simp [h]
  | some r =>
    by_cases ht : x.test ≠ 0 ∧ x.test ≠ r.stamp
    · simp only [h, if_pos ht]; simp
    · simp only [h, if_neg ht]; simp
theorem one_many {l : List Rw} {x : Opn} (h : x.kind = 6) : manyR l x = one l x := by
  unfold manyR one
  rw [if_pos h]
theorem may_put {x : Opn} (h : x.may = true) (hk : x.kind = 1 ∨ x.kind = 2 ∨ x.kind = 3) : x.key.size ≤ 64 ∧ x.val.size ≤ 8192 := by
  have hp : x.put = true := by
    unfold Opn.may at h
    rcases hk with e | e | e <;> simp [e] at h <;> exact h.1
  unfold Opn.put at hp
  simp only [Bool.and_eq_true] at hp
  obtain ⟨⟨⟨h1, h2⟩, _⟩, _⟩ := hp
  have a := within_iff h1
  have b : x.val.size ≤ 8192 := by simpa [valB] using h2
  exact ⟨by omega, b⟩
theorem may_most {x : Opn} (h : x.may = true) (hk : x.kind = 6) : 1 ≤ x.most ∧ x.most ≤ 100 := by
  unfold Opn.may at h
  simp [hk] at h
  exact within_iff h.1.1.1.2

set_option maxRecDepth 100000 in
set_option maxHeartbeats 1600000 in
theorem alone_any (l : List Rw) (x : Opn) (hm : x.may = true) : OneC 28 l x (one l x) := by
  have hk := may_kind hm
  obtain hk | hk | hk | hk | hk | hk : x.kind = 1 ∨ x.kind = 2 ∨ x.kind = 3 ∨ x.kind = 4 ∨ x.kind = 5 ∨ x.kind = 6 := by omega
  · have hA := add_any l x (may_put hm (by omega)).1 (may_put hm (by omega)).2 (fun hv => row_ok hm (by omega) (by omega))
    rw [one_add hk] at hA
    intro bt w hT
    obtain ⟨hok, a, cap, hg, hl⟩ := id hT
    obtain ⟨kind, key, val, stamp, test, most⟩ := x
    simp only at hk
    subst hk
    obtain ⟨W, hW⟩ : ∃ W, W = (w.alloc (.cells (opC 1 key val stamp test most) OpT)).alloc (.cells rs0 ResT) := ⟨_, rfl⟩
    have hFr : Fr w bt 1 key val stamp test most (.slice a l.length cap) W := by rw [hW]; exact Fr.start hg
    have hlt := hide (Array.getElem?_eq_some_iff.1 hg).1
    obtain ⟨x0, x1, x2, x3, x4, x5⟩ := hFr.xs
    obtain ⟨r0, r1, r2, r3⟩ := hFr.rs
    obtain ⟨f0, f1, f2, f3, ft⟩ := hFr.fs
    have t0 := hFr.tb
    go_enter Try.func28, Try.ntmps28
    go_wp2_with fail
    rw [← hW]
    clear hW hg x0 x1 x2 x3 x4 x5 r0 r1 r2 r3 f0 f1 f2 f3 ft t0 hm
    refine (hA bt _ (hT.below hFr.bel)).mono ?_
    rintro e w2 ⟨R, rfl, hP⟩
    have hr := hFr.res1 hlt.out hP.turn
    have r0 : w2.cell? ⟨w.heap.size + 1, 0, none⟩ = some (.int .i64 0) := cellB hr 0 rfl
    have r1 : w2.cell? ⟨w.heap.size + 1, 1, none⟩ = some (.int .i64 0) := cellB hr 1 rfl
    have r2 : w2.cell? ⟨w.heap.size + 1, 2, none⟩ = some (.string ⟨#[]⟩) := cellB hr 2 rfl
    have r3 : w2.cell? ⟨w.heap.size + 1, 3, none⟩ = some (.slice none 0 0) := cellB hr 3 rfl
    have f0 := unfrozen_of_block hr 0
    have f1 := unfrozen_of_block hr 1
    have f2 := unfrozen_of_block hr 2
    have f3 := unfrozen_of_block hr 3
    have HP := hide (fun u0 u1 u2 u3 => ResP.lift hFr hlt.out hP u0 u1 u2 u3)
    clear hr hP
    obtain ⟨⟨rc, rst, rv, rr⟩, ra, rcap⟩ := R
    go_wp2
    refine bodyPost_ret (v := RsA.v ⟨⟨rc, rst, rv, rr⟩, ra, rcap⟩) (by simp [results, Try.results28, go_sem, r0, r1, r2, r3]) rfl ?_
    exact ⟨_, rfl, HP.out _ _ _ _⟩
  · have hA := replace_any l x (may_put hm (by omega)).1 (may_put hm (by omega)).2 (fun hv => row_ok hm (by omega) (by omega))
    rw [one_repl hk] at hA
    intro bt w hT
    obtain ⟨hok, a, cap, hg, hl⟩ := id hT
    obtain ⟨kind, key, val, stamp, test, most⟩ := x
    simp only at hk
    subst hk
    obtain ⟨W, hW⟩ : ∃ W, W = (w.alloc (.cells (opC 2 key val stamp test most) OpT)).alloc (.cells rs0 ResT) := ⟨_, rfl⟩
    have hFr : Fr w bt 2 key val stamp test most (.slice a l.length cap) W := by rw [hW]; exact Fr.start hg
    have hlt := hide (Array.getElem?_eq_some_iff.1 hg).1
    obtain ⟨x0, x1, x2, x3, x4, x5⟩ := hFr.xs
    obtain ⟨r0, r1, r2, r3⟩ := hFr.rs
    obtain ⟨f0, f1, f2, f3, ft⟩ := hFr.fs
    have t0 := hFr.tb
    go_enter Try.func28, Try.ntmps28
    go_wp2_with fail
    rw [← hW]
    clear hW hg x0 x1 x2 x3 x4 x5 r0 r1 r2 r3 f0 f1 f2 f3 ft t0 hm
    refine (hA bt _ (hT.below hFr.bel)).mono ?_
    rintro e w2 ⟨R, rfl, hP⟩
    have hr := hFr.res1 hlt.out hP.turn
    have r0 : w2.cell? ⟨w.heap.size + 1, 0, none⟩ = some (.int .i64 0) := cellB hr 0 rfl
    have r1 : w2.cell? ⟨w.heap.size + 1, 1, none⟩ = some (.int .i64 0) := cellB hr 1 rfl
    have r2 : w2.cell? ⟨w.heap.size + 1, 2, none⟩ = some (.string ⟨#[]⟩) := cellB hr 2 rfl
    have r3 : w2.cell? ⟨w.heap.size + 1, 3, none⟩ = some (.slice none 0 0) := cellB hr 3 rfl
    have f0 := unfrozen_of_block hr 0
    have f1 := unfrozen_of_block hr 1
    have f2 := unfrozen_of_block hr 2
    have f3 := unfrozen_of_block hr 3
    have HP := hide (fun u0 u1 u2 u3 => ResP.lift hFr hlt.out hP u0 u1 u2 u3)
    clear hr hP
    obtain ⟨⟨rc, rst, rv, rr⟩, ra, rcap⟩ := R
    go_wp2
    refine bodyPost_ret (v := RsA.v ⟨⟨rc, rst, rv, rr⟩, ra, rcap⟩) (by simp [results, Try.results28, go_sem, r0, r1, r2, r3]) rfl ?_
    exact ⟨_, rfl, HP.out _ _ _ _⟩
  · have hA := set_any l x (may_put hm (by omega)).1 (may_put hm (by omega)).2 (fun hv => row_ok hm (by omega) (by omega))
    rw [one_set hk] at hA
    intro bt w hT
    obtain ⟨hok, a, cap, hg, hl⟩ := id hT
    obtain ⟨kind, key, val, stamp, test, most⟩ := x
    simp only at hk
    subst hk
    obtain ⟨W, hW⟩ : ∃ W, W = (w.alloc (.cells (opC 3 key val stamp test most) OpT)).alloc (.cells rs0 ResT) := ⟨_, rfl⟩
    have hFr : Fr w bt 3 key val stamp test most (.slice a l.length cap) W := by rw [hW]; exact Fr.start hg
    have hlt := hide (Array.getElem?_eq_some_iff.1 hg).1
    obtain ⟨x0, x1, x2, x3, x4, x5⟩ := hFr.xs
    obtain ⟨r0, r1, r2, r3⟩ := hFr.rs
    obtain ⟨f0, f1, f2, f3, ft⟩ := hFr.fs
    have t0 := hFr.tb
    go_enter Try.func28, Try.ntmps28
    go_wp2_with fail
    rw [← hW]
    clear hW hg x0 x1 x2 x3 x4 x5 r0 r1 r2 r3 f0 f1 f2 f3 ft t0 hm
    refine (hA bt _ (hT.below hFr.bel)).mono ?_
    rintro e w2 ⟨R, rfl, hP⟩
    have hr := hFr.res1 hlt.out hP.turn
    have r0 : w2.cell? ⟨w.heap.size + 1, 0, none⟩ = some (.int .i64 0) := cellB hr 0 rfl
    have r1 : w2.cell? ⟨w.heap.size + 1, 1, none⟩ = some (.int .i64 0) := cellB hr 1 rfl
    have r2 : w2.cell? ⟨w.heap.size + 1, 2, none⟩ = some (.string ⟨#[]⟩) := cellB hr 2 rfl
    have r3 : w2.cell? ⟨w.heap.size + 1, 3, none⟩ = some (.slice none 0 0) := cellB hr 3 rfl
    have f0 := unfrozen_of_block hr 0
    have f1 := unfrozen_of_block hr 1
    have f2 := unfrozen_of_block hr 2
    have f3 := unfrozen_of_block hr 3
    have HP := hide (fun u0 u1 u2 u3 => ResP.lift hFr hlt.out hP u0 u1 u2 u3)
    clear hr hP
    obtain ⟨⟨rc, rst, rv, rr⟩, ra, rcap⟩ := R
    go_wp2
    refine bodyPost_ret (v := RsA.v ⟨⟨rc, rst, rv, rr⟩, ra, rcap⟩) (by simp [results, Try.results28, go_sem, r0, r1, r2, r3]) rfl ?_
    exact ⟨_, rfl, HP.out _ _ _ _⟩
  · have hA := remove_any l x
    rw [one_rem hk] at hA
    intro bt w hT
    obtain ⟨hok, a, cap, hg, hl⟩ := id hT
    obtain ⟨kind, key, val, stamp, test, most⟩ := x
    simp only at hk
    subst hk
    obtain ⟨W, hW⟩ : ∃ W, W = (w.alloc (.cells (opC 4 key val stamp test most) OpT)).alloc (.cells rs0 ResT) := ⟨_, rfl⟩
    have hFr : Fr w bt 4 key val stamp test most (.slice a l.length cap) W := by rw [hW]; exact Fr.start hg
    have hlt := hide (Array.getElem?_eq_some_iff.1 hg).1
    obtain ⟨x0, x1, x2, x3, x4, x5⟩ := hFr.xs
    obtain ⟨r0, r1, r2, r3⟩ := hFr.rs
    obtain ⟨f0, f1, f2, f3, ft⟩ := hFr.fs
    have t0 := hFr.tb
    go_enter Try.func28, Try.ntmps28
    go_wp2_with fail
    rw [← hW]
    clear hW hg x0 x1 x2 x3 x4 x5 r0 r1 r2 r3 f0 f1 f2 f3 ft t0 hm
    refine (hA bt _ (hT.below hFr.bel)).mono ?_
    rintro e w2 ⟨R, rfl, hP⟩
    have hr := hFr.res1 hlt.out hP.turn
    have r0 : w2.cell? ⟨w.heap.size + 1, 0, none⟩ = some (.int .i64 0) := cellB hr 0 rfl
    have r1 : w2.cell? ⟨w.heap.size + 1, 1, none⟩ = some (.int .i64 0) := cellB hr 1 rfl
    have r2 : w2.cell? ⟨w.heap.size + 1, 2, none⟩ = some (.string ⟨#[]⟩) := cellB hr 2 rfl
    have r3 : w2.cell? ⟨w.heap.size + 1, 3, none⟩ = some (.slice none 0 0) := cellB hr 3 rfl
    have f0 := unfrozen_of_block hr 0
    have f1 := unfrozen_of_block hr 1
    have f2 := unfrozen_of_block hr 2
    have f3 := unfrozen_of_block hr 3
    have HP := hide (fun u0 u1 u2 u3 => ResP.lift hFr hlt.out hP u0 u1 u2 u3)
    clear hr hP
    obtain ⟨⟨rc, rst, rv, rr⟩, ra, rcap⟩ := R
    go_wp2
    refine bodyPost_ret (v := RsA.v ⟨⟨rc, rst, rv, rr⟩, ra, rcap⟩) (by simp [results, Try.results28, go_sem, r0, r1, r2, r3]) rfl ?_
    exact ⟨_, rfl, HP.out _ _ _ _⟩
  · have hA := get_any l x
    rw [one_get hk] at hA
    intro bt w hT
    obtain ⟨hok, a, cap, hg, hl⟩ := id hT
    obtain ⟨kind, key, val, stamp, test, most⟩ := x
    simp only at hk
    subst hk
    obtain ⟨W, hW⟩ : ∃ W, W = (w.alloc (.cells (opC 5 key val stamp test most) OpT)).alloc (.cells rs0 ResT) := ⟨_, rfl⟩
    have hFr : Fr w bt 5 key val stamp test most (.slice a l.length cap) W := by rw [hW]; exact Fr.start hg
    have hlt := hide (Array.getElem?_eq_some_iff.1 hg).1
    obtain ⟨x0, x1, x2, x3, x4, x5⟩ := hFr.xs
    obtain ⟨r0, r1, r2, r3⟩ := hFr.rs
    obtain ⟨f0, f1, f2, f3, ft⟩ := hFr.fs
    have t0 := hFr.tb
    go_enter Try.func28, Try.ntmps28
    go_wp2_with fail
    rw [← hW]
    clear hW hg x0 x1 x2 x3 x4 x5 r0 r1 r2 r3 f0 f1 f2 f3 ft t0 hm
    refine (hA bt _ (hT.below hFr.bel)).mono ?_
    rintro e w2 ⟨R, rfl, hP⟩
    have hr := hFr.res1 hlt.out hP.turn
    have r0 : w2.cell? ⟨w.heap.size + 1, 0, none⟩ = some (.int .i64 0) := cellB hr 0 rfl
    have r1 : w2.cell? ⟨w.heap.size + 1, 1, none⟩ = some (.int .i64 0) := cellB hr 1 rfl
    have r2 : w2.cell? ⟨w.heap.size + 1, 2, none⟩ = some (.string ⟨#[]⟩) := cellB hr 2 rfl
    have r3 : w2.cell? ⟨w.heap.size + 1, 3, none⟩ = some (.slice none 0 0) := cellB hr 3 rfl
    have f0 := unfrozen_of_block hr 0
    have f1 := unfrozen_of_block hr 1
    have f2 := unfrozen_of_block hr 2
    have f3 := unfrozen_of_block hr 3
    have HP := hide (fun u0 u1 u2 u3 => ResP.lift hFr hlt.out hP u0 u1 u2 u3)
    clear hr hP
    obtain ⟨⟨rc, rst, rv, rr⟩, ra, rcap⟩ := R
    go_wp2
    refine bodyPost_ret (v := RsA.v ⟨⟨rc, rst, rv, rr⟩, ra, rcap⟩) (by simp [results, Try.results28, go_sem, r0, r1, r2, r3]) rfl ?_
    exact ⟨_, rfl, HP.out _ _ _ _⟩
  · have hA := many_any l x (may_most hm hk).1 (may_most hm hk).2
    rw [one_many hk] at hA
    intro bt w hT
    obtain ⟨hok, a, cap, hg, hl⟩ := id hT
    obtain ⟨kind, key, val, stamp, test, most⟩ := x
    simp only at hk
    subst hk
    obtain ⟨W, hW⟩ : ∃ W, W = (w.alloc (.cells (opC 6 key val stamp test most) OpT)).alloc (.cells rs0 ResT) := ⟨_, rfl⟩
    have hFr : Fr w bt 6 key val stamp test most (.slice a l.length cap) W := by rw [hW]; exact Fr.start hg
    have hlt := hide (Array.getElem?_eq_some_iff.1 hg).1
    obtain ⟨x0, x1, x2, x3, x4, x5⟩ := hFr.xs
    obtain ⟨r0, r1, r2, r3⟩ := hFr.rs
    obtain ⟨f0, f1, f2, f3, ft⟩ := hFr.fs
    have t0 := hFr.tb
    go_enter Try.func28, Try.ntmps28
    go_wp2_with fail
    rw [← hW]
    clear hW hg x0 x1 x2 x3 x4 x5 r0 r1 r2 r3 f0 f1 f2 f3 ft t0 hm
    refine (hA bt _ (hT.below hFr.bel)).mono ?_
    rintro e w2 ⟨R, rfl, hP⟩
    have hr := hFr.res1 hlt.out hP.turn
    have r0 : w2.cell? ⟨w.heap.size + 1, 0, none⟩ = some (.int .i64 0) := cellB hr 0 rfl
    have r1 : w2.cell? ⟨w.heap.size + 1, 1, none⟩ = some (.int .i64 0) := cellB hr 1 rfl
    have r2 : w2.cell? ⟨w.heap.size + 1, 2, none⟩ = some (.string ⟨#[]⟩) := cellB hr 2 rfl
    have r3 : w2.cell? ⟨w.heap.size + 1, 3, none⟩ = some (.slice none 0 0) := cellB hr 3 rfl
    have f0 := unfrozen_of_block hr 0
    have f1 := unfrozen_of_block hr 1
    have f2 := unfrozen_of_block hr 2
    have f3 := unfrozen_of_block hr 3
    have HP := hide (fun u0 u1 u2 u3 => ResP.lift hFr hlt.out hP u0 u1 u2 u3)
    clear hr hP
    obtain ⟨⟨rc, rst, rv, rr⟩, ra, rcap⟩ := R
    go_wp2
    refine bodyPost_ret (v := RsA.v ⟨⟨rc, rst, rv, rr⟩, ra, rcap⟩) (by simp [results, Try.results28, go_sem, r0, r1, r2, r3]) rfl ?_
    exact ⟨_, rfl, HP.out _ _ _ _⟩

end Go.Proofs.Ythdempdiibjabaa.Tb
