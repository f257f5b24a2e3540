/- Layer 9: walks over alone.go: many. -/
import Derived.Test.YthdempdiibjabaaTbRepl
namespace Go.Proofs.Ythdempdiibjabaa.Tb
open Go.RowKit Go.Joins Go.Proofs.Ythdempdiibjabaa.Gk Go.Proofs.Ythdempdiibjabaa.Oq Go.Proofs.Ythdempdiibjabaa.Sp

/-- what many comes to -/
def manyR (l : List Rw) (x : Opn) : Rs × List Rw := (⟨0, 0, nix, (l.drop (pos l x.key)).take x.most.toNat⟩, l)

set_option maxRecDepth 100000 in
set_option maxHeartbeats 1600000 in
theorem many_any (l : List Rw) (x : Opn) (hm1 : 1 ≤ x.most) (hm2 : x.most ≤ 100) : OneC 50 l x (manyR l x) := by
  intro bt w hT
  obtain ⟨hok, a, cap, hg, hl⟩ := id hT
  have hF := fun W (hb : Below w.heap.size w W) => find_any a cap x.key l hok.rise (by have := hok.len; omega) W (hl.lies.below hb)
  obtain ⟨kind, key, val, stamp, test, most⟩ := x
  obtain ⟨W, hW⟩ : ∃ W, W = (w.alloc (.cells (opC kind key val stamp test most) OpT)).alloc (.cells rs0 ResT) := ⟨_, rfl⟩
  have hFr : Fr w bt kind key val stamp test most (.slice a l.length cap) W := by rw [hW]; exact Fr.start hg
  simp only at hF hm1 hm2 ⊢
  obtain ⟨x0, x1, x2, x3, x4, x5⟩ := hFr.xs
  obtain ⟨r0, r1, r2, r3⟩ := hFr.rs
  obtain ⟨f0, f1, f2, f3, ft⟩ := hFr.fs
  have t0 := hFr.tb
  unfold manyR
  simp only
  have hpl := pos_le l key
  have hlen := hok.len
  obtain ⟨n, hn⟩ : ∃ n : Nat, most = (n : Int) := ⟨most.toNat, by omega⟩
  subst hn
  obtain ⟨q, hq⟩ : ∃ q : Nat, q = min l.length (pos l key + n) := ⟨_, rfl⟩
  have hq1 : pos l key ≤ q := by omega
  have hq2 : q ≤ l.length := by omega
  have HP : Hid ((l.take q).drop (pos l key) = (l.drop (pos l key)).take ((n : Int)).toNat) := by
    show _ = _
    rw [hq, List.drop_take, Int.toNat_natCast]
    have : min l.length (pos l key + n) - pos l key = min (l.length - pos l key) n := by omega
    rw [this, ← List.length_drop, List.take_eq_take_min (i := n), Nat.min_comm]
  have hqi : min (l.length : Int) ((pos l key : Int) + (n : Int)) = (q : Int) := by omega
  have hwr : IntKind.i64.wrap ((pos l key : Int) + (n : Int)) = (pos l key : Int) + (n : Int) := by rw [IntKind.wrap_i64]; omega
  generalize there l key = th at hF
  generalize pos l key = p at *
  have hroom := hl.room
  have hS := hl.sub p q hq1 hq2
  have hLl : ((l.take q).drop p).length = q - p := by rw [List.length_drop, List.length_take]; omega
  have hLe : ∀ x ∈ (l.take q).drop p, x.key.size ≤ 140737488351232 ∧ x.val.size ≤ 140737488351232 := fun x hx => by
    have h1 := hok.each x (List.mem_of_mem_take (List.mem_of_mem_drop hx))
    exact ⟨Nat.le_trans h1.k2 (by omega), Nat.le_trans h1.v (by omega)⟩
  have HLl := hide hLl
  have hqc : (q : Int) ≤ (cap : Int) := by omega
  generalize (l.take q).drop p = L at *
  by_cases hcp : cap = p
  · subst hcp
    rw [if_pos rfl, Nat.sub_self] at hS
    have hC := fun W (hb : Below w.heap.size w W) => copied_any a 0 L W (hS.below hb).lies (by omega) hLe
    rw [hLl] at hC
    clear hLl
    go_enter Try.func50, Try.ntmps50
    go_wp2_with fail
    rw [← hW]
    clear hW
    have mixed : Try.prog.follows .mixedOrders = true := by kernel_rfl
    have hFq := fun n os => hF (Go.Sort.grow (W.drewN n) os) (hFr.bel.trans ((Gr.grow (Gr.refl W) n os).below.mono hFr.bel.size))
    have y1 := fun n os => cell_grown (w := W) (Array.getElem?_eq_some_iff.1 hFr.box).1 x1 n os
    have yt := fun n os => cell_grown (w := W) (Array.getElem?_eq_some_iff.1 hFr.tab).1 t0 n os
    clear x0 x1 x2 x3 x4 x5 r0 r1 r2 r3 f0 f1 f2 f3 ft t0 hF
    go_quiet_grown (first | (go_at_call 43; refine Calls.grown_of (hFq _ _)))
    have hg1 : Gr W (Go.Sort.grow (W.drewN nq) osq) := Gr.grow (Gr.refl _) nq osq
    generalize Go.Sort.grow (W.drewN nq) osq = w1 at hg1 ⊢
    have hF1 := hFr.call hg1.below
    clear hFq y1 yt
    obtain ⟨x0, x1, x2, x3, x4, x5⟩ := hF1.xs
    obtain ⟨r0, r1, r2, r3⟩ := hF1.rs
    obtain ⟨f0, f1, f2, f3, ft⟩ := hF1.fs
    have t0 := hF1.tb
    clear hFr hg1 hg hq
    go_wp2_with fail
    go_quiet (fail)
    go_wp2_with fail
    have hF2 := hF1.call (W' := w1.drewN nq) (below_drewN (Below.refl _ _) nq)
    refine (hC _ hF2.bel).mono ?_
    rintro e w3 ⟨rfl, hown3, hb3⟩
    have hF3 := hF2.call hb3
    clear x0 x1 x2 x3 x4 x5 r0 r1 r2 r3 f0 f1 f2 f3 ft t0
    obtain ⟨r0, r1, r2, r3⟩ := hF3.rs
    obtain ⟨f0, f1, f2, f3, _⟩ := hF3.fs
    have HRL := hide (RL.of_own (l := L) (show w3.ownsRow _ RowT 3 _ L.length (rc rwenc L) by rw [HLl.out]; exact hown3))
    have HNW : Hid (w.heap.size ≤ (w1.drewN nq).heap.size) := hF2.bel.size
    generalize (w1.drewN nq).heap.size = bb at *
    have HF3 := hide hF3
    clear hF1 hF2 hF3 hb3 hown3 hC
    go_wp2
    refine bodyPost_ret (v := RsA.v ⟨⟨0, 0, ⟨#[]⟩, L⟩, some ⟨bb, 0, none⟩, q - cap⟩) (by simp [results, Try.results50, go_sem, r0, r1, r2, r3, HLl.out]) rfl ?_
    refine ⟨_, rfl, ?_⟩
    exact ⟨by rw [← HP.out], HRL.out.set4 HF3.out.res _ _ _ _, fun g hg => by cases hg; exact HNW.out, hT.below (set4_below HF3.out.bel (Nat.le_succ _) _ _ _ _), Only.of_below (set4_below HF3.out.bel (Nat.le_succ _) _ _ _ _), fun g hg => Or.inl (by rw [← hg]; exact (tabBlk_same ((set4_below HF3.out.bel (Nat.le_succ _) _ _ _ _).block bt hT.lt)).symm), fun g hg hq => by
      have hgb : g = bb := (Option.some.inj hg).symm
      rw [hgb] at hq
      rw [tabBlk_same ((set4_below HF3.out.bel (Nat.le_succ _) _ _ _ _).block bt hT.lt)] at hq
      have h1 := hT.blkLt hq
      have h2 := HNW.out
      omega⟩
  · rw [if_neg hcp] at hS
    have hC := fun W (hb : Below w.heap.size w W) => copied_any (a.map fun x => x.add (p * 3)) (cap - p) L W (hS.below hb).lies (by omega) hLe
    rw [hLl] at hC
    clear hLl
    go_enter Try.func50, Try.ntmps50
    go_wp2_with fail
    rw [← hW]
    clear hW
    have mixed : Try.prog.follows .mixedOrders = true := by kernel_rfl
    have hFq := fun n os => hF (Go.Sort.grow (W.drewN n) os) (hFr.bel.trans ((Gr.grow (Gr.refl W) n os).below.mono hFr.bel.size))
    have y1 := fun n os => cell_grown (w := W) (Array.getElem?_eq_some_iff.1 hFr.box).1 x1 n os
    have yt := fun n os => cell_grown (w := W) (Array.getElem?_eq_some_iff.1 hFr.tab).1 t0 n os
    clear x0 x1 x2 x3 x4 x5 r0 r1 r2 r3 f0 f1 f2 f3 ft t0 hF
    go_quiet_grown (first | (go_at_call 43; refine Calls.grown_of (hFq _ _)))
    have hg1 : Gr W (Go.Sort.grow (W.drewN nq) osq) := Gr.grow (Gr.refl _) nq osq
    generalize Go.Sort.grow (W.drewN nq) osq = w1 at hg1 ⊢
    have hF1 := hFr.call hg1.below
    clear hFq y1 yt
    obtain ⟨x0, x1, x2, x3, x4, x5⟩ := hF1.xs
    obtain ⟨r0, r1, r2, r3⟩ := hF1.rs
    obtain ⟨f0, f1, f2, f3, ft⟩ := hF1.fs
    have t0 := hF1.tb
    clear hFr hg1 hg hq
    go_wp2_with fail
    go_quiet (fail)
    go_wp2_with fail
    have hF2 := hF1.call (W' := w1.drewN nq) (below_drewN (Below.refl _ _) nq)
    refine (hC _ hF2.bel).mono ?_
    rintro e w3 ⟨rfl, hown3, hb3⟩
    have hF3 := hF2.call hb3
    clear x0 x1 x2 x3 x4 x5 r0 r1 r2 r3 f0 f1 f2 f3 ft t0
    obtain ⟨r0, r1, r2, r3⟩ := hF3.rs
    obtain ⟨f0, f1, f2, f3, _⟩ := hF3.fs
    have HRL := hide (RL.of_own (l := L) (show w3.ownsRow _ RowT 3 _ L.length (rc rwenc L) by rw [HLl.out]; exact hown3))
    have HNW : Hid (w.heap.size ≤ (w1.drewN nq).heap.size) := hF2.bel.size
    generalize (w1.drewN nq).heap.size = bb at *
    have HF3 := hide hF3
    clear hF1 hF2 hF3 hb3 hown3 hC
    go_wp2
    refine bodyPost_ret (v := RsA.v ⟨⟨0, 0, ⟨#[]⟩, L⟩, some ⟨bb, 0, none⟩, q - p⟩) (by simp [results, Try.results50, go_sem, r0, r1, r2, r3, HLl.out]) rfl ?_
    refine ⟨_, rfl, ?_⟩
    exact ⟨by rw [← HP.out], HRL.out.set4 HF3.out.res _ _ _ _, fun g hg => by cases hg; exact HNW.out, hT.below (set4_below HF3.out.bel (Nat.le_succ _) _ _ _ _), Only.of_below (set4_below HF3.out.bel (Nat.le_succ _) _ _ _ _), fun g hg => Or.inl (by rw [← hg]; exact (tabBlk_same ((set4_below HF3.out.bel (Nat.le_succ _) _ _ _ _).block bt hT.lt)).symm), fun g hg hq => by
      have hgb : g = bb := (Option.some.inj hg).symm
      rw [hgb] at hq
      rw [tabBlk_same ((set4_below HF3.out.bel (Nat.le_succ _) _ _ _ _).block bt hT.lt)] at hq
      have h1 := hT.blkLt hq
      have h2 := HNW.out
      omega⟩

end Go.Proofs.Ythdempdiibjabaa.Tb
