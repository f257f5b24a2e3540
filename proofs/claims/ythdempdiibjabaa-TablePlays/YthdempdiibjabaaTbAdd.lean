/- Layer 9: walks over alone.go: add. -/
import Derived.Test.YthdempdiibjabaaTbTst
namespace Go.Proofs.Ythdempdiibjabaa.Tb
open Go.RowKit Go.Joins Go.Proofs.Ythdempdiibjabaa.Gk Go.Proofs.Ythdempdiibjabaa.Oq Go.Proofs.Ythdempdiibjabaa.Sp

/-- what add comes to -/
def addR (l : List Rw) (x : Opn) : Rs × List Rw :=
  match row? l x.key with
  | some r => (Tb.rs 90 r.stamp nix, l)
  | none => if 4096 < x.val.size then (Tb.rs 93 0 nix, l) else if 4096 ≤ l.length then (Tb.rs 22 0 nix, l) else (Tb.rs 0 x.stamp nix, put l (Opn.row x))

set_option maxRecDepth 100000 in
set_option maxHeartbeats 1600000 in
theorem add_any (l : List Rw) (x : Opn) (h1 : x.key.size ≤ 64) (h2 : x.val.size ≤ 8192) (hrow : x.val.size ≤ 4096 → (Opn.row x).Ok) : OneC 45 l x (addR l x) := by
  intro bt w hT
  obtain ⟨hok, a, cap, hg, hl⟩ := id hT
  have hF := fun W (hb : Below w.heap.size w W) => find_any a cap x.key l hok.rise (by have := hok.len; omega) W (hl.lies.below hb)
  obtain ⟨kind, key, val, stamp, test, most⟩ := x
  obtain ⟨W, hW⟩ : ∃ W, W = (w.alloc (.cells (opC kind key val stamp test most) OpT)).alloc (.cells rs0 ResT) := ⟨_, rfl⟩
  have hFr : Fr w bt kind key val stamp test most (.slice a l.length cap) W := by rw [hW]; exact Fr.start hg
  simp only at hF h1 h2 ⊢
  obtain ⟨x0, x1, x2, x3, x4, x5⟩ := hFr.xs
  obtain ⟨r0, r1, r2, r3⟩ := hFr.rs
  obtain ⟨f0, f1, f2, f3, ft⟩ := hFr.fs
  have t0 := hFr.tb
  unfold addR
  simp only at hrow ⊢
  cases hr : row? l key with
  | some r =>
    have hth : there l key = true := by unfold there; rw [hr]; rfl
    rw [hth] at hF
    obtain ⟨hp, hrp, _⟩ := row?_at hok.rise hr
    obtain ⟨b, off, rfl, hbl, hc⟩ := hl.lies.at (k := 3) rwenc_len (pos l key) hp
    have c1 := hc 1 _ rfl
    rw [hrp] at c1
    obtain ⟨rk, rst, rv⟩ := r
    simp only at c1 ⊢
    generalize pos l key = p at *
    have i1 : (0 : Int) ≤ (p : Int) := by omega
    have i2 : (p : Int) < (l.length : Int) := by omega
    clear hc hrp hrow
    go_enter Try.func45, Try.ntmps45
    go_wp2_with fail
    rw [← hW]
    clear hW
    have mixed : Try.prog.follows .mixedOrders = true := by kernel_rfl
    have hFq := fun n os => hF (Go.Sort.grow (W.drewN n) os) (hFr.bel.trans ((Gr.grow (Gr.refl W) n os).below.mono hFr.bel.size))
    have y1 := fun n os => cell_grown (w := W) (Array.getElem?_eq_some_iff.1 hFr.box).1 x1 n os
    have yt := fun n os => cell_grown (w := W) (Array.getElem?_eq_some_iff.1 hFr.tab).1 t0 n os
    clear x0 x1 x2 x3 x4 x5 r0 r1 r2 r3 f0 f1 f2 f3 ft t0 hF
    go_quiet_grown (first | (go_at_call 43; refine Calls.grown_of (hFq _ _)))
    have hg1 : Gr W (Go.Sort.grow (W.drewN nq) osq) := Gr.grow (Gr.refl _) nq osq
    generalize Go.Sort.grow (W.drewN nq) osq = w1 at hg1 ⊢
    have hF1 := hFr.call hg1.below
    clear hFq y1 yt
    obtain ⟨x0, x1, x2, x3, x4, x5⟩ := hF1.xs
    obtain ⟨r0, r1, r2, r3⟩ := hF1.rs
    obtain ⟨f0, f1, f2, f3, ft⟩ := hF1.fs
    have t0 := hF1.tb
    have hbe := hide hF1.bel
    have d1 := (hF1.bel.cell (p := ⟨b, off + p * 3 + 1, none⟩) hbl).trans c1
    clear hFr hF1 hg1 c1
    go_wp2
    refine bodyPost_ret (v := RsA.v ⟨Tb.rs (90) (rst) ⟨#[]⟩, none, 0⟩) (by simp [results, Try.results45, go_sem, r0, r1, r2, r3]) rfl ?_
    exact ⟨_, rfl, ResP.plain hT (set4_below hbe.out (Nat.le_succ _) _ _ _ _)⟩
  | none =>
    have hth : there l key = false := by unfold there; rw [hr]; rfl
    rw [hth] at hF
    by_cases hv : 4096 < val.size
    · simp only [if_pos hv]
      have i1 : (4096 : Int) < (val.size : Int) := by omega
      clear hrow
      go_enter Try.func45, Try.ntmps45
      go_wp2_with fail
      rw [← hW]
      clear hW
      have mixed : Try.prog.follows .mixedOrders = true := by kernel_rfl
      have hFq := fun n os => hF (Go.Sort.grow (W.drewN n) os) (hFr.bel.trans ((Gr.grow (Gr.refl W) n os).below.mono hFr.bel.size))
      have y1 := fun n os => cell_grown (w := W) (Array.getElem?_eq_some_iff.1 hFr.box).1 x1 n os
      have yt := fun n os => cell_grown (w := W) (Array.getElem?_eq_some_iff.1 hFr.tab).1 t0 n os
      clear x0 x1 x2 x3 x4 x5 r0 r1 r2 r3 f0 f1 f2 f3 ft t0 hF
      go_quiet_grown (first | (go_at_call 43; refine Calls.grown_of (hFq _ _)))
      have hg1 : Gr W (Go.Sort.grow (W.drewN nq) osq) := Gr.grow (Gr.refl _) nq osq
      generalize Go.Sort.grow (W.drewN nq) osq = w1 at hg1 ⊢
      have hF1 := hFr.call hg1.below
      clear hFq y1 yt
      obtain ⟨x0, x1, x2, x3, x4, x5⟩ := hF1.xs
      obtain ⟨r0, r1, r2, r3⟩ := hF1.rs
      obtain ⟨f0, f1, f2, f3, ft⟩ := hF1.fs
      have t0 := hF1.tb
      have hbe := hide hF1.bel
      clear hFr hF1 hg1
      go_wp2
      refine bodyPost_ret (v := RsA.v ⟨Tb.rs (93) (0) ⟨#[]⟩, none, 0⟩) (by simp [results, Try.results45, go_sem, r0, r1, r2, r3]) rfl ?_
      exact ⟨_, rfl, ResP.plain hT (set4_below hbe.out (Nat.le_succ _) _ _ _ _)⟩
    · simp only [if_neg hv]
      have i1 : ¬ (4096 : Int) < (val.size : Int) := by omega
      by_cases hm : 4096 ≤ l.length
      · simp only [if_pos hm]
        have i2 : (4096 : Int) ≤ (l.length : Int) := by omega
        clear hrow
        go_enter Try.func45, Try.ntmps45
        go_wp2_with fail
        rw [← hW]
        clear hW
        have mixed : Try.prog.follows .mixedOrders = true := by kernel_rfl
        have hFq := fun n os => hF (Go.Sort.grow (W.drewN n) os) (hFr.bel.trans ((Gr.grow (Gr.refl W) n os).below.mono hFr.bel.size))
        have y1 := fun n os => cell_grown (w := W) (Array.getElem?_eq_some_iff.1 hFr.box).1 x1 n os
        have yt := fun n os => cell_grown (w := W) (Array.getElem?_eq_some_iff.1 hFr.tab).1 t0 n os
        clear x0 x1 x2 x3 x4 x5 r0 r1 r2 r3 f0 f1 f2 f3 ft t0 hF
        go_quiet_grown (first | (go_at_call 43; refine Calls.grown_of (hFq _ _)))
        have hg1 : Gr W (Go.Sort.grow (W.drewN nq) osq) := Gr.grow (Gr.refl _) nq osq
        generalize Go.Sort.grow (W.drewN nq) osq = w1 at hg1 ⊢
        have hF1 := hFr.call hg1.below
        clear hFq y1 yt
        obtain ⟨x0, x1, x2, x3, x4, x5⟩ := hF1.xs
        obtain ⟨r0, r1, r2, r3⟩ := hF1.rs
        obtain ⟨f0, f1, f2, f3, ft⟩ := hF1.fs
        have t0 := hF1.tb
        have hbe := hide hF1.bel
        clear hFr hF1 hg1
        go_wp2
        refine bodyPost_ret (v := RsA.v ⟨Tb.rs (22) (0) ⟨#[]⟩, none, 0⟩) (by simp [results, Try.results45, go_sem, r0, r1, r2, r3]) rfl ?_
        exact ⟨_, rfl, ResP.plain hT (set4_below hbe.out (Nat.le_succ _) _ _ _ _)⟩
      · simp only [if_neg hm]
        have i2 : ¬ (4096 : Int) ≤ (l.length : Int) := by omega
        have hpl := pos_le l key
        have hR := fun W => row_any ⟨kind, key, val, stamp, test, most⟩ W (by show key.size ≤ _; omega) (by show val.size ≤ _; omega)
        have hWi := fun W (hb : Below w.heap.size w W) => with_any a cap l (pos l key) (pos l key) (Nat.le_refl _) hpl (Opn.row ⟨kind, key, val, stamp, test, most⟩) W (hl.below hb) (by omega)
        have HP : Hid (l.take (pos l key) ++ Opn.row ⟨kind, key, val, stamp, test, most⟩ :: l.drop (pos l key) = put l (Opn.row ⟨kind, key, val, stamp, test, most⟩)) := by
          show _ = _
          rw [take_pos hok.rise, drop_no hok.rise hr]; rfl
        have HOK := hide (hok.put_new (hrow (by omega)) hr (by omega))
        generalize pos l key = p at *
        go_enter Try.func45, Try.ntmps45
        go_wp2_with fail
        rw [← hW]
        clear hW
        have mixed : Try.prog.follows .mixedOrders = true := by kernel_rfl
        have hFq := fun n os => hF (Go.Sort.grow (W.drewN n) os) (hFr.bel.trans ((Gr.grow (Gr.refl W) n os).below.mono hFr.bel.size))
        have y1 := fun n os => cell_grown (w := W) (Array.getElem?_eq_some_iff.1 hFr.box).1 x1 n os
        have yt := fun n os => cell_grown (w := W) (Array.getElem?_eq_some_iff.1 hFr.tab).1 t0 n os
        clear x0 x1 x2 x3 x4 x5 r0 r1 r2 r3 f0 f1 f2 f3 ft t0 hF
        go_quiet_grown (first | (go_at_call 43; refine Calls.grown_of (hFq _ _)))
        have hg1 : Gr W (Go.Sort.grow (W.drewN nq) osq) := Gr.grow (Gr.refl _) nq osq
        generalize Go.Sort.grow (W.drewN nq) osq = w1 at hg1 ⊢
        have hF1 := hFr.call hg1.below
        clear hFq y1 yt
        obtain ⟨x0, x1, x2, x3, x4, x5⟩ := hF1.xs
        obtain ⟨r0, r1, r2, r3⟩ := hF1.rs
        obtain ⟨f0, f1, f2, f3, ft⟩ := hF1.fs
        have t0 := hF1.tb
        have hlt := hide (Array.getElem?_eq_some_iff.1 hg).1
        clear hFr hg1 hrow hg
        go_wp2_with fail
        go_region_law (first
          | (go_simp; go_at_call 70; refine (hR _).mono ?_; rintro e w2 ⟨rfl, hb2⟩; have hF2 := hide (hF1.drew.call hb2); have t2 := hF2.out.tb)
          | (go_simp; go_at_call 69; refine (hWi _ hF2.out.bel).mono ?_; rintro e w3 ⟨a3, cap3, L3, rfl, hL3, hown3, hb3⟩; have hF3 := hide (hF2.out.call hb3); have t3 := hF3.out.tb; have ft3 := hF3.out.fs.2.2.2.2; have HL3 := hide hL3; clear hL3))
        all_goals
          have hG := hF3.out.put hlt.out (.slice a3 L3.length cap3)
          have HT4 := hide (TH.put hF3.out.tab (RL.of_own hown3) (show Tok L3 by rw [HL3.out, HP.out]; exact HOK.out))
          have HN4 := hide (put_own hF3.out.tab hown3 hF2.out.bel.size)
          generalize w3.setCell ⟨bt, 0, none⟩ (.slice a3 L3.length cap3) = w4 at hG HT4 HN4 ⊢
          clear x0 x1 x2 x3 x4 x5 r0 r1 r2 r3 f0 f1 f2 f3 ft t0
          obtain ⟨x0, x1, x2, x3, x4, x5⟩ := hG.xs
          obtain ⟨r0, r1, r2, r3⟩ := hG.rs
          obtain ⟨f0, f1, f2, f3⟩ := hG.fs
          have HG := hide hG
          clear hF1 t2 hb2 t3 ft3 hb3 hown3 hG
          go_wp2
          refine bodyPost_ret (v := RsA.v ⟨Tb.rs 0 stamp ⟨#[]⟩, none, 0⟩) (by simp [results, Try.results45, go_sem, r0, r1, r2, r3]) rfl ?_
          refine ⟨_, rfl, ?_⟩
          have HT5 := HT4.out
          rw [HL3.out, HP.out] at HT5
          exact ResP.put HG.out HT5 HN4.out _ _ _ _

end Go.Proofs.Ythdempdiibjabaa.Tb
