/- Layer 9, the document's answer: drop. Layer 9, the document's answer: One. Layer 9, the document's answer: One of OMany. -/
import Derived.Test.YthdempdiibjabaaTrRep
import Derived.Test.YthdempdiibjabaaTrTab
namespace Go.Proofs.Ythdempdiibjabaa.Tr
open Go.RowKit Go.Joins Go.Proofs.Ythdempdiibjabaa.Gk Go.Proofs.Ythdempdiibjabaa.Oq Go.Proofs.Ythdempdiibjabaa.Sp Go.Proofs.Ythdempdiibjabaa.Tb

theorem del_split {l : List Rw} (h : Rise l) {k : ByteArray} {r : Rw} (hr : row? l k = some r) : del l k = l.take (pos l k) ++ l.drop (pos l k + 1) := by
  unfold del; rw [← take_pos h, ← drop_yes h hr]
theorem ownR_made (w : World) : (w.alloc (.cells #[] RowT)).ownsRow w.heap.size RowT 3 (.slice (some ⟨w.heap.size, 0, none⟩) 0 0) 0 (rc rwenc []) :=
  ⟨rfl, .inr ⟨w.heap.size, 0, #[], rfl, Nat.le_refl _, heap_alloc_new w _, Nat.le_refl _, by unfold maxLen; omega, rfl, rfl⟩⟩

set_option maxRecDepth 100000 in
set_option maxHeartbeats 1600000 in
theorem drop_ref (br : Nat) (l : List Rw) (p : Nat) (w : World) (hR : RH w br l) (hp : p < l.length) (hok' : Tok (l.take p ++ l.drop (p + 1))) :
    Calls Try.prog 76 #[ptr br, .int .i64 p] w fun e w' => e = .returned (.tuple #[]) ∧ RH w' br (l.take p ++ l.drop (p + 1)) ∧ Turn br w w' ∧ (∀ g, tabBlk w' br = some g → w.heap.size ≤ g) := by
  obtain ⟨hok, a, cap, hg, hl⟩ := id hR
  have hlen := hok.len
  have hlt := hR.lt
  rcases hl with ⟨rfl, rfl, rfl⟩ | ⟨g, off, cur, rfl, hgr, hsz, hroom2, hmax, hcc⟩
  · simp at hp
  · have hL1 : RL w (some ⟨g, off, none⟩) cap l := Or.inr ⟨g, off, cur, rfl, hgr, hsz, hroom2, hmax, hcc⟩
    have hA : RL w (some ⟨g, off, none⟩) cap (l.take p) := by
      have := hL1.part 0 p cap (Nat.zero_le _) (by omega) (by omega) (Nat.le_refl _)
      simpa using this
    have hTl : (l.take p).length = p := by rw [List.length_take]; omega
    have hD := hL1.sub (p + 1) l.length (by omega) (Nat.le_refl _)
    rw [List.take_length] at hD
    have hDl : (l.drop (p + 1)).length = l.length - (p + 1) := List.length_drop
    generalize l.take p = P at *
    generalize l.drop (p + 1) = D at *
    have hDn := hD.nocap
    simp only [Option.map_some, Go.WideShapes.add_plain] at hD hDn
    have HTL := hide hTl
    have HA := hide hA
    have HD := hide hD
    have HDL := hide hDl
    have HDN := hide hDn
    clear hA hTl hD hDl hDn hL1 hgr hsz hmax hcc
    have i5 : (0 : Int) ≤ (p : Int) := by omega
    have i6 : (p : Int) ≤ (cap : Int) := by omega
    have i7 : (p : Int) ≤ (l.length : Int) := by omega
    have i8 : (l.length : Int) ≤ (cap : Int) := by omega
    have i9 : (0 : Int) ≤ (p : Int) + 1 := by omega
    have i10 : (p : Int) + 1 ≤ (l.length : Int) := by omega
    have i11 : ((p : Int) + 1).toNat = p + 1 := by omega
    have i12 : IntKind.i64.wrap ((p : Int) + 1) = (p : Int) + 1 := by rw [IntKind.wrap_i64]; omega
    have t0 : w.cell? ⟨br, 0, none⟩ = some (.slice (some ⟨g, off, none⟩) l.length cap) := cellB hg 0 rfl
    have hb0 := below_a1 w (.cells #[] RowT)
    go_enter Try.func76, Try.ntmps76
    have hbd := hb0.drew
    have HM1 : Hid ((w.alloc (.cells #[] RowT)).drew.ownsRow w.heap.size RowT 3 (.slice (some ⟨w.heap.size, 0, none⟩) 0 0) 0 (rc rwenc [])) := own_below (ownR_made w) (Below.refl _ _).drew
    go_wp2_with fail
    go_region_law (first
      | (refine step_append_at (enc := rwenc) (k := 3) (by rfl) (.tmp 5) (.tmp 11) RowsT (by rfl) RowT noRw 40 Try.underlying26 row_info rfl (by decide) rwenc_len rwenc_one w.heap.size _ ([] : List Rw) (by rfl) HM1.out (some ⟨g, off, none⟩) P p cap (by rfl) HTL.out.symm (HA.out.below hbd).lies (fun e => by cases e) (by have := HTL.out; simp; omega) (by have := HTL.out; simp; omega) hbd.size ?_; intro ad3 cap3 w3 hown3 hg3; have hb3 := hide (hbd.grown hg3 hbd.size (fun k hk => by cases hk; exact Nat.le_refl _)); simp only [List.nil_append, List.length_nil, Nat.zero_add] at hown3; have HO3 := hide hown3; have t3 : w3.cell? ⟨br, 0, none⟩ = some (.slice (some ⟨g, off, none⟩) l.length cap) := cellB ((hb3.out.block br hlt).trans hg) 0 rfl; have hz3 := hb3.out.size; clear hown3 hg3)
      | (refine step_append_at (enc := rwenc) (k := 3) (by rfl) (.tmp 12) (.tmp 19) RowsT (by rfl) RowT noRw 40 Try.underlying26 row_info rfl (by decide) rwenc_len rwenc_one w.heap.size _ P (by rfl) HO3.out (if cap = p + 1 then some ⟨g, off, none⟩ else some ⟨g, off + (p + 1) * 3, none⟩) D (l.length - (p + 1)) (cap - (p + 1)) (by rfl) HDL.out.symm (HD.out.below hb3.out).lies HDN.out (by have := HTL.out; have := HDL.out; omega) (by have := HTL.out; have := HDL.out; omega) hz3 ?_; intro ad4 cap4 w4 hown4 hg4; have hb4 := hide (hb3.out.grown hg4 hz3 (fun k hk => (HO3.out.lt k hk).1)); have hg6 := hide ((hb4.out.block br hlt).trans hg); have t4 : w4.cell? ⟨br, 0, none⟩ = some (.slice (some ⟨g, off, none⟩) l.length cap) := cellB hg6.out 0 rfl; have f4 := unfrozen_of_block hg6.out 0; have HO4 := hide hown4; clear hown4 hg4))
    all_goals
      have HR4 : Hid (RH (w4.setCell ⟨br, 0, none⟩ (.slice ad4 (P.length + D.length) cap4)) br (P ++ D)) := by
        have h1 : P.length + D.length = (P ++ D).length := by simp
        have h2 := HO4.out
        rw [h1] at h2 ⊢
        exact RH.put hg6.out (RL.of_own h2) hok'
      have HTu : Hid (Turn br w (w4.setCell ⟨br, 0, none⟩ (.slice ad4 (P.length + D.length) cap4))) := (Only.of_below hb4.out).trans (Only.of_set (own := fun b => b = br) _ rfl _)
      have HW4 := hide (put_ownR hg6.out HO4.out (Nat.le_refl _))
      go_end0
      exact ⟨rfl, HR4.out, HTu.out, HW4.out⟩

end Go.Proofs.Ythdempdiibjabaa.Tr

namespace Go.Proofs.Ythdempdiibjabaa.Tr
open Go.RowKit Go.Joins Go.Proofs.Ythdempdiibjabaa.Gk Go.Proofs.Ythdempdiibjabaa.Oq Go.Proofs.Ythdempdiibjabaa.Sp Go.Proofs.Ythdempdiibjabaa.Tb

set_option maxRecDepth 100000 in
set_option maxHeartbeats 1600000 in
theorem One_write (l : List Rw) (x : Opn) (hok0 : Tok l) (hm : x.may = true) (hk : x.kind = 1 ∨ x.kind = 2 ∨ x.kind = 3) : OneR 53 l x (one l x) := by
  have hWr := write_ref l x hok0 hm hk
  intro br w hR
  obtain ⟨hok, a, cap, hg, hl⟩ := id hR
  have hlen := hok.len
  have hlt := hR.lt
  generalize one l x = res at *
  obtain ⟨kind, key, val, stamp, test, most⟩ := x
  obtain ⟨W, hW⟩ : ∃ W, W = (w.alloc (.cells (opC kind key val stamp test most) OpT)).alloc (.cells rs0 ResT) := ⟨_, rfl⟩
  have hF1 : RFr w br kind key val stamp test most (.slice a l.length cap) W := by rw [hW]; exact RFr.start hg
  simp only at hk
  have b6 : (kind == 6) = false := by simp; omega
  have b4 : (kind != 4) = true := by simp; omega
  have b5 : (kind != 5) = true := by simp; omega
  clear hk hm
  go_enter Try.func53, Try.ntmps53
  go_wp2_with fail
  rw [← hW]
  refine (hWr br _ (hR.below hF1.bel)).mono ?_
  rintro e w2 ⟨R, rfl, hP⟩
  have hr := hF1.res1 hlt hP.turn
  have r0 : w2.cell? ⟨w.heap.size + 1, 0, none⟩ = some (.int .i64 0) := cellB hr 0 rfl
  have r1 : w2.cell? ⟨w.heap.size + 1, 1, none⟩ = some (.int .i64 0) := cellB hr 1 rfl
  have r2 : w2.cell? ⟨w.heap.size + 1, 2, none⟩ = some (.string ⟨#[]⟩) := cellB hr 2 rfl
  have r3 : w2.cell? ⟨w.heap.size + 1, 3, none⟩ = some (.slice none 0 0) := cellB hr 3 rfl
  have f0 := unfrozen_of_block hr 0
  have f1 := unfrozen_of_block hr 1
  have f2 := unfrozen_of_block hr 2
  have f3 := unfrozen_of_block hr 3
  have HP := hide (fun u0 u1 u2 u3 => RsP.lift hF1 hlt hP u0 u1 u2 u3)
  clear hr hP
  obtain ⟨⟨rc, rst, rv, rr⟩, ra, rcap⟩ := R
  go_wp2
  refine bodyPost_ret (v := RsA.v ⟨⟨rc, rst, rv, rr⟩, ra, rcap⟩) (by simp [results, Try.results53, go_sem, r0, r1, r2, r3]) rfl ?_
  exact ⟨_, rfl, HP.out _ _ _ _⟩

theorem one_gone {l : List Rw} {x : Opn} (hk : x.kind = 4 ∨ x.kind = 5) (hr : row? l x.key = none) : one l x = (Tb.rs 91 0 nix, l) := by
  rw [one_none (by omega) hr, if_neg (by omega)]
theorem one_test {l : List Rw} {x : Opn} {r : Rw} (hk : x.kind = 4 ∨ x.kind = 5) (hr : row? l x.key = some r) : one l x = if x.test ≠ 0 ∧ x.test ≠ r.stamp then (Tb.rs 92 r.stamp nix, l) else if x.kind = 4 then (Tb.rs 0 r.stamp nix, del l x.key) else (Tb.rs 0 r.stamp r.val, l) := by
  unfold one
  rw [if_neg (by omega), hr]
  simp only
  rw [if_neg (by omega)]
  by_cases hA : x.test ≠ 0 ∧ x.test ≠ r.stamp
  · rw [if_pos hA, if_pos hA]
  · rw [if_neg hA, if_neg hA]
    by_cases h4 : x.kind = 4
    · rw [if_pos h4, if_pos h4]
    · rw [if_neg h4, if_neg h4, if_pos (by omega)]

set_option maxRecDepth 100000 in
set_option maxHeartbeats 1600000 in
theorem One_read (l : List Rw) (x : Opn) (hok0 : Tok l) (hk : x.kind = 4 ∨ x.kind = 5) : OneR 53 l x (one l x) := by
  cases hr : row? l x.key with
  | none =>
    rw [one_gone hk hr]
    have hth : there l x.key = false := by unfold there; rw [hr]; rfl
    intro br w hR
    obtain ⟨hok, a, cap, hg, hl⟩ := id hR
    have hlen := hok.len
    have hlt := hR.lt
    obtain ⟨kind, key, val, stamp, test, most⟩ := x
    obtain ⟨W, hW⟩ : ∃ W, W = (w.alloc (.cells (opC kind key val stamp test most) OpT)).alloc (.cells rs0 ResT) := ⟨_, rfl⟩
    have hFr : RFr w br kind key val stamp test most (.slice a l.length cap) W := by rw [hW]; exact RFr.start hg
    have hFd := Find_ref br l key W (hR.below hFr.bel)
    simp only at hth hk
    rw [hth] at hFd
    have b6 : (kind == 6) = false := by simp; omega
    rcases hk with hk | hk
    case' inl =>
      have b4 : (kind != 4) = false := by simp [hk]
      clear hk
    case' inr =>
      have b4 : (kind != 4) = true := by simp; omega
      have b5 : (kind != 5) = false := by simp [hk]
      clear hk
    all_goals
      go_enter Try.func53, Try.ntmps53
      go_wp2_with fail
      rw [← hW]
      refine hFd.mono ?_
      rintro e w1 ⟨rfl, hb1⟩
      have hF1 := hFr.call hb1
      obtain ⟨x0, x1, x2, x3, x4, x5⟩ := hF1.xs
      obtain ⟨r0, r1, r2, r3⟩ := hF1.rs
      obtain ⟨f0, f1, f2, f3, ft⟩ := hF1.fs
      have t0 := hF1.tb
      have hbe := hide hF1.bel
      go_wp2
      refine bodyPost_ret (v := RsA.v ⟨Tb.rs 91 0 ⟨#[]⟩, none, 0⟩) (by simp [results, Try.results53, go_sem, r0, r1, r2, r3]) rfl ?_
      exact ⟨_, rfl, RsP.plain hR (set4_below hbe.out (Nat.le_succ _) _ _ _ _)⟩
  | some r =>
    rw [one_test hk hr]
    have hdl : Tok (l.take (pos l x.key) ++ l.drop (pos l x.key + 1)) := by rw [← del_split hok0.rise hr]; exact hok0.del hr
    have HDS := hide (del_split hok0.rise hr)
    intro br w hR
    obtain ⟨hok, a, cap, hg, hl⟩ := id hR
    have hlen := hok.len
    have hlt := hR.lt
    obtain ⟨kind, key, val, stamp, test, most⟩ := x
    obtain ⟨W, hW⟩ : ∃ W, W = (w.alloc (.cells (opC kind key val stamp test most) OpT)).alloc (.cells rs0 ResT) := ⟨_, rfl⟩
    have hFr : RFr w br kind key val stamp test most (.slice a l.length cap) W := by rw [hW]; exact RFr.start hg
    have hFd := Find_ref br l key W (hR.below hFr.bel)
    simp only at hr hk HDS hdl ⊢
    rw [HDS.out]
    clear HDS
    have hth : there l key = true := by unfold there; rw [hr]; rfl
    rw [hth] at hFd
    obtain ⟨hp, hrp, hke⟩ := row?_at hok.rise hr
    clear hke
    obtain ⟨b, off, rfl, hbl, hc⟩ := hl.lies.at (k := 3) rwenc_len (pos l key) hp
    have c0 := hc 0 _ rfl
    have c1 := hc 1 _ rfl
    have c2 := hc 2 _ rfl
    rw [Nat.add_zero] at c0
    rw [hrp] at c0 c1 c2
    obtain ⟨rk, rst0, rv0⟩ := r
    simp only at c0 c1 c2 ⊢
    generalize pos l key = p at *
    have i1 : (0 : Int) ≤ (p : Int) := by omega
    have i2 : (p : Int) < (l.length : Int) := by omega
    clear hc hrp
    have b6 : (kind == 6) = false := by simp; omega
    by_cases hA : test ≠ 0 ∧ test ≠ rst0
    · simp only [if_pos hA]
      have u1 : (test != 0) = true := by simp [hA.1]
      have u2 : (test != rst0) = true := by simp [hA.2]
      clear hA hdl
      rcases hk with hk | hk
      case' inl =>
        have b4 : (kind != 4) = false := by simp [hk]
        clear hk
      case' inr =>
        have b4 : (kind != 4) = true := by simp; omega
        have b5 : (kind != 5) = false := by simp [hk]
        clear hk
      all_goals
        go_enter Try.func53, Try.ntmps53
        go_wp2_with fail
        rw [← hW]
        refine hFd.mono ?_
        rintro e w1 ⟨rfl, hb1⟩
        have hF1 := hFr.call hb1
        obtain ⟨x0, x1, x2, x3, x4, x5⟩ := hF1.xs
        obtain ⟨r0, r1, r2, r3⟩ := hF1.rs
        obtain ⟨f0, f1, f2, f3, ft⟩ := hF1.fs
        have t0 := hF1.tb
        have hbe := hide hF1.bel
        have d0 := (hF1.bel.cell (p := ⟨b, off + p * 3, none⟩) hbl).trans c0
        have d1 := (hF1.bel.cell (p := ⟨b, off + p * 3 + 1, none⟩) hbl).trans c1
        have d2 := (hF1.bel.cell (p := ⟨b, off + p * 3 + 2, none⟩) hbl).trans c2
        have hlx := (Array.getElem?_eq_some_iff.1 hF1.box).1
        have hlr := hF1.lt
        have hlb := Nat.lt_of_lt_of_le hlt hbe.out.size
        go_wp2
        refine bodyPost_ret (v := RsA.v ⟨Tb.rs 92 rst0 ⟨#[]⟩, none, 0⟩) (by simp [results, Try.results53, go_sem, r0, r1, r2, r3, hlr]) rfl ?_
        exact ⟨_, rfl, RsP.plain hR (set4_alloc_below hbe.out (Nat.le_succ _) _ _ _ _ _)⟩
    · simp only [if_neg hA]
      have hsp : Hid (test = 0 ∨ (test ≠ 0 ∧ test = rst0)) := by
        by_cases h0 : test = 0
        · exact Or.inl h0
        · by_cases h1 : test = rst0
          · exact Or.inr ⟨h0, h1⟩
          · exact absurd ⟨h0, h1⟩ hA
      rcases hk with hk | hk
      · simp only [if_pos hk]
        have b4 : (kind != 4) = false := by simp [hk]
        have b5 : (kind == 5) = false := by simp; omega
        clear hk
        rcases hsp.out with h0 | ⟨h0, h1⟩
        case' inl =>
          have u1 : (test != 0) = false := by simp [h0]
          clear h0
        case' inr =>
          have u1 : (test != 0) = true := by simp [h0]
          have u2 : (test != rst0) = false := by simp [h1]
          clear h0 h1
        all_goals
          go_enter Try.func53, Try.ntmps53
          go_wp2_with fail
          rw [← hW]
          refine hFd.mono ?_
          rintro e w1 ⟨rfl, hb1⟩
          have hF1 := hFr.call hb1
          obtain ⟨x0, x1, x2, x3, x4, x5⟩ := hF1.xs
          obtain ⟨r0, r1, r2, r3⟩ := hF1.rs
          obtain ⟨f0, f1, f2, f3, ft⟩ := hF1.fs
          have t0 := hF1.tb
          have hbe := hide hF1.bel
          have d0 := (hF1.bel.cell (p := ⟨b, off + p * 3, none⟩) hbl).trans c0
          have d1 := (hF1.bel.cell (p := ⟨b, off + p * 3 + 1, none⟩) hbl).trans c1
          have d2 := (hF1.bel.cell (p := ⟨b, off + p * 3 + 2, none⟩) hbl).trans c2
          have hlx := (Array.getElem?_eq_some_iff.1 hF1.box).1
          have hlr := hF1.lt
          have hlb := Nat.lt_of_lt_of_le hlt hbe.out.size
          have hba := below_a1 w1 (.cells #[.string rk, .int .i64 rst0, .string rv0] RowT)
          have hF2 := hF1.call hba
          have hwa := heap_alloc_new w1 (.cells #[.string rk, .int .i64 rst0, .string rv0] RowT)
          have hDp := drop_ref br l p _ (hR.below hF2.bel) hp hdl
          go_wp2_with fail
          refine hDp.mono ?_
          rintro e w3 ⟨rfl, hR3, hu3, hw3o⟩
          have hs3 := hF2.res1 hlt hu3
          have hw3 := (hu3.block w1.heap.size (Array.getElem?_eq_some_iff.1 hwa).1 (by show w1.heap.size ≠ br; omega)).trans hwa
          have y1 : w3.cell? ⟨w1.heap.size, 1, none⟩ = some (.int .i64 rst0) := cellB hw3 1 rfl
          have s0 : w3.cell? ⟨w.heap.size + 1, 0, none⟩ = some (.int .i64 0) := cellB hs3 0 rfl
          have s1 : w3.cell? ⟨w.heap.size + 1, 1, none⟩ = some (.int .i64 0) := cellB hs3 1 rfl
          have s2 : w3.cell? ⟨w.heap.size + 1, 2, none⟩ = some (.string ⟨#[]⟩) := cellB hs3 2 rfl
          have s3 : w3.cell? ⟨w.heap.size + 1, 3, none⟩ = some (.slice none 0 0) := cellB hs3 3 rfl
          have g0 := unfrozen_of_block hs3 0
          have g1 := unfrozen_of_block hs3 1
          have g2 := unfrozen_of_block hs3 2
          have g3 := unfrozen_of_block hs3 3
          have HP := hide (fun u0 u1 u2 u3 => RsP.put (c := 0) (s' := rst0) (v' := nix) hF2 hlt hR3 hu3 hw3o u0 u1 u2 u3)
          clear hw3o hDp x0 x1 x2 x3 x4 x5 r0 r1 r2 r3 f0 f1 f2 f3 ft t0 d0 d1 d2 hs3 hw3 hwa hu3 hR3
          go_wp2
          refine bodyPost_ret (v := RsA.v ⟨Tb.rs 0 rst0 ⟨#[]⟩, none, 0⟩) (by simp [results, Try.results53, go_sem, s0, s1, s2, s3]) rfl ?_
          exact ⟨_, rfl, HP.out _ _ _ _⟩
      · have h4 : ¬ kind = 4 := by omega
        simp only [if_neg h4]
        have b4 : (kind != 4) = true := by simp [h4]
        have b5 : (kind != 5) = false := by simp [hk]
        have b7 : (kind == 5) = true := by simp [hk]
        clear hk h4
        rcases hsp.out with h0 | ⟨h0, h1⟩
        case' inl =>
          have u1 : (test != 0) = false := by simp [h0]
          clear h0
        case' inr =>
          have u1 : (test != 0) = true := by simp [h0]
          have u2 : (test != rst0) = false := by simp [h1]
          clear h0 h1
        all_goals
          go_enter Try.func53, Try.ntmps53
          go_wp2_with fail
          rw [← hW]
          refine hFd.mono ?_
          rintro e w1 ⟨rfl, hb1⟩
          have hF1 := hFr.call hb1
          obtain ⟨x0, x1, x2, x3, x4, x5⟩ := hF1.xs
          obtain ⟨r0, r1, r2, r3⟩ := hF1.rs
          obtain ⟨f0, f1, f2, f3, ft⟩ := hF1.fs
          have t0 := hF1.tb
          have hbe := hide hF1.bel
          have d0 := (hF1.bel.cell (p := ⟨b, off + p * 3, none⟩) hbl).trans c0
          have d1 := (hF1.bel.cell (p := ⟨b, off + p * 3 + 1, none⟩) hbl).trans c1
          have d2 := (hF1.bel.cell (p := ⟨b, off + p * 3 + 2, none⟩) hbl).trans c2
          have hlx := (Array.getElem?_eq_some_iff.1 hF1.box).1
          have hlr := hF1.lt
          have hlb := Nat.lt_of_lt_of_le hlt hbe.out.size
          go_wp2
          refine bodyPost_ret (v := RsA.v ⟨Tb.rs 0 rst0 rv0, none, 0⟩) (by simp [results, Try.results53, go_sem, r0, r1, r2, r3, hlr]) rfl ?_
          exact ⟨_, rfl, RsP.plain hR (set4_alloc_below hbe.out (Nat.le_succ _) _ _ _ _ _)⟩

end Go.Proofs.Ythdempdiibjabaa.Tr

namespace Go.Proofs.Ythdempdiibjabaa.Tr
open Go.RowKit Go.Joins Go.Proofs.Ythdempdiibjabaa.Gk Go.Proofs.Ythdempdiibjabaa.Oq Go.Proofs.Ythdempdiibjabaa.Sp Go.Proofs.Ythdempdiibjabaa.Tb

set_option maxRecDepth 100000 in
set_option maxHeartbeats 1600000 in
theorem One_many (l : List Rw) (x : Opn) (hk : x.kind = 6) (hmo : 1 ≤ x.most ∧ x.most ≤ 100) : OneR 53 l x (one l x) := by
  have h1 : one l x = (⟨0, 0, nix, (l.drop (pos l x.key)).take x.most.toNat⟩, l) := by unfold one; rw [if_pos hk]
  rw [h1]
  intro br w hR
  obtain ⟨hok, a, cap, hg, hl⟩ := id hR
  have hlen := hok.len
  have hlt := hR.lt
  obtain ⟨kind, key, val, stamp, test, most⟩ := x
  simp only at hk hmo ⊢
  clear h1
  obtain ⟨m, hm⟩ : ∃ m : Nat, most = (m : Int) := ⟨most.toNat, by omega⟩
  subst hm
  obtain ⟨W, hW⟩ : ∃ W, W = (w.alloc (.cells (opC kind key val stamp test m) OpT)).alloc (.cells rs0 ResT) := ⟨_, rfl⟩
  have hFr : RFr w br kind key val stamp test m (.slice a l.length cap) W := by rw [hW]; exact RFr.start hg
  have hFd := Find_ref br l key W (hR.below hFr.bel)
  have hpl := pos_le l key
  generalize pos l key = p at *
  have b6 : (kind == 6) = true := by simp [hk]
  clear hk
  go_enter Try.func53, Try.ntmps53
  go_wp2_with fail
  rw [← hW]
  refine hFd.mono ?_
  rintro e w1 ⟨rfl, hb1⟩
  have hF1 := hFr.call hb1
  clear hFr hFd hb1 hW
  generalize there l key = th
  have hz1 := hF1.bel.size
  go_wp2
  go_loopw [5, 8] (fun v k wr => ∃ (j : Nat) (P : List Rw), p + j ≤ l.length ∧ j ≤ m ∧ k = .int .i64 ((p + j : Nat) : Int) ∧ Hid (P = (l.drop p).take j) ∧ P.length = j ∧ wr.ownsRow w1.heap.size RowT 3 v P.length (rc rwenc P) ∧ Below w1.heap.size w1 wr) (fun _ k _ => l.length - (intOf k).toNat)
  case atStart => exact ⟨0, [], by omega, by omega, by simp, rfl, rfl, World.ownsRow_nil _ _ _ _, Below.refl _ _⟩
  case round =>
    obtain ⟨j, P, hj, hjm, rfl, HP, hPl, hown, hbel⟩ := hrel
    obtain ⟨q, hq⟩ : ∃ q, q = p + j := ⟨_, rfl⟩
    rw [← hq]
    rw [← hq] at hj
    have HQ := hide hq
    have HPL := hide hPl
    clear hq hPl
    obtain ⟨gv, gc, rfl⟩ := Gk.own_slice hown
    have hFw := hF1.call hbel
    obtain ⟨x0, x1, x2, x3, x4, x5⟩ := hFw.xs
    have t0 := hFw.tb
    have j0 : (0 : Int) ≤ (q : Int) := by omega
    have HO := hide hown
    have hwr := hbel.size
    clear hown
    by_cases hgo : q < l.length ∧ j < m
    · obtain ⟨hql, hjm'⟩ := hgo
      have j1 : (q : Int) < (l.length : Int) := by omega
      have j2 : (P.length : Int) < (m : Int) := by rw [HPL.out]; omega
      obtain ⟨b, off, rfl, hbl, hc⟩ := (hl.lies.below hFw.bel).at (k := 3) rwenc_len q hql
      have c0 := hc 0 _ rfl
      have c1 := hc 1 _ rfl
      have c2 := hc 2 _ rfl
      rw [Nat.add_zero] at c0
      have HN : Hid (P ++ [l[q]] = (l.drop p).take (j + 1)) := by
        show _ = _
        have hq := HQ.out
        rw [HP.out, List.take_add_one, List.getElem?_drop, ← hq, List.getElem?_eq_getElem hql]
        rfl
      clear hc
      generalize (l[q]'hql) = y at *
      obtain ⟨yk, ys, yv⟩ := y
      simp only at c0 c1 c2
      have HB : Hid (∀ o : Obj, Below w1.heap.size w1 (wr.alloc o)) := fun o => hbel.alloc hwr o
      clear hFw hbel
      go_wp2_with (at_builtin; refine wpList_push (enc := rwenc) (k := 3) rfl (.tmp 39) (.tmp 47) RowsT rfl RowT noRw 40 Try.underlying26 row_info rfl (by decide) rwenc_len rwenc_one w1.heap.size _ P rfl (own_below HO.out (below_a1 wr _)) wr.heap.size ⟨yk, ys, yv⟩ rfl (heap_alloc_new wr _) (by have := HPL.out; omega) (by have := HPL.out; omega) (HB.out _).size ?_; intro v5 w5 hown5 hg5 hat5; have B5 := hide ((HB.out _).grown hg5 (HB.out _).size (fun k e => (HO.out.lt k e).1)); obtain ⟨N, hN⟩ : ∃ N, N = P ++ [⟨yk, ys, yv⟩] := ⟨_, rfl⟩; rw [← hN] at hown5; have HNN : Hid (N = (l.drop p).take (j + 1)) := hN.trans HN.out; have HNL : Hid (N.length = j + 1) := (by show _ = _; rw [hN, List.length_append, HPL.out]; rfl); obtain ⟨a5, c5, rfl⟩ := Gk.own_slice hown5; have H5 := hide hown5; clear hown5 hg5 hat5 hN)
      have hq1 : p + (j + 1) ≤ l.length := by have := HQ.out; omega
      have hq2 : (q : Int) + 1 = ((p + (j + 1) : Nat) : Int) := by have := HQ.out; omega
      exact ⟨⟨j + 1, N, hq1, by omega, by rw [hq2], HNN, HNL.out, H5.out, B5.out⟩, by simp [intOf]; omega⟩
    · have HE : Hid (P = (l.drop p).take m) := by
        show _ = _
        rw [HP.out]
        have hq := HQ.out
        by_cases h1 : q < l.length
        · rw [show j = m by omega]
        · rw [List.take_of_length_le (by rw [List.length_drop]; omega), List.take_of_length_le (by rw [List.length_drop]; omega)]
      have hstop : Hid (((q : Int) < (l.length : Int) ∧ ¬ (P.length : Int) < (m : Int)) ∨ ¬ (q : Int) < (l.length : Int)) := by
        have h2 := HPL.out
        by_cases h1 : q < l.length
        · exact Or.inl ⟨by omega, by omega⟩
        · exact Or.inr (by omega)
      obtain ⟨r0, r1, r2, r3⟩ := hFw.rs
      obtain ⟨f0, f1, f2, f3, ft⟩ := hFw.fs
      have hbw := hide hFw.bel
      have hres := hide hFw.res
      clear hgo HP HQ hFw
      rcases hstop.out with ⟨g1, g2⟩ | g1
      all_goals
        clear hstop
        go_wp2
        refine bodyPost_ret (v := RsA.v ⟨⟨0, 0, ⟨#[]⟩, P⟩, gv, gc⟩) (by simp [results, Try.results53, go_sem, r0, r1, r2, r3]) rfl ?_
        rw [← HE.out]
        exact ⟨_, rfl, rfl, (RL.of_own HO.out).set4 hres.out _ _ _ _, hR.below (set4_below hbw.out (Nat.le_succ _) _ _ _ _), Only.of_below (set4_below hbw.out (Nat.le_succ _) _ _ _ _), fun g hg => Or.inl (by rw [← hg]; exact (tabBlk_same ((set4_below hbw.out (Nat.le_succ _) _ _ _ _).block br hR.lt)).symm)⟩

end Go.Proofs.Ythdempdiibjabaa.Tr
