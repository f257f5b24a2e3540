/- Walks over skylarkref03: Send, Copy, set, Part, Join. -/
import Derived.Test.YtmdpkkipjdpopaaRtPut
namespace Go.Proofs.Ytmdpkkipjdpopaa.Nk
open Go.RowKit Go.Joins Gk
attribute [local go_sem ↓] Go.wp_at_zero Go.wp_at_succ

set_option maxHeartbeats 1600000 in
theorem rsend_any {own : Nat → Prop} {br : Nat} {S : Nst} (w : World) (h : RNHeld w own br S) (hfr : Fresh own w) (hok : S.Ok) (a b : Int) (s : ByteArray) :
    Calls Try.prog 23 #[.pointer (some ⟨br, 0, none⟩), .int .i64 a, .int .i64 b, .string s] w fun e w' => e = .returned (.tuple #[.int .i64 (S.send a b s).1.1, .int .i64 (S.send a b s).1.2]) ∧ RNHeld w' own br (S.send a b s).2 ∧ Only own w w' := by
  obtain ⟨v, u, gs, h⟩ := h
  have hX := rnone_any w h
  cases ha : hasN S.nodes a
  · have hv : S.send a b s = ((0, 30), S) := by simp [Nst.send, ha]
    rw [hv]
    have HH := hide h
    clear h hv
    go_enter Try.func23, Try.ntmps23
    go_wp2_with (first | (go_at_call 44; refine (hX _).mono ?_; rintro e w1 ⟨rfl, rfl⟩))
    go_ret2
    exact ⟨rfl, ⟨v, u, gs, HH.out⟩, Only.refl _ _⟩
  · cases hb : hasN S.nodes b
    · have hv : S.send a b s = ((0, 30), S) := by simp [Nst.send, hb]
      rw [hv]
      have HH := hide h
      clear h hv
      go_enter Try.func23, Try.ntmps23
      go_wp2_with (first | (go_at_call 44; refine (hX _).mono ?_; rintro e w1 ⟨rfl, rfl⟩))
      go_ret2
      exact ⟨rfl, ⟨v, u, gs, HH.out⟩, Only.refl _ _⟩
    · obtain ⟨an, rfl⟩ : ∃ an : Nat, a = an := ⟨a.toNat, (Int.toNat_of_nonneg (hasN_iff.1 ha).1).symm⟩
      obtain ⟨bn, rfl⟩ : ∃ bn : Nat, b = bn := ⟨b.toNat, (Int.toNat_of_nonneg (hasN_iff.1 hb).1).symm⟩
      have hv : S.send an bn s = S.rput ⟨0, an, bn, s⟩ := by
        rw [Nst.send, if_neg (by rw [ha, hb]; simp), Nst.rput]
        simp only [Int.toNat_natCast]
      rw [hv]
      have hP := rput_any w h hfr hok.many hok.sent ⟨0, an, bn, s⟩
      simp only [lval] at hP
      generalize S.rput ⟨0, an, bn, s⟩ = R at *
      clear h hv
      go_enter Try.func23, Try.ntmps23
      go_wp2_with (first | (go_at_call 44; refine (hX _).mono ?_; rintro e w1 ⟨rfl, rfl⟩) | (go_at_call 45; refine hP.mono ?_; rintro e w2 ⟨rfl, hh2, ho2⟩))
      go_ret2
      exact ⟨rfl, hh2, ho2⟩

set_option maxHeartbeats 1600000 in
theorem rcopy_any {own : Nat → Prop} {br : Nat} {S : Nst} (w : World) (h : RNHeld w own br S) (hfr : Fresh own w) (hok : S.Ok) (id : Int) :
    Calls Try.prog 26 #[.pointer (some ⟨br, 0, none⟩), .int .i64 id] w fun e w' => e = .returned (.tuple #[.int .i64 (S.copy id).1.1, .int .i64 (S.copy id).1.2]) ∧ RNHeld w' own br (S.copy id).2 ∧ Only own w w' := by
  obtain ⟨v, u, gs, h⟩ := h
  have hF := rfind_any w h hok.many id
  cases hf : S.find id with
  | none =>
    have hv : S.copy id = ((0, 5), S) := by simp [Nst.copy, hf]
    rw [hv]
    rw [find_none hf] at hF
    have HH := hide h
    clear h
    go_enter Try.func26, Try.ntmps26
    go_wp2_with (first | (go_at_call 46; refine hF.mono ?_; rintro e w1 ⟨rfl, hb1⟩))
    go_ret2
    exact ⟨rfl, ⟨v, u, gs, HH.out.below hb1⟩, Only.of_below hb1⟩
  | some i =>
    obtain ⟨h1, h2⟩ := find_some hf
    rw [h1] at hF
    clear h1
    have i1 : (0 : Int) ≤ (i : Int) := by omega
    have i2 : (i : Int) < (S.ls.length : Int) := by omega
    obtain ⟨x, hx⟩ : ∃ x, S.ls[i] = x := ⟨_, rfl⟩
    have hxs : x.body.size ≤ 65536 := by rw [← hx]; exact (hok.each _ (List.getElem_mem h2)).2.2.2
    have hv : S.copy id = S.rput x := by
      have hgx : S.ls[i]? = some x := by rw [List.getElem?_eq_getElem h2, hx]
      simp only [Nst.copy, hf, hgx, Nst.rput]
      cases S.full
      · rw [if_neg (by simp), if_neg (by simp; omega)]
      · rw [if_pos rfl, if_pos (Or.inr rfl)]
    rw [hv]
    have hP := fun W (hb : Below w.heap.size w W) => rput_any W (h.below hb) (hfr.later hb.size) hok.many hok.sent x
    simp only [lval] at hP
    obtain ⟨g, cap, rfl, hgl, hc⟩ := h.row.at lenc_len i h2
    have c0 := hc 0 _ rfl
    have c1 := hc 1 _ rfl
    have c2 := hc 2 _ rfl
    have c3 := hc 3 _ rfl
    rw [Nat.add_zero] at c0
    have d1 := h.c1
    have hbl := h.lt
    rw [hx] at c0 c1 c2 c3
    clear hc h hx hv
    generalize S.rput x = R at *
    go_enter Try.func26, Try.ntmps26
    go_wp2_with (first | (go_at_call 46; refine hF.mono ?_; rintro e w1 ⟨rfl, hb1⟩; have d1' := (hb1.cell (p := ⟨br, 1, none⟩) hbl).trans d1; have c0' := (hb1.cell (p := ⟨g, i * 4, none⟩) hgl).trans c0; have c1' := (hb1.cell (p := ⟨g, i * 4 + 1, none⟩) hgl).trans c1; have c2' := (hb1.cell (p := ⟨g, i * 4 + 2, none⟩) hgl).trans c2; have c3' := (hb1.cell (p := ⟨g, i * 4 + 3, none⟩) hgl).trans c3; have hP1 := hP w1 hb1) | (go_at_call 45; refine hP1.mono ?_; rintro e w3 ⟨rfl, hh3, ho3⟩))
    go_ret2
    exact ⟨rfl, hh3, (Only.of_below hb1).trans ho3⟩

end Go.Proofs.Ytmdpkkipjdpopaa.Nk
