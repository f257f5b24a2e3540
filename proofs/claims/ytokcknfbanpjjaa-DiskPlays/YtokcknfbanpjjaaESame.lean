/- DiskPlays: the same files. -/
import Derived.Test.YtokcknfbanpjjaaEStep
namespace Go.Proofs.Ytokcknfbanpjjaa.Dk
open Go.RowKit Go.Maps Go.Joins Gk
attribute [local go_sem ↓] Go.wp_at_zero Go.wp_at_succ

theorem lies_own {w : World} {B n : Nat} {a : Option Addr} {c : Nat} {ts : List ByteArray} (h : w.ownsRow B 9 1 (.slice a n c) ts.length (tcells ts)) : LiesT w a ts := by
  by_cases h0 : ts = []
  · exact Or.inl h0
  · have hp : 0 < ts.length := List.length_pos_iff.2 h0
    obtain ⟨g, cap', e⟩ := ownsRow_form h hp
    cases e
    refine Or.inr ⟨g, 0, rfl, (h.lt g rfl).2, fun i hi => ?_⟩
    rw [Nat.zero_add, h.cellAt _ (by omega)]
    simp [tcells, List.getElem?_eq_getElem hi]

set_option maxHeartbeats 6400000 in
set_option maxRecDepth 100000 in
theorem same_any {w W : World} {bd br : Nat} {S : St} (hd : Duo w W bd br S S) :
    Calls Try.prog 7 #[.pointer (some ⟨bd, 0, none⟩), .pointer (some ⟨br, 0, none⟩)] W fun e w' => e = .returned (.bool true) ∧ Duo w w' bd br S S := by
  have hok := hd.ok.1
  have hmany := hok.many
  have hu2 : used S.files ≤ 262144 := Nat.le_trans hok.sum hok.room
  have hN1 := fun W' (h : Duo w W' bd br S S) => let ⟨_, _, h'⟩ := h; names_held W' h'.disk
  have hN2 := fun W' (h : Duo w W' bd br S S) => let ⟨_, _, h'⟩ := h; rNames_any W' h'.ref
  have hU1 := fun W' (h : Duo w W' bd br S S) => let ⟨_, _, h'⟩ := h; used_held W' h'.disk
  have hU2 : ∀ W', Duo w W' bd br S S → Calls Try.prog 30 #[.pointer (some ⟨br, 0, none⟩)] W' fun e w' => e = .returned (.int .i64 (used S.files : Nat)) ∧ w' = W' := fun W' h => by
    obtain ⟨_, _, h'⟩ := h
    obtain ⟨v, fu, le, hL, _, _⟩ := h'.ref
    exact rUsed_same W' hL hmany hu2
  have hnl : (namesOf S.files).length = S.files.length := by simp [namesOf]
  go_enter Try.func7, Try.ntmps7
  go_wp2_with fail
  refine (hN1 _ hd).mono ?_
  rintro e w1 ⟨v1, rfl, hown1, hb1⟩
  have hd1 := hd.later hb1
  obtain ⟨a1, c1, rfl⟩ := Gk.own_slice hown1
  go_wp2_with fail
  refine (hN2 _ hd1).mono ?_
  rintro e w2 ⟨v2, rfl, hown2, hb2⟩
  have hd2 := hd1.later hb2
  obtain ⟨a2, c2, rfl⟩ := Gk.own_slice hown2
  have hl1 : LiesT w2 a1 (namesOf S.files) := lies_own (Gk.own_below hown1 hb2)
  have hl2 : LiesT w2 a2 (namesOf S.files) := lies_own hown2
  have hST := sameT_any a1 a2 c1 c2 (namesOf S.files) w2 hl1 hl2 (by omega)
  rw [hnl] at hST
  clear hN1 hN2 hown1 hown2 hd hd1 hb1 hb2 hl2
  go_wp2_with fail
  refine hST.mono ?_
  rintro e w3 ⟨rfl, hb3⟩
  have hd3 := hd2.later hb3
  clear hST hd2
  go_wp2_with fail
  refine (hU1 _ hd3).mono ?_
  rintro e w4 ⟨rfl, hb4⟩
  have hd4 := hd3.later hb4
  clear hU1 hd3
  go_wp2_with fail
  refine (hU2 _ hd4).mono ?_
  rintro e w5 ⟨rfl, rfl⟩
  have hq : ((used S.files : Int) != (used S.files : Int)) = false := by simp
  have hl5 : ∀ W', Below w5.heap.size w5 W' → ∀ k (hk : k < S.files.length), ∃ b off, a1 = some ⟨b, off, none⟩ ∧ W'.cell? ⟨b, off + k, none⟩ = some (.string (txt S.files[k].1)) := fun W' hb k hk => by
    have hb25 : Below w2.heap.size w2 W' := hb3.trans ((hb4.trans (hb.mono hb4.size)).mono hb3.size)
    obtain ⟨b, off, e, hc⟩ := hl1.at k (by rw [hnl]; exact hk) hb25
    refine ⟨b, off, e, ?_⟩
    have hn : (namesOf S.files)[k]'(by rw [hnl]; exact hk) = txt S.files[k].1 := by simp [namesOf]
    rw [hn] at hc
    exact hc
  clear hU2 hl1 hb3 hb4
  go_wp2
  go_loopw [6] (fun i wr => ∃ k : Nat, k ≤ S.files.length ∧ i = .int .i64 k ∧ Duo w wr bd br S S ∧ Below w5.heap.size w5 wr) (fun i _ => S.files.length - (intOf i).toNat)
  case atStart => exact ⟨0, by omega, rfl, hd4, Below.refl _ _⟩
  case round =>
    obtain ⟨k, hk, rfl, hdr, hbr⟩ := hrel
    by_cases hlt : k < S.files.length
    · have i1 : (0 : Int) ≤ (k : Int) := by omega
      have i2 : (k : Int) < (S.files.length : Int) := by omega
      obtain ⟨b, off, rfl, hcell⟩ := hl5 wr hbr k hlt
      have HR := read_there hok hlt
      have hts : (txt S.files[k].1).size ≤ 32 := by
        have := (hok.each _ (List.getElem_mem hlt)).1
        exact named_size' (by rw [txt_list]; exact this)
      have hRd : Calls Try.prog 20 #[.pointer (some ⟨bd, 0, none⟩), .string (txt S.files[k].1)] wr fun e w' => e = .returned (.tuple #[.string (txt S.files[k].2.data), .int .i64 0]) ∧ Below wr.heap.size wr w' := by
        obtain ⟨_, _, h'⟩ := hdr
        have h := read_any wr h'.disk (txt S.files[k].1) (by omega)
        rw [txt_list, HR] at h
        exact h
      have hF : ∀ W', Duo w W' bd br S S → ∃ g cv, W'.cell? ⟨br, 1, none⟩ = some (.slice (some ⟨g, 0, none⟩) S.files.length cv) ∧ W'.cell? ⟨g, k * 3 + 1, none⟩ = some (.string (txt S.files[k].2.data)) := fun W' h => by
        obtain ⟨_, _, h'⟩ := h
        obtain ⟨v, fu, le, hL, _, _⟩ := h'.ref
        obtain ⟨g, cap', e, _, r1, _⟩ := hL.at k hlt
        subst e
        exact ⟨g, cap', hL.c1, r1⟩
      generalize txt S.files[k].1 = nm at *
      generalize txt S.files[k].2.data = dt at *
      have ht : (dt.toList == dt.toList) = true := by simp
      have ht' : (dt.toList != dt.toList) = false := by simp
      clear HR hl5 hd4
      go_wp2_with fail
      refine hRd.mono ?_
      rintro e w6 ⟨rfl, hb6⟩
      have hd6 := hdr.later hb6
      obtain ⟨g, cv, r1, r2⟩ := hF w6 hd6
      have hb56 := hbr.trans (hb6.mono hbr.size)
      clear hRd hF hcell
      go_wp2
      go_roundw
      case rel => exact ⟨k + 1, by omega, by go_num, hd6, hb56⟩
      case measure => simp [intOf]; omega
    · go_wp2
      go_ret
      exact ⟨rfl, hdr⟩

end Go.Proofs.Ytokcknfbanpjjaa.Dk
