/- Layer 8, the document's own answer: its reader: num, text, whatever stands there. -/
import Derived.Test.YtkjcfkninmmbhaaOrNok
namespace Go.Proofs.Ytkjcfkninmmbhaa.Oq
open Go.RowKit Go.Joins Go.Proofs.Ytkjcfkninmmbhaa.Gk

set_option maxRecDepth 100000 in
set_option maxHeartbeats 8000000 in
theorem num_rf (S : Rd) (br : Nat) (w : World) (h : RfH w br S) :
    Calls Try.prog 38 #[.pointer (some ⟨br, 0, none⟩)] w fun e w' => e = .returned (.int .i64 S.rnum.1) ∧ RfH w' br S.rnum.2 ∧ One br w w' := by
  obtain ⟨a, c, l, p, h⟩ := h
  have hlt := h.lt
  have c0 : w.cell? ⟨br, 0, none⟩ = some (.slice a l.length c) := by rw [cell_of_block h.heap]; rfl
  have c1 : w.cell? ⟨br, 1, none⟩ = some (.int .i64 p) := by rw [cell_of_block h.heap]; rfl
  have c2 : w.cell? ⟨br, 2, none⟩ = some (.bool S.wrong) := by rw [cell_of_block h.heap]; rfl
  have f2 := unfrozen_of_block h.heap 2
  have HH := hide h
  have hle := h.le
  have hmo := h.most
  cases e : S.rest with
  | nil =>
    have HN : Hid (S.rnum = (0, ⟨S.rest, true⟩)) := by show _ = _; rw [Rd.rnum_nil e, e]
    have hp : p = l.length := by
      have := h.rest
      rw [e] at this
      have := List.drop_eq_nil_iff.1 this.symm
      omega
    subst hp
    clear h
    go_enter Try.func38, Try.ntmps38
    go_wp2
    refine wp_region_quiet_lit (by kernel_rfl) (by kernel_rfl) ?_
    refine QW.out ?_
    repeat (refine QW.step (fun K hK => ?_); go_simp; refine hK _ ?_; clear hK K)
    refine QW.nil ?_
    rintro w7 ⟨nq, rfl⟩
    go_wp2
    go_ret
    rw [HN.out]
    exact ⟨rfl, ⟨_, _, _, _, (HH.out.drewN _).bad⟩, (One.drewN w _).trans (One.set _ br 2 _)⟩
  | cons f r =>
    have hRN := Rd.rnum_cons e
    have hok := num_rf_ok S br w a c l p h f.n f.s r
    obtain ⟨b, off, rfl, hpl, hne, d0, d1, d2⟩ := h.head e
    have hg' : ¬ (l.length : Int) ≤ (p : Int) := by omega
    obtain ⟨ft, fn, fs⟩ := f
    simp only at d0 d1 d2 hRN hok
    clear h
    cases ft
    · by_cases h0 : fn < 0
      · have HN : Hid (S.rnum = (0, ⟨S.rest, true⟩)) := by
          show _ = _
          rw [hRN, e, if_neg]
          intro hh; have := within_iff.1 hh.2; omega
        clear hRN hok
        go_enter Try.func38, Try.ntmps38
        go_wp2
        refine wp_region_quiet_lit (by kernel_rfl) (by kernel_rfl) ?_
        refine QW.out ?_
        repeat (refine QW.step (fun K hK => ?_); go_simp; refine hK _ ?_; clear hK K)
        refine QW.nil ?_
        rintro w7 ⟨nq, rfl⟩
        go_wp2
        go_ret
        rw [HN.out]
        exact ⟨rfl, ⟨_, _, _, _, (HH.out.drewN _).bad⟩, (One.drewN w _).trans (One.set _ br 2 _)⟩
      · by_cases h1 : 1099511627776 < fn
        · have HN : Hid (S.rnum = (0, ⟨S.rest, true⟩)) := by
            show _ = _
            rw [hRN, e, if_neg]
            intro hh; have := within_iff.1 hh.2; omega
          clear hRN hok
          go_enter Try.func38, Try.ntmps38
          go_wp2
          refine wp_region_quiet_lit (by kernel_rfl) (by kernel_rfl) ?_
          refine QW.out ?_
          repeat (refine QW.step (fun K hK => ?_); go_simp; refine hK _ ?_; clear hK K)
          refine QW.nil ?_
          rintro w7 ⟨nq, rfl⟩
          go_wp2
          go_ret
          rw [HN.out]
          exact ⟨rfl, ⟨_, _, _, _, (HH.out.drewN _).bad⟩, (One.drewN w _).trans (One.set _ br 2 _)⟩
        · have HN : S.rnum = (fn, ⟨r, S.wrong⟩) := by rw [hRN, if_pos ⟨rfl, within_iff.2 ⟨by omega, by omega⟩⟩]
          rw [HN]
          exact hok e h0 h1
    · have HN : Hid (S.rnum = (0, ⟨S.rest, true⟩)) := by
        show _ = _
        rw [hRN, e, if_neg]
        intro hh; cases hh.1
      clear hRN hok
      go_enter Try.func38, Try.ntmps38
      go_wp2
      refine wp_region_quiet_lit (by kernel_rfl) (by kernel_rfl) ?_
      refine QW.out ?_
      repeat (refine QW.step (fun K hK => ?_); go_simp; refine hK _ ?_; clear hK K)
      refine QW.nil ?_
      rintro w7 ⟨nq, rfl⟩
      go_wp2
      go_ret
      rw [HN.out]
      exact ⟨rfl, ⟨_, _, _, _, (HH.out.drewN _).bad⟩, (One.drewN w _).trans (One.set _ br 2 _)⟩

set_option maxRecDepth 100000 in
set_option maxHeartbeats 8000000 in
theorem text_rf (S : Rd) (br : Nat) (w : World) (h : RfH w br S) :
    Calls Try.prog 39 #[.pointer (some ⟨br, 0, none⟩)] w fun e w' => e = .returned (.string S.txt.1) ∧ RfH w' br S.txt.2 ∧ One br w w' := by
  obtain ⟨a, c, l, p, h⟩ := h
  have hlt := h.lt
  have c0 : w.cell? ⟨br, 0, none⟩ = some (.slice a l.length c) := by rw [cell_of_block h.heap]; rfl
  have c1 : w.cell? ⟨br, 1, none⟩ = some (.int .i64 p) := by rw [cell_of_block h.heap]; rfl
  have c2 : w.cell? ⟨br, 2, none⟩ = some (.bool S.wrong) := by rw [cell_of_block h.heap]; rfl
  have f2 := unfrozen_of_block h.heap 2
  have HH := hide h
  have hle := h.le
  have hmo := h.most
  cases e : S.rest with
  | nil =>
    have HN : Hid (S.txt = (⟨#[]⟩, ⟨S.rest, true⟩)) := by show _ = _; rw [Rd.txt_nil e, e]
    have hp : p = l.length := by
      have := h.rest
      rw [e] at this
      have := List.drop_eq_nil_iff.1 this.symm
      omega
    subst hp
    clear h
    go_enter Try.func39, Try.ntmps39
    go_wp2
    refine wp_region_quiet_lit (by kernel_rfl) (by kernel_rfl) ?_
    refine QW.out ?_
    repeat (refine QW.step (fun K hK => ?_); go_simp; refine hK _ ?_; clear hK K)
    refine QW.nil ?_
    rintro w7 ⟨nq, rfl⟩
    go_wp2
    go_ret
    rw [HN.out]
    exact ⟨rfl, ⟨_, _, _, _, (HH.out.drewN _).bad⟩, (One.drewN w _).trans (One.set _ br 2 _)⟩
  | cons f r =>
    have hRN := Rd.txt_cons e
    have hok := text_rf_ok S br w a c l p h f.n f.s r
    obtain ⟨b, off, rfl, hpl, hne, d0, d1, d2⟩ := h.head e
    have hg' : ¬ (l.length : Int) ≤ (p : Int) := by omega
    obtain ⟨ft, fn, fs⟩ := f
    simp only at d0 d1 d2 hRN hok
    clear h
    cases ft
    · have HN : Hid (S.txt = (⟨#[]⟩, ⟨S.rest, true⟩)) := by
        show _ = _
        rw [hRN, e, if_neg]
        intro hh; cases hh
      clear hRN hok
      go_enter Try.func39, Try.ntmps39
      go_wp2
      refine wp_region_quiet_lit (by kernel_rfl) (by kernel_rfl) ?_
      refine QW.out ?_
      repeat (refine QW.step (fun K hK => ?_); go_simp; refine hK _ ?_; clear hK K)
      refine QW.nil ?_
      rintro w7 ⟨nq, rfl⟩
      go_wp2
      go_ret
      rw [HN.out]
      exact ⟨rfl, ⟨_, _, _, _, (HH.out.drewN _).bad⟩, (One.drewN w _).trans (One.set _ br 2 _)⟩
    · have HN : S.txt = (fs, ⟨r, S.wrong⟩) := by rw [hRN, if_pos rfl]
      rw [HN]
      exact hok e

end Go.Proofs.Ytkjcfkninmmbhaa.Oq
