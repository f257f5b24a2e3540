/- Layer 9: Take: walks over table.go: Take. -/
import Derived.Test.YthdempdiibjabaaTbMrg
namespace Go.Proofs.Ythdempdiibjabaa.Tb
open Go.RowKit Go.Joins Go.Proofs.Ythdempdiibjabaa.Gk Go.Proofs.Ythdempdiibjabaa.Oq Go.Proofs.Ythdempdiibjabaa.Sp

theorem takes_bad {l rows : List Rw} (h : chkR rows ≠ 0) : takes l rows = (chkR rows, l) := by unfold takes; rw [if_pos h]
theorem takes_full {l rows : List Rw} (h : chkR rows = 0) (hf : 4096 < l.length + freshN l rows) : takes l rows = (22, l) := by unfold takes; rw [if_neg (by simp [h]), if_pos hf]
theorem takes_ok {l rows : List Rw} (h : chkR rows = 0) (hf : ¬ 4096 < l.length + freshN l rows) : takes l rows = (0, puts l rows) := by unfold takes; rw [if_neg (by simp [h]), if_neg hf]
theorem chkR_zero {rows : List Rw} (h : chkR rows = 0) : (∀ r ∈ rows, r.Ok) ∧ Rise rows := by
  unfold chkR at h
  split at h
  · rename_i h1
    split at h
    · rename_i h2
      exact ⟨fun r hr => (Rw.okB_iff r).1 (List.all_eq_true.1 h1 r hr), riseB_rise h2⟩
    · cases h
  · cases h
theorem chkR_ok {rows : List Rw} (h : ∀ r ∈ rows, r.Ok) (hr : Rise rows) : chkR rows = 0 := by
  unfold chkR
  rw [if_pos (List.all_eq_true.2 fun r hx => (Rw.okB_iff r).2 (h r hx)), rise_riseB hr]; rfl

abbrev TkS (w : World) (bt : Nat) (v : Value) (W : World) : Prop := W.cell? ⟨bt, 0, none⟩ = some v ∧ bt < w.heap.size ∧ Below w.heap.size w W
theorem TkS.call {w : World} {bt : Nat} {v : Value} {a b : World} (hb : Below a.heap.size a b) (h : TkS w bt v a) : TkS w bt v b :=
  ⟨(hb.cell (p := ⟨bt, 0, none⟩) (Nat.lt_of_lt_of_le h.2.1 h.2.2.size)).trans h.1, h.2.1, h.2.2.trans (hb.mono h.2.2.size)⟩
theorem TkS.drew {w : World} {bt : Nat} {v : Value} {a : World} (h : TkS w bt v a) : TkS w bt v a.drew := h.call ((Below.refl _ _).drew)
theorem TkS.bel {w : World} {bt : Nat} {v : Value} {a : World} (h : TkS w bt v a) : Below w.heap.size w a := h.2.2

set_option maxRecDepth 100000 in
set_option maxHeartbeats 1600000 in
theorem Take_tb (bt : Nat) (l : List Rw) (a : Option Addr) (cap : Nat) (m : List Rw) (w : World) (hT : TH w bt l) (hm : Lies w rwenc a m) (hn : m.length ≤ 100000) :
    Calls Try.prog 20 #[ptr bt, .slice a m.length cap] w fun e w' => e = .returned (.int .i64 (takes l m).1) ∧ TH w' bt (takes l m).2 ∧ Turn bt w w' ∧ (∀ g, tabBlk w' bt = some g → tabBlk w bt = some g ∨ w.heap.size ≤ g) := by
  obtain ⟨hok, ta, tc, hg, hl⟩ := id hT
  have hlt := hT.lt
  have hlen := hok.len
  have hCk := checkRows_any a cap m w hm (by omega)
  by_cases hc : chkR m ≠ 0
  · rw [takes_bad hc]
    have b1 : (chkR m != 0) = true := by simp [hc]
    generalize chkR m = c at *
    clear hc
    go_enter Try.func20, Try.ntmps20
    go_wp2_with fail
    refine hCk.mono ?_
    rintro e w1 ⟨rfl, hb1⟩
    go_wp2
    go_ret
    exact ⟨rfl, hT.below hb1, Only.of_below hb1, fun g hg => Or.inl (by rw [← hg]; exact (tabBlk_same (hb1.block bt hlt)).symm)⟩
  · have hc0 : chkR m = 0 := Decidable.byContradiction fun h => hc h
    obtain ⟨hmo, hmr⟩ := chkR_zero hc0
    rw [hc0] at hCk
    have hfl := freshN_le l m
    have hF := fun W (hb : Below w.heap.size w W) => fresh_any ta a tc cap l m W hok (hl.lies.below hb) (hm.below hb) (by omega)
    by_cases hf : 4096 < l.length + freshN l m
    · rw [takes_full hc0 hf]
      generalize freshN l m = f at *
      have i1 : (4096 : Int) < (l.length : Int) + (f : Int) := by omega
      have hwr : IntKind.i64.wrap ((l.length : Int) + (f : Int)) = (l.length : Int) + (f : Int) := by rw [IntKind.wrap_i64]; omega
      go_enter Try.func20, Try.ntmps20
      go_wp2_with fail
      refine hCk.mono ?_
      rintro e w1 ⟨rfl, hb1⟩
      have t1 : w1.cell? ⟨bt, 0, none⟩ = some (.slice ta l.length tc) := cellB ((hb1.block bt hlt).trans hg) 0 rfl
      have hS : TkS w bt (.slice ta l.length tc) w1 := ⟨t1, hlt, hb1⟩
      clear t1 hb1
      go_wp2_with fail
      go_region_held3 (TkS w bt (.slice ta l.length tc)) (first | with_reducible assumption | with_reducible exact TkS.drew (by assumption) | with_reducible exact TkS.call (by assumption) (by assumption))
        (first | (go_at_call 39; with_reducible refine (hF _ (TkS.bel (by assumption))).mono ?_; rintro e w2 ⟨rfl, hb2⟩))
      have hS2 : TkS w bt (.slice ta l.length tc) w2 := by assumption
      have hb3 := hS2.bel
      go_wp2
      go_ret
      exact ⟨rfl, hT.below hb3, Only.of_below hb3, fun g hg => Or.inl (by rw [← hg]; exact (tabBlk_same (hb3.block bt hlt)).symm)⟩
    · rw [takes_ok hc0 hf]
      have HOK := hide (hok.puts hmo hmr (by omega))
      have hCp := fun W (hb : Below w.heap.size w W) => copied_any a cap m W (hm.below hb) (by omega) (fun x hx => ⟨Nat.le_trans (hmo x hx).k2 (by omega), Nat.le_trans (hmo x hx).v (by omega)⟩)
      have hMg := fun g cp W (hb : Below w.heap.size w W) (hlm : Lies W rwenc (some ⟨g, 0, none⟩) m) => merged_any ta (some ⟨g, 0, none⟩) tc cp l m W hok.rise hmr (hl.below hb) hlm hlen hn
      generalize freshN l m = f at *
      have i1 : ¬ (4096 : Int) < (l.length : Int) + (f : Int) := by omega
      have hwr : IntKind.i64.wrap ((l.length : Int) + (f : Int)) = (l.length : Int) + (f : Int) := by rw [IntKind.wrap_i64]; omega
      go_enter Try.func20, Try.ntmps20
      go_wp2_with fail
      refine hCk.mono ?_
      rintro e w1 ⟨rfl, hb1⟩
      have t1 : w1.cell? ⟨bt, 0, none⟩ = some (.slice ta l.length tc) := cellB ((hb1.block bt hlt).trans hg) 0 rfl
      have hS : TkS w bt (.slice ta l.length tc) w1 := ⟨t1, hlt, hb1⟩
      clear t1 hb1
      go_wp2_with fail
      go_region_held3 (TkS w bt (.slice ta l.length tc)) (first | with_reducible assumption | with_reducible exact TkS.drew (by assumption) | with_reducible exact TkS.call (by assumption) (by assumption))
        (first | (go_at_call 39; with_reducible refine (hF _ (TkS.bel (by assumption))).mono ?_; rintro e w2 ⟨rfl, hb2⟩))
      have hS2 : TkS w bt (.slice ta l.length tc) w2 := by assumption
      have t2 := hS2.1
      have hb3 := hS2.bel
      have hg2 := (hb3.block bt hlt).trans hg
      clear hS hCk hF hb2
      go_wp2_with fail
      go_region_law (first
        | (go_simp; go_at_call 37; refine (hCp _ hb3.drew).mono ?_; rintro e w4 ⟨rfl, hown4, hb4⟩; have hb5 := hide (hb3.drew.trans (hb4.mono hb3.drew.size)); have hg4 := hide ((hb5.out.block bt hlt).trans hg); have t4 : w4.cell? ⟨bt, 0, none⟩ = some (.slice ta l.length tc) := cellB hg4.out 0 rfl; have hR4 := hide (RL.of_own hown4))
        | (go_simp; go_at_call 40; refine (hMg _ _ _ hb5.out hR4.out.lies).mono ?_; rintro e w6 ⟨a6, cap6, L6, rfl, hL6, hown6, hb6⟩; have hb7 := hide (hb5.out.trans (hb6.mono hb5.out.size)); have hg6 := hide ((hb7.out.block bt hlt).trans hg); have t6 : w6.cell? ⟨bt, 0, none⟩ = some (.slice ta l.length tc) := cellB hg6.out 0 rfl; have f6 := unfrozen_of_block hg6.out 0; have HL6 := hide hL6; clear hL6))
      all_goals
        have HT6 := hide (TH.put hg6.out (RL.of_own hown6) (show Tok L6 by rw [HL6.out]; exact HOK.out))
        have HTu : Hid (Turn bt w (w6.setCell ⟨bt, 0, none⟩ (.slice a6 L6.length cap6))) := (Only.of_below hb7.out).trans (Only.of_set (own := fun b => b = bt) _ rfl _)
        have HW6 := hide (put_own hg6.out hown6 hb5.out.size)
        clear hown6 hb6 hown4 hb4
        go_wp2
        go_ret
        exact ⟨rfl, Eq.mp (congrArg (TH (w6.setCell ⟨bt, 0, none⟩ (.slice a6 L6.length cap6)) bt) HL6.out) HT6.out, HTu.out, fun g hg => Or.inr (HW6.out g hg)⟩

end Go.Proofs.Ythdempdiibjabaa.Tb
