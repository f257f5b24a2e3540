/- Layer 8: OpFields: an operation that may be is none any more with a field set that its kind does not have. -/
import Derived.Test.YtedlpbpkhmlpnaaOpWr
import Derived.Test.YtedlpbpkhmlpnaaOpEnc
namespace Go.Proofs.Ytedlpbpkhmlpnaa.Oq
open Go.RowKit Go.Joins Go.Proofs.Ytedlpbpkhmlpnaa.Gk

theorem tn_pos (n : Int) : 1 ≤ wrap64 (1 + wrap64 ((IntKind.u64.wrap n).tmod 1000)) := by
  rw [IntKind.wrap_u64, wrap64, wrap64]
  have h : 0 ≤ n % 18446744073709551616 := by omega
  rw [Int.tmod_eq_emod_of_nonneg h]
  omega

/-- an operation's six cells -/
abbrev cells6 (W : World) (H : Nat) (x : Opn) : Prop :=
  W.cell? ⟨H, 0, none⟩ = some (.int .i64 x.kind) ∧ W.cell? ⟨H, 1, none⟩ = some (.string x.key) ∧ W.cell? ⟨H, 2, none⟩ = some (.string x.val) ∧
    W.cell? ⟨H, 3, none⟩ = some (.int .i64 x.stamp) ∧ W.cell? ⟨H, 4, none⟩ = some (.int .i64 x.test) ∧ W.cell? ⟨H, 5, none⟩ = some (.int .i64 x.most)
theorem cells6.call {H : Nat} {x : Opn} {a b : World} (h : cells6 a H x) (hb : Below a.heap.size a b) (hl : H < a.heap.size) : cells6 b H x := by
  obtain ⟨c0, c1, c2, c3, c4, c5⟩ := h
  have hc : ∀ j, b.cell? ⟨H, j, none⟩ = a.cell? ⟨H, j, none⟩ := fun j => hb.cell (p := ⟨H, j, none⟩) hl
  exact ⟨(hc 0).trans c0, (hc 1).trans c1, (hc 2).trans c2, (hc 3).trans c3, (hc 4).trans c4, (hc 5).trans c5⟩
theorem cells6.new (w : World) (x : Opn) (H : Nat) (h : H = w.heap.size) : cells6 (w.alloc (.cells (oenc x).toArray 29)) H x := by
  subst h
  exact ⟨by simp [oenc], by simp [oenc], by simp [oenc], by simp [oenc], by simp [oenc], by simp [oenc]⟩
abbrev FS (B H0 H1 H2 : Nat) (w : World) (x y z : Opn) (W : World) : Prop :=
  (cells6 W H0 x ∧ cells6 W H1 y ∧ cells6 W H2 z) ∧ (B ≤ H0 ∧ H0 < W.heap.size ∧ H1 < W.heap.size ∧ H2 < W.heap.size) ∧ Below B w W
theorem FS.call {B H0 H1 H2 : Nat} {w : World} {x y z : Opn} {a b : World} (hb : Below a.heap.size a b) (h : FS B H0 H1 H2 w x y z a) : FS B H0 H1 H2 w x y z b := by
  obtain ⟨⟨cx, cy, cz⟩, ⟨hB, l0, l1, l2⟩, hbel⟩ := h
  have := hb.size
  exact ⟨⟨cx.call hb l0, cy.call hb l1, cz.call hb l2⟩, ⟨hB, by omega, by omega, by omega⟩, hbel.trans (hb.mono (by omega))⟩
theorem FS.drew {B H0 H1 H2 : Nat} {w : World} {x y z : Opn} {a : World} (h : FS B H0 H1 H2 w x y z a) : FS B H0 H1 H2 w x y z a.drew := h.call ((Below.refl _ _).drew)
theorem chkF : chkI false = 80 := rfl
theorem chkT : chkI true = 0 := rfl

theorem may_kind {x : Opn} (h : x.may = true) : x.kind = 1 ∨ x.kind = 2 ∨ x.kind = 3 ∨ x.kind = 4 ∨ x.kind = 5 ∨ x.kind = 6 := by
  unfold Opn.may at h
  split at h
  · omega
  split at h
  · omega
  split at h
  · omega
  split at h
  · omega
  · cases h
theorem no_kind {x : Opn} (h : 6 < x.kind) : x.may = false := by
  unfold Opn.may
  rw [if_neg (by omega), if_neg (by omega), if_neg (by omega), if_neg (by omega)]

set_option maxRecDepth 100000 in
set_option maxHeartbeats 4000000 in
theorem fields_law (x : Opn) (n : Int) (w : World) :
    Calls Try.prog 5 #[x.v, .int .i64 n] w fun e w' => e = .returned (.bool true) ∧ Below w.heap.size w w' := by
  obtain ⟨W, hW, hbW, hz, hc⟩ := box6 w x
  have hkind := @may_kind x
  obtain ⟨kind, key, val, stamp, test, most⟩ := x
  simp only [oenc] at hW hc
  go_enter Try.func5, Try.ntmps5
  go_wp2_with fail
  rw [← hW]
  refine (works_op W).mono ?_
  rintro e w1 ⟨rfl, hb1⟩
  obtain ⟨c0, c1, c2, c3, c4, c5⟩ := hc w1 hb1
  have hb2 := hbW.trans (hb1.mono (by omega))
  clear hW
  go_wp2_with fail
  refine (Check_op ⟨kind, key, val, stamp, test, most⟩ _).mono ?_
  rintro e w2 ⟨rfl, hb3⟩
  obtain ⟨d0, d1, d2, d3, d4, d5⟩ := hc w2 (hb1.trans (hb3.mono hb1.size))
  have hb4 := hb2.trans (hb3.mono hb2.size)
  clear c0 c1 c2 c3 c4 c5
  have hzz : w.heap.size < w2.heap.size := by have := hb1.size; have := hb3.size; omega
  have hp := hide (tn_pos n)
  clear hc
  cases hm : Opn.may ⟨kind, key, val, stamp, test, most⟩
  · rw [chkF]
    go_wp2
    go_ret
    exact ⟨rfl, hb4⟩
  · rw [chkT]
    have hk := hkind hm
    try simp only at hk
    clear hkind
    have hmm := hide hm
    clear hm
    rcases hk with rfl | rfl | rfl | rfl | rfl | rfl
    · go_wp2
      generalize wrap64 (1 + wrap64 ((IntKind.u64.wrap n).tmod 1000)) = m at *
      have hm0 : (m == 0) = false := by have := hp.out; rw [beq_eq_false_iff_ne]; omega
      have hy : Opn.may ⟨1, key, val, stamp, m, most⟩ = false := by simp [Opn.may, hm0]
      have hzf : Opn.may ⟨7, key, val, stamp, test, most⟩ = false := no_kind (by show (6 : Int) < 7; decide)
      have hw : Opn.writes ⟨1, key, val, stamp, test, most⟩ = true := rfl
      have hS : FS w.heap.size w.heap.size w2.heap.size (w2.heap.size + 1) w ⟨1, key, val, stamp, test, most⟩ ⟨1, key, val, stamp, m, most⟩ ⟨7, key, val, stamp, test, most⟩ ((w2.alloc (.cells (oenc ⟨1, key, val, stamp, m, most⟩).toArray 29)).alloc (.cells (oenc ⟨7, key, val, stamp, test, most⟩).toArray 29)) := by
        have hbA : Below w2.heap.size w2 ((w2.alloc (.cells (oenc ⟨1, key, val, stamp, m, most⟩).toArray 29)).alloc (.cells (oenc ⟨7, key, val, stamp, test, most⟩).toArray 29)) := ((Below.refl _ _).alloc (Nat.le_refl _) _).alloc (by simp) _
        refine ⟨⟨cells6.call ⟨d0, d1, d2, d3, d4, d5⟩ hbA hzz, ?_, ?_⟩, ⟨Nat.le_refl _, by simp <;> omega, by simp <;> omega, by simp <;> omega⟩, hb4.trans (hbA.mono hb4.size)⟩
        · exact cells6.call (a := w2.alloc (.cells (oenc ⟨1, key, val, stamp, m, most⟩).toArray 29)) (cells6.new w2 ⟨1, key, val, stamp, m, most⟩ _ rfl) ((Below.refl _ _).alloc (Nat.le_refl _) _) (by simp)
        · exact cells6.new _ ⟨7, key, val, stamp, test, most⟩ _ (by simp)
      simp only [oenc] at hS
      clear d0 d1 d2 d3 d4 d5 hm0
      go_region_held3 (FS w.heap.size w.heap.size w2.heap.size (w2.heap.size + 1) w ⟨1, key, val, stamp, test, most⟩ ⟨1, key, val, stamp, m, most⟩ ⟨7, key, val, stamp, test, most⟩) (first | with_reducible exact FS.drew (by assumption) | with_reducible exact FS.call (by assumption) (by assumption) | with_reducible assumption)
        (first | (go_at_call 8; refine (Check_op ⟨_, _, _, _, _, _⟩ _).mono ?_; rintro e w3 ⟨rfl, hb5⟩; first | rw [hy, chkF] | rw [hzf, chkF]) | (go_at_call 10; refine (Writes_op ⟨_, _, _, _, _, _⟩ _).mono ?_; rintro e w3 ⟨rfl, hb5⟩; rw [hw]))
      all_goals have hf : FS w.heap.size w.heap.size w2.heap.size (w2.heap.size + 1) w ⟨1, key, val, stamp, test, most⟩ ⟨1, key, val, stamp, m, most⟩ ⟨7, key, val, stamp, test, most⟩ w3 := by assumption
      all_goals have hb9 := hf.2.2
      all_goals clear hf
      all_goals go_wp2
      all_goals go_ret
      all_goals exact ⟨rfl, hb9⟩
    · go_wp2
      generalize wrap64 (1 + wrap64 ((IntKind.u64.wrap n).tmod 1000)) = m at *
      have hm0 : (m == 0) = false := by have := hp.out; rw [beq_eq_false_iff_ne]; omega
      have hy : Opn.may ⟨2, key, val, stamp, test, m⟩ = false := by simp [Opn.may, Opn.put, hm0]
      have hzf : Opn.may ⟨8, key, val, stamp, test, most⟩ = false := no_kind (by show (6 : Int) < 8; decide)
      have hw : Opn.writes ⟨2, key, val, stamp, test, most⟩ = true := rfl
      have hS : FS w.heap.size w.heap.size w2.heap.size (w2.heap.size + 1) w ⟨2, key, val, stamp, test, most⟩ ⟨2, key, val, stamp, test, m⟩ ⟨8, key, val, stamp, test, most⟩ ((w2.alloc (.cells (oenc ⟨2, key, val, stamp, test, m⟩).toArray 29)).alloc (.cells (oenc ⟨8, key, val, stamp, test, most⟩).toArray 29)) := by
        have hbA : Below w2.heap.size w2 ((w2.alloc (.cells (oenc ⟨2, key, val, stamp, test, m⟩).toArray 29)).alloc (.cells (oenc ⟨8, key, val, stamp, test, most⟩).toArray 29)) := ((Below.refl _ _).alloc (Nat.le_refl _) _).alloc (by simp) _
        refine ⟨⟨cells6.call ⟨d0, d1, d2, d3, d4, d5⟩ hbA hzz, ?_, ?_⟩, ⟨Nat.le_refl _, by simp <;> omega, by simp <;> omega, by simp <;> omega⟩, hb4.trans (hbA.mono hb4.size)⟩
        · exact cells6.call (a := w2.alloc (.cells (oenc ⟨2, key, val, stamp, test, m⟩).toArray 29)) (cells6.new w2 ⟨2, key, val, stamp, test, m⟩ _ rfl) ((Below.refl _ _).alloc (Nat.le_refl _) _) (by simp)
        · exact cells6.new _ ⟨8, key, val, stamp, test, most⟩ _ (by simp)
      simp only [oenc] at hS
      clear d0 d1 d2 d3 d4 d5 hm0
      go_region_held3 (FS w.heap.size w.heap.size w2.heap.size (w2.heap.size + 1) w ⟨2, key, val, stamp, test, most⟩ ⟨2, key, val, stamp, test, m⟩ ⟨8, key, val, stamp, test, most⟩) (first | with_reducible exact FS.drew (by assumption) | with_reducible exact FS.call (by assumption) (by assumption) | with_reducible assumption)
        (first | (go_at_call 8; refine (Check_op ⟨_, _, _, _, _, _⟩ _).mono ?_; rintro e w3 ⟨rfl, hb5⟩; first | rw [hy, chkF] | rw [hzf, chkF]) | (go_at_call 10; refine (Writes_op ⟨_, _, _, _, _, _⟩ _).mono ?_; rintro e w3 ⟨rfl, hb5⟩; rw [hw]))
      all_goals have hf : FS w.heap.size w.heap.size w2.heap.size (w2.heap.size + 1) w ⟨2, key, val, stamp, test, most⟩ ⟨2, key, val, stamp, test, m⟩ ⟨8, key, val, stamp, test, most⟩ w3 := by assumption
      all_goals have hb9 := hf.2.2
      all_goals clear hf
      all_goals go_wp2
      all_goals go_ret
      all_goals exact ⟨rfl, hb9⟩
    · go_wp2
      generalize wrap64 (1 + wrap64 ((IntKind.u64.wrap n).tmod 1000)) = m at *
      have hm0 : (m == 0) = false := by have := hp.out; rw [beq_eq_false_iff_ne]; omega
      have hy : Opn.may ⟨3, key, val, stamp, test, m⟩ = false := by simp [Opn.may, Opn.put, hm0]
      have hzf : Opn.may ⟨9, key, val, stamp, test, most⟩ = false := no_kind (by show (6 : Int) < 9; decide)
      have hw : Opn.writes ⟨3, key, val, stamp, test, most⟩ = true := rfl
      have hS : FS w.heap.size w.heap.size w2.heap.size (w2.heap.size + 1) w ⟨3, key, val, stamp, test, most⟩ ⟨3, key, val, stamp, test, m⟩ ⟨9, key, val, stamp, test, most⟩ ((w2.alloc (.cells (oenc ⟨3, key, val, stamp, test, m⟩).toArray 29)).alloc (.cells (oenc ⟨9, key, val, stamp, test, most⟩).toArray 29)) := by
        have hbA : Below w2.heap.size w2 ((w2.alloc (.cells (oenc ⟨3, key, val, stamp, test, m⟩).toArray 29)).alloc (.cells (oenc ⟨9, key, val, stamp, test, most⟩).toArray 29)) := ((Below.refl _ _).alloc (Nat.le_refl _) _).alloc (by simp) _
        refine ⟨⟨cells6.call ⟨d0, d1, d2, d3, d4, d5⟩ hbA hzz, ?_, ?_⟩, ⟨Nat.le_refl _, by simp <;> omega, by simp <;> omega, by simp <;> omega⟩, hb4.trans (hbA.mono hb4.size)⟩
        · exact cells6.call (a := w2.alloc (.cells (oenc ⟨3, key, val, stamp, test, m⟩).toArray 29)) (cells6.new w2 ⟨3, key, val, stamp, test, m⟩ _ rfl) ((Below.refl _ _).alloc (Nat.le_refl _) _) (by simp)
        · exact cells6.new _ ⟨9, key, val, stamp, test, most⟩ _ (by simp)
      simp only [oenc] at hS
      clear d0 d1 d2 d3 d4 d5 hm0
      go_region_held3 (FS w.heap.size w.heap.size w2.heap.size (w2.heap.size + 1) w ⟨3, key, val, stamp, test, most⟩ ⟨3, key, val, stamp, test, m⟩ ⟨9, key, val, stamp, test, most⟩) (first | with_reducible exact FS.drew (by assumption) | with_reducible exact FS.call (by assumption) (by assumption) | with_reducible assumption)
        (first | (go_at_call 8; refine (Check_op ⟨_, _, _, _, _, _⟩ _).mono ?_; rintro e w3 ⟨rfl, hb5⟩; first | rw [hy, chkF] | rw [hzf, chkF]) | (go_at_call 10; refine (Writes_op ⟨_, _, _, _, _, _⟩ _).mono ?_; rintro e w3 ⟨rfl, hb5⟩; rw [hw]))
      all_goals have hf : FS w.heap.size w.heap.size w2.heap.size (w2.heap.size + 1) w ⟨3, key, val, stamp, test, most⟩ ⟨3, key, val, stamp, test, m⟩ ⟨9, key, val, stamp, test, most⟩ w3 := by assumption
      all_goals have hb9 := hf.2.2
      all_goals clear hf
      all_goals go_wp2
      all_goals go_ret
      all_goals exact ⟨rfl, hb9⟩
    · go_wp2
      generalize wrap64 (1 + wrap64 ((IntKind.u64.wrap n).tmod 1000)) = m at *
      have hm0 : (m == 0) = false := by have := hp.out; rw [beq_eq_false_iff_ne]; omega
      have hy : Opn.may ⟨4, key, val, m, test, most⟩ = false := by simp [Opn.may, hm0]
      have hzf : Opn.may ⟨10, key, val, stamp, test, most⟩ = false := no_kind (by show (6 : Int) < 10; decide)
      have hw : Opn.writes ⟨4, key, val, stamp, test, most⟩ = true := rfl
      have hS : FS w.heap.size w.heap.size w2.heap.size (w2.heap.size + 1) w ⟨4, key, val, stamp, test, most⟩ ⟨4, key, val, m, test, most⟩ ⟨10, key, val, stamp, test, most⟩ ((w2.alloc (.cells (oenc ⟨4, key, val, m, test, most⟩).toArray 29)).alloc (.cells (oenc ⟨10, key, val, stamp, test, most⟩).toArray 29)) := by
        have hbA : Below w2.heap.size w2 ((w2.alloc (.cells (oenc ⟨4, key, val, m, test, most⟩).toArray 29)).alloc (.cells (oenc ⟨10, key, val, stamp, test, most⟩).toArray 29)) := ((Below.refl _ _).alloc (Nat.le_refl _) _).alloc (by simp) _
        refine ⟨⟨cells6.call ⟨d0, d1, d2, d3, d4, d5⟩ hbA hzz, ?_, ?_⟩, ⟨Nat.le_refl _, by simp <;> omega, by simp <;> omega, by simp <;> omega⟩, hb4.trans (hbA.mono hb4.size)⟩
        · exact cells6.call (a := w2.alloc (.cells (oenc ⟨4, key, val, m, test, most⟩).toArray 29)) (cells6.new w2 ⟨4, key, val, m, test, most⟩ _ rfl) ((Below.refl _ _).alloc (Nat.le_refl _) _) (by simp)
        · exact cells6.new _ ⟨10, key, val, stamp, test, most⟩ _ (by simp)
      simp only [oenc] at hS
      clear d0 d1 d2 d3 d4 d5 hm0
      go_region_held3 (FS w.heap.size w.heap.size w2.heap.size (w2.heap.size + 1) w ⟨4, key, val, stamp, test, most⟩ ⟨4, key, val, m, test, most⟩ ⟨10, key, val, stamp, test, most⟩) (first | with_reducible exact FS.drew (by assumption) | with_reducible exact FS.call (by assumption) (by assumption) | with_reducible assumption)
        (first | (go_at_call 8; refine (Check_op ⟨_, _, _, _, _, _⟩ _).mono ?_; rintro e w3 ⟨rfl, hb5⟩; first | rw [hy, chkF] | rw [hzf, chkF]) | (go_at_call 10; refine (Writes_op ⟨_, _, _, _, _, _⟩ _).mono ?_; rintro e w3 ⟨rfl, hb5⟩; rw [hw]))
      all_goals have hf : FS w.heap.size w.heap.size w2.heap.size (w2.heap.size + 1) w ⟨4, key, val, stamp, test, most⟩ ⟨4, key, val, m, test, most⟩ ⟨10, key, val, stamp, test, most⟩ w3 := by assumption
      all_goals have hb9 := hf.2.2
      all_goals clear hf
      all_goals go_wp2
      all_goals go_ret
      all_goals exact ⟨rfl, hb9⟩
    · go_wp2
      generalize wrap64 (1 + wrap64 ((IntKind.u64.wrap n).tmod 1000)) = m at *
      have hm0 : (m == 0) = false := by have := hp.out; rw [beq_eq_false_iff_ne]; omega
      have hy : Opn.may ⟨5, key, val, m, test, most⟩ = false := by simp [Opn.may, hm0]
      have hzf : Opn.may ⟨11, key, val, stamp, test, most⟩ = false := no_kind (by show (6 : Int) < 11; decide)
      have hw : Opn.writes ⟨5, key, val, stamp, test, most⟩ = false := rfl
      have hS : FS w.heap.size w.heap.size w2.heap.size (w2.heap.size + 1) w ⟨5, key, val, stamp, test, most⟩ ⟨5, key, val, m, test, most⟩ ⟨11, key, val, stamp, test, most⟩ ((w2.alloc (.cells (oenc ⟨5, key, val, m, test, most⟩).toArray 29)).alloc (.cells (oenc ⟨11, key, val, stamp, test, most⟩).toArray 29)) := by
        have hbA : Below w2.heap.size w2 ((w2.alloc (.cells (oenc ⟨5, key, val, m, test, most⟩).toArray 29)).alloc (.cells (oenc ⟨11, key, val, stamp, test, most⟩).toArray 29)) := ((Below.refl _ _).alloc (Nat.le_refl _) _).alloc (by simp) _
        refine ⟨⟨cells6.call ⟨d0, d1, d2, d3, d4, d5⟩ hbA hzz, ?_, ?_⟩, ⟨Nat.le_refl _, by simp <;> omega, by simp <;> omega, by simp <;> omega⟩, hb4.trans (hbA.mono hb4.size)⟩
        · exact cells6.call (a := w2.alloc (.cells (oenc ⟨5, key, val, m, test, most⟩).toArray 29)) (cells6.new w2 ⟨5, key, val, m, test, most⟩ _ rfl) ((Below.refl _ _).alloc (Nat.le_refl _) _) (by simp)
        · exact cells6.new _ ⟨11, key, val, stamp, test, most⟩ _ (by simp)
      simp only [oenc] at hS
      clear d0 d1 d2 d3 d4 d5 hm0
      go_region_held3 (FS w.heap.size w.heap.size w2.heap.size (w2.heap.size + 1) w ⟨5, key, val, stamp, test, most⟩ ⟨5, key, val, m, test, most⟩ ⟨11, key, val, stamp, test, most⟩) (first | with_reducible exact FS.drew (by assumption) | with_reducible exact FS.call (by assumption) (by assumption) | with_reducible assumption)
        (first | (go_at_call 8; refine (Check_op ⟨_, _, _, _, _, _⟩ _).mono ?_; rintro e w3 ⟨rfl, hb5⟩; first | rw [hy, chkF] | rw [hzf, chkF]) | (go_at_call 10; refine (Writes_op ⟨_, _, _, _, _, _⟩ _).mono ?_; rintro e w3 ⟨rfl, hb5⟩; rw [hw]))
      all_goals have hf : FS w.heap.size w.heap.size w2.heap.size (w2.heap.size + 1) w ⟨5, key, val, stamp, test, most⟩ ⟨5, key, val, m, test, most⟩ ⟨11, key, val, stamp, test, most⟩ w3 := by assumption
      all_goals have hb9 := hf.2.2
      all_goals clear hf
      all_goals go_wp2
      all_goals go_ret
      all_goals exact ⟨rfl, hb9⟩
    · go_wp2
      generalize wrap64 (1 + wrap64 ((IntKind.u64.wrap n).tmod 1000)) = m at *
      have hm0 : (m == 0) = false := by have := hp.out; rw [beq_eq_false_iff_ne]; omega
      have hy : Opn.may ⟨6, key, val, stamp, m, most⟩ = false := by simp [Opn.may, hm0]
      have hzf : Opn.may ⟨12, key, val, stamp, test, most⟩ = false := no_kind (by show (6 : Int) < 12; decide)
      have hw : Opn.writes ⟨6, key, val, stamp, test, most⟩ = false := rfl
      have hS : FS w.heap.size w.heap.size w2.heap.size (w2.heap.size + 1) w ⟨6, key, val, stamp, test, most⟩ ⟨6, key, val, stamp, m, most⟩ ⟨12, key, val, stamp, test, most⟩ ((w2.alloc (.cells (oenc ⟨6, key, val, stamp, m, most⟩).toArray 29)).alloc (.cells (oenc ⟨12, key, val, stamp, test, most⟩).toArray 29)) := by
        have hbA : Below w2.heap.size w2 ((w2.alloc (.cells (oenc ⟨6, key, val, stamp, m, most⟩).toArray 29)).alloc (.cells (oenc ⟨12, key, val, stamp, test, most⟩).toArray 29)) := ((Below.refl _ _).alloc (Nat.le_refl _) _).alloc (by simp) _
        refine ⟨⟨cells6.call ⟨d0, d1, d2, d3, d4, d5⟩ hbA hzz, ?_, ?_⟩, ⟨Nat.le_refl _, by simp <;> omega, by simp <;> omega, by simp <;> omega⟩, hb4.trans (hbA.mono hb4.size)⟩
        · exact cells6.call (a := w2.alloc (.cells (oenc ⟨6, key, val, stamp, m, most⟩).toArray 29)) (cells6.new w2 ⟨6, key, val, stamp, m, most⟩ _ rfl) ((Below.refl _ _).alloc (Nat.le_refl _) _) (by simp)
        · exact cells6.new _ ⟨12, key, val, stamp, test, most⟩ _ (by simp)
      simp only [oenc] at hS
      clear d0 d1 d2 d3 d4 d5 hm0
      go_region_held3 (FS w.heap.size w.heap.size w2.heap.size (w2.heap.size + 1) w ⟨6, key, val, stamp, test, most⟩ ⟨6, key, val, stamp, m, most⟩ ⟨12, key, val, stamp, test, most⟩) (first | with_reducible exact FS.drew (by assumption) | with_reducible exact FS.call (by assumption) (by assumption) | with_reducible assumption)
        (first | (go_at_call 8; refine (Check_op ⟨_, _, _, _, _, _⟩ _).mono ?_; rintro e w3 ⟨rfl, hb5⟩; first | rw [hy, chkF] | rw [hzf, chkF]) | (go_at_call 10; refine (Writes_op ⟨_, _, _, _, _, _⟩ _).mono ?_; rintro e w3 ⟨rfl, hb5⟩; rw [hw]))
      all_goals have hf : FS w.heap.size w.heap.size w2.heap.size (w2.heap.size + 1) w ⟨6, key, val, stamp, test, most⟩ ⟨6, key, val, stamp, m, most⟩ ⟨12, key, val, stamp, test, most⟩ w3 := by assumption
      all_goals have hb9 := hf.2.2
      all_goals clear hf
      all_goals go_wp2
      all_goals go_ret
      all_goals exact ⟨rfl, hb9⟩

end Go.Proofs.Ytedlpbpkhmlpnaa.Oq
