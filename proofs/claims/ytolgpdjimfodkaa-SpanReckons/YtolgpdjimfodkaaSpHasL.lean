/- SpanHas: which spans may be, and whether a list has a key, is as the document has it: any spans, any text. Proved: for every list and every text, no condition. -/
import Derived.Test.YtolgpdjimfodkaaSpSame
import Derived.Test.YtolgpdjimfodkaaSpArgs
namespace Go.Proofs.Ytolgpdjimfodkaa.Sp
open Go.RowKit Go.Joins Gk

theorem may_eq (s : Sp) : may s = (decide ((s.fr.size : Int) ≤ 64) && decide ((s.to.size : Int) ≤ 64) && (s.to.toList.isEmpty || Op.bytesLess s.fr.toList s.to.toList)) := by
  rw [less_b4, empty_nix, may]
  have e1 : decide ((s.fr.size : Int) ≤ 64) = decide (s.fr.size ≤ 64) := by rw [Bool.eq_iff_iff, decide_eq_true_eq, decide_eq_true_eq]; omega
  have e2 : decide ((s.to.size : Int) ≤ 64) = decide (s.to.size ≤ 64) := by rw [Bool.eq_iff_iff, decide_eq_true_eq, decide_eq_true_eq]; omega
  rw [e1, e2]

set_option maxHeartbeats 800000 in
theorem rMay_any (s : Sp) (W : World) :
    Calls Try.prog 30 #[sval s] W fun e w' => e = .returned (.bool (may s)) ∧ Below W.heap.size W w' := by
  go_enter Try.func30, Try.ntmps30
  go_wp2
  all_goals
    go_ret
    refine ⟨?_, below_alloc1 _ _⟩
    rw [may_eq]
    first
      | (simp_all; done)
      | (simp_all; omega)

set_option maxHeartbeats 800000 in
theorem rCheck_any (s : Sp) (W : World) :
    Calls Try.prog 20 #[sval s] W fun e w' => e = .returned (.int .i64 (chk s)) ∧ Below W.heap.size W w' := by
  have hM := fun W => rMay_any s W
  cases h : may s with
  | true =>
    rw [h] at hM
    go_enter Try.func20, Try.ntmps20
    go_wp2_with (go_at_call 30; refine (hM _).mono ?_; rintro e w' ⟨rfl, hb'⟩)
    go_ret
    exact ⟨ret_int (by rw [chk, h]; rfl), (below_alloc1 W _).trans (hb'.mono (by simp))⟩
  | false =>
    rw [h] at hM
    go_enter Try.func20, Try.ntmps20
    go_wp2_with (go_at_call 30; refine (hM _).mono ?_; rintro e w' ⟨rfl, hb'⟩)
    go_ret
    exact ⟨ret_int (by rw [chk, h]; rfl), (below_alloc1 W _).trans (hb'.mono (by simp))⟩

set_option maxHeartbeats 1600000 in
theorem rHas_any (key : ByteArray) (a : Option Addr) (cap : Nat) (l : List Sp) (w : World) (hl : Lies w senc a l) (hn : l.length ≤ 9223372036854775807) :
    Calls Try.prog 22 #[.slice a l.length cap, .string key] w fun e w' => e = .returned (.bool (hasL l key)) ∧ Below w.heap.size w w' := by
  go_enter Try.func22, Try.ntmps22
  go_wp2
  go_loopw [5] (fun i wr => ∃ k : Nat, k ≤ l.length ∧ i = .int .i64 k ∧ Below w.heap.size w wr ∧ Hid (∀ j (hj : j < l.length), j < k → l[j].has key = false)) (fun i _ => l.length - (intOf i).toNat)
  case atStart => exact ⟨0, by omega, rfl, Below.refl _ _, fun j _ hj => by omega⟩
  case round =>
    obtain ⟨k, hk, rfl, hbel, HA⟩ := hrel
    by_cases hlt : k < l.length
    · obtain ⟨b, off, rfl, hbl, hc⟩ := (hl.below hbel).at (k := 2) senc_len k hlt
      have i1 : (0 : Int) ≤ (k : Int) := by omega
      have i2 : (k : Int) < (l.length : Int) := by omega
      have c0 := hc 0 _ rfl
      have c1 := hc 1 _ rfl
      rw [Nat.add_zero] at c0
      clear hc
      obtain ⟨x, hx⟩ : ∃ x, l[k] = x := ⟨_, rfl⟩
      rw [hx] at c0 c1
      have HX := hide hx
      clear hx
      have hz := hbel.size
      have hh := has_eq x key
      have hyes : x.has key = true → hasL l key = true := fun h => hasL_true.2 ⟨_, List.getElem_mem hlt, by rw [HX.out]; exact h⟩
      have hno : x.has key = false → ∀ j (hj : j < l.length), j < k + 1 → l[j].has key = false := fun h j hj hjk => by
        by_cases e : j = k
        · subst e; rw [HX.out]; exact h
        · exact HA.out j hj (by omega)
      have HY := hide hyes
      have HNo := hide hno
      clear hyes hno
      cases h1 : Op.bytesLess key.toList x.fr.toList with
      | true =>
        rw [h1] at hh
        simp only [Bool.not_true, Bool.false_and] at hh
        have HH := hide hh
        clear hh
        go_wp2
        go_roundw
        case rel => exact ⟨k + 1, by omega, by go_num, hbel, HNo.out HH.out⟩
        case measure => simp [intOf]; omega
      | false =>
        rw [h1] at hh
        simp only [Bool.not_false, Bool.true_and] at hh
        cases h2 : x.to.toList.isEmpty with
        | true =>
          have h2' : x.to.toList = [] := by simpa using h2
          rw [h2, Bool.true_or] at hh
          have HH := hide hh
          clear hh
          go_wp2
          go_ret
          exact ⟨by rw [HY.out HH.out]; rfl, hbel⟩
        | false =>
          have h2' : ¬ x.to.toList = [] := by simpa using h2
          rw [h2, Bool.false_or] at hh
          cases h3 : Op.bytesLess key.toList x.to.toList with
          | true =>
            rw [h3] at hh
            have HH := hide hh
            clear hh
            go_wp2
            go_ret
            exact ⟨by rw [HY.out HH.out]; rfl, hbel⟩
          | false =>
            rw [h3] at hh
            have HH := hide hh
            clear hh
            go_wp2
            go_roundw
            case rel => exact ⟨k + 1, by omega, by go_num, hbel, HNo.out HH.out⟩
            case measure => simp [intOf]; omega
    · obtain rfl : k = l.length := by omega
      go_wp2
      go_ret
      refine ⟨?_, hbel⟩
      rw [hasL_false (l := l) fun s hs => by obtain ⟨j, hj, rfl⟩ := List.getElem_of_mem hs; exact HA.out j hj hj]
      rfl

/-- a span that is looked at -/
abbrev S2 (w : World) (b o : Nat) (u v : Value) (W : World) : Prop := W.cell? ⟨b, o, none⟩ = some u ∧ W.cell? ⟨b, o + 1, none⟩ = some v ∧ Below w.heap.size w W
theorem S2.drew {w : World} {b o : Nat} {u v : Value} {A : World} (h : S2 w b o u v A) : S2 w b o u v A.drew := ⟨h.1, h.2.1, h.2.2.drew⟩
theorem S2.call {w : World} {b o : Nat} {u v : Value} {A C : World} (hb : b < w.heap.size) (hc : Below A.heap.size A C) (h : S2 w b o u v A) : S2 w b o u v C :=
  ⟨(hc.cell (p := ⟨b, o, none⟩) (Nat.lt_of_lt_of_le hb h.2.2.size)).trans h.1, (hc.cell (p := ⟨b, o + 1, none⟩) (Nat.lt_of_lt_of_le hb h.2.2.size)).trans h.2.1, h.2.2.trans (hc.mono h.2.2.size)⟩

set_option maxHeartbeats 3200000 in
set_option maxRecDepth 100000 in
theorem has_law (a : Option Addr) (ca : Nat) (l : List Sp) (key : ByteArray) (w : World) (ha : SpansAt w a ca l) (_ : key.size ≤ 140737488351232) :
    Calls Try.prog 4 #[.slice a l.length ca, .string key] w fun e w' => e = .returned (.bool true) ∧ Below w.heap.size w w' := by
  have hn : l.length ≤ 9223372036854775807 := Nat.le_trans ha.room ha.max
  have hl := ha.lies
  clear ha
  go_enter Try.func4, Try.ntmps4
  go_wp2
  go_loopw [5] (fun i wr => ∃ k : Nat, k ≤ l.length ∧ i = .int .i64 k ∧ Below w.heap.size w wr) (fun i _ => l.length - (intOf i).toNat)
  case atStart => exact ⟨0, by omega, rfl, Below.refl _ _⟩
  case round =>
    obtain ⟨k, hk, rfl, hbel⟩ := hrel
    by_cases hlt : k < l.length
    · obtain ⟨b, off, rfl, hbl, hc⟩ := (hl.below hbel).at (k := 2) senc_len k hlt
      have i1 : (0 : Int) ≤ (k : Int) := by omega
      have i2 : (k : Int) < (l.length : Int) := by omega
      have c0 := hc 0 _ rfl
      have c1 := hc 1 _ rfl
      rw [Nat.add_zero] at c0
      clear hc
      generalize l[k] = x at *
      have hz := hbel.size
      have q1 := fun W => check_any x W
      have q2 := fun W => rCheck_any x W
      have hcr : chk x = 0 ∨ chk x = 50 := by unfold chk; split <;> simp
      have hne : (chk x != chk x) = false := by simp
      generalize chk x = c at *
      have hS2 : S2 wr b (off + k * 2) (.string x.fr) (.string x.to) wr := ⟨c0, c1, Below.refl _ _⟩
      go_wp2_with fail
      go_region_held3 (S2 wr b (off + k * 2) (.string x.fr) (.string x.to)) (first | exact S2.drew (by assumption) | exact S2.call hbl (by assumption) (by assumption)) (first | (go_at_call 19; refine (q1 _).mono ?_; rintro e w1 ⟨rfl, hb1⟩) | (go_at_call 20; refine (q2 _).mono ?_; rintro e w2 ⟨rfl, hb2⟩))
      have hS3 : S2 wr b (off + k * 2) (.string x.fr) (.string x.to) w2 := by assumption
      have hB2 := hbel.trans (hS3.2.2.mono hz)
      clear q1 q2 hb1 hb2
      go_wp2
      go_roundw
      case rel => exact ⟨k + 1, by omega, by go_num, hB2⟩
      case measure => simp [intOf]; omega
    · have P1 := has_any key a ca l wr (hl.below hbel) hn
      have P2 := fun W (h : Below wr.heap.size wr W) => rHas_any key a ca l W ((hl.below hbel).below h) hn
      have P3 := fun W => works_any W
      have nk : ¬ (k : Int) < (l.length : Int) := by omega
      generalize hasL l key = r at *
      clear hl
      cases r
      all_goals
        go_wp2_with fail
        refine P1.mono ?_
        rintro e w1 ⟨rfl, hb1⟩
        go_wp2_with fail
        refine (P2 _ hb1).mono ?_
        rintro e w2 ⟨rfl, hb2⟩
        go_wp2_with fail
        refine (P3 _).mono ?_
        rintro e w3 ⟨rfl, hb3⟩
        have h12 := hb1.trans (hb2.mono hb1.size)
        have h13 := h12.trans (hb3.mono h12.size)
        have hfin := hbel.trans (h13.mono hbel.size)
        clear P1 P2 P3 hb1 hb2 hb3 h12 h13
        go_wp2
        go_ret
        exact ⟨rfl, hfin⟩

end Go.Proofs.Ytolgpdjimfodkaa.Sp
