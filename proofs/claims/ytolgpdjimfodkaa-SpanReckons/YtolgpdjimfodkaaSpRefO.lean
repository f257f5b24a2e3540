/- Walks over the document's answer: wrong, Of, Normal; the code's calls at any lists. -/
import Derived.Test.YtolgpdjimfodkaaSpRefM
import Derived.Test.YtolgpdjimfodkaaSpCallsU
namespace Go.Proofs.Ytolgpdjimfodkaa.Sp
open Go.RowKit Go.Joins Gk

/-- what two lists come to -/
def reck (K : Bool → Bool → Bool) (la lb : List Sp) : List Sp × Int := if wrongL la ≠ 0 then ([], wrongL la) else if wrongL lb ≠ 0 then ([], wrongL lb) else (nrm K la lb, 0)
/-- short, or too long -/
def Fit (l : List Sp) : Prop := l.length ≤ 60 ∨ 4096 < l.length
theorem wrongL_vals (l : List Sp) : wrongL l = 0 ∨ wrongL l = 2 ∨ wrongL l = 50 := by unfold wrongL; split <;> (try split) <;> simp
theorem wrongL_no {l : List Sp} {k : Nat} (hk : k < l.length) (hl : ¬ 4096 < l.length) (h : may l[k] = false) : wrongL l = 50 := by
  rw [wrongL, if_neg hl, if_neg]
  intro e
  rw [List.all_eq_true.1 e _ (List.getElem_mem hk)] at h; cases h
theorem wrongL_yes {l : List Sp} (hl : ¬ 4096 < l.length) (h : ∀ j (hj : j < l.length), may l[j] = true) : wrongL l = 0 := by
  rw [wrongL, if_neg hl, if_pos]
  refine List.all_eq_true.2 fun x hx => ?_
  obtain ⟨j, hj, rfl⟩ := List.getElem_of_mem hx
  exact h j hj

set_option maxHeartbeats 1600000 in
theorem rWrong_any (a : Option Addr) (cap : Nat) (l : List Sp) (w : World) (hl : Lies w senc a l) (hn : l.length ≤ 9223372036854775807) :
    Calls Try.prog 28 #[.slice a l.length cap] w fun e w' => e = .returned (.int .i64 (wrongL l)) ∧ Below w.heap.size w w' := by
  by_cases h0 : 4096 < l.length
  · have h0' : (4096 : Int) < (l.length : Int) := by omega
    rw [show wrongL l = 2 by rw [wrongL, if_pos h0]]
    go_enter Try.func28, Try.ntmps28
    go_wp2
    go_ret
    exact ⟨rfl, Below.refl _ _⟩
  · have h0' : ¬ (4096 : Int) < (l.length : Int) := by omega
    go_enter Try.func28, Try.ntmps28
    go_wp2
    go_loopw [3] (fun i wr => ∃ k : Nat, k ≤ l.length ∧ i = .int .i64 k ∧ Below w.heap.size w wr ∧ Hid (∀ j (hj : j < l.length), j < k → may l[j] = true)) (fun i _ => l.length - (intOf i).toNat)
    case atStart => exact ⟨0, by omega, rfl, Below.refl _ _, fun j _ hj => by omega⟩
    case round =>
      obtain ⟨k, hk, rfl, hbel, HA⟩ := hrel
      by_cases hlt : k < l.length
      · obtain ⟨b, off, rfl, hbl, hc⟩ := (hl.below hbel).at (k := 2) senc_len k hlt
        have i1 : (0 : Int) ≤ (k : Int) := by omega
        have i2 : (k : Int) < (l.length : Int) := by omega
        have c0 := hc 0 _ rfl
        have c1 := hc 1 _ rfl
        rw [Nat.add_zero] at c0
        have HW := hide (fun h => wrongL_no hlt h0 h)
        have hM := rMay_any l[k] wr
        have HB := hide (show ∀ b, may l[k] = b → b = true → ∀ j (hj : j < l.length), j < k + 1 → may l[j] = true from fun b e1 e2 j hj h => by
          by_cases h' : j < k
          · exact HA.out j hj h'
          · have : j = k := by omega
            subst this; rw [e1, e2])
        obtain ⟨s, hs⟩ : ∃ s, l[k] = s := ⟨_, rfl⟩
        rw [hs] at c0 c1 hM HW HB
        unfold sval at hM
        clear hc hs
        cases hm : may s with
        | true =>
          have HB' := hide (HB.out true hm rfl)
          rw [hm] at hM
          clear HB HW hm
          go_wp2_with (go_at_call 30; refine hM.mono ?_; rintro e w' ⟨rfl, hb'⟩)
          go_roundw
          case rel => exact ⟨k + 1, by omega, by go_num, hbel.trans (hb'.mono hbel.size), HB'⟩
          case measure => simp [intOf]; omega
        | false =>
          have HW' := hide (HW.out hm)
          rw [hm] at hM
          clear HB HW hm
          go_wp2_with (go_at_call 30; refine hM.mono ?_; rintro e w' ⟨rfl, hb'⟩)
          go_ret
          exact ⟨ret_int HW'.out.symm, hbel.trans (hb'.mono hbel.size)⟩
      · go_wp2
        go_ret
        exact ⟨ret_int (wrongL_yes h0 fun j hj => HA.out j hj (by omega)).symm, hbel⟩

set_option maxHeartbeats 3200000 in
theorem rOf_any {K : Bool → Bool → Bool} (h0 : K false false = false) (how : Int) (a b : Option Addr) (ca cb : Nat) (la lb : List Sp) (w : World) (hla : Lies w senc a la) (hlb : Lies w senc b lb) (hna : la.length ≤ 9223372036854775807) (hnb : lb.length ≤ 9223372036854775807) (hfa : Fit la) (hfb : Fit lb)
    (hin : ∀ key W, Below w.heap.size w W → la.length ≤ 200000 → lb.length ≤ 200000 → Calls Try.prog 40 #[.slice a la.length ca, .slice b lb.length cb, .string key, .int .i64 how] W fun e w' => e = .returned (.bool (K (hasL la key) (hasL lb key))) ∧ Below W.heap.size W w') :
    Calls Try.prog 16 #[.slice a la.length ca, .slice b lb.length cb, .int .i64 how] w fun e w' => ∃ v', e = .returned (.tuple #[v', .int .i64 (reck K la lb).2]) ∧ w'.ownsRow w.heap.size SpT 2 v' (reck K la lb).1.length (rc senc (reck K la lb).1) ∧ Below w.heap.size w w' := by
  have hWa := rWrong_any a ca la w hla hna
  have hWb := fun W (hb : Below w.heap.size w W) => rWrong_any b cb lb W (hlb.below hb) hnb
  by_cases ha : wrongL la = 0
  · rw [ha] at hWa
    by_cases hb : wrongL lb = 0
    · rw [hb] at hWb
      have hR : reck K la lb = (nrm K la lb, 0) := by unfold reck; rw [if_neg (by simpa using ha), if_neg (by simpa using hb)]
      obtain ⟨l1, m1⟩ := wrongL_may ha
      obtain ⟨l2, m2⟩ := wrongL_may hb
      have n1 : la.length ≤ 60 := by rcases hfa with h | h <;> omega
      have n2 : lb.length ≤ 60 := by rcases hfb with h | h <;> omega
      have hMd := fun W (hb : Below w.heap.size w W) => rMade_any h0 how a b ca cb la lb W (hla.below hb) (hlb.below hb) m1 m2 (by omega) (fun key V hV => hin key V (hb.trans (hV.mono hb.size)) (by omega) (by omega))
      have hlen := (nrm_made h0 m1 m2).2.2.2
      rw [hR]
      generalize nrm K la lb = l at *
      have hl' : ¬ (4096 : Int) < (l.length : Int) := by omega
      clear hin hla hlb ha hb m1 m2 hR
      go_enter Try.func16, Try.ntmps16
      go_wp2_with fail
      refine hWa.mono ?_
      rintro e w1 ⟨rfl, hb1⟩
      go_wp2_with fail
      refine (hWb _ hb1).mono ?_
      rintro e w2 ⟨rfl, hb2⟩
      have hB := hb1.trans (hb2.mono hb1.size)
      have hM := hMd w2 hB
      clear hWa hWb hMd hb1 hb2
      go_wp2_with fail
      refine hM.mono ?_
      rintro e w3 ⟨v3, rfl, ho, hb3⟩
      obtain ⟨a3, c3, rfl⟩ := own_slice ho
      have HO := hide (own_mono ho hB.size)
      have hB3 := hB.trans (hb3.mono hB.size)
      clear hM ho hb3
      go_wp2
      go_ret2
      exact ⟨_, rfl, HO.out, hB3⟩
    · have hR : reck K la lb = ([], wrongL lb) := by unfold reck; rw [if_neg (by simpa using ha), if_pos hb]
      rw [hR]
      generalize wrongL lb = c at *
      have hb' : (c != 0) = true := by simpa using hb
      clear hin
      go_enter Try.func16, Try.ntmps16
      go_wp2_with fail
      refine hWa.mono ?_
      rintro e w1 ⟨rfl, hb1⟩
      go_wp2_with fail
      refine (hWb _ hb1).mono ?_
      rintro e w2 ⟨rfl, hb2⟩
      have hB := hb1.trans (hb2.mono hb1.size)
      go_wp2
      go_ret2
      exact ⟨_, rfl, World.ownsRow_nil _ _ _ _, hB⟩
  · have hR : reck K la lb = ([], wrongL la) := by unfold reck; rw [if_pos ha]
    rw [hR]
    generalize wrongL la = c at *
    have ha' : (c != 0) = true := by simpa using ha
    clear hin
    go_enter Try.func16, Try.ntmps16
    go_wp2_with fail
    refine hWa.mono ?_
    rintro e w1 ⟨rfl, hb1⟩
    go_wp2
    go_ret2
    exact ⟨_, rfl, World.ownsRow_nil _ _ _ _, hb1⟩

/-- the code's reckon, at any lists -/
theorem reckon_any {g : Nat} {K : Bool → Bool → Bool} (hK : Keeps g K) (h0 : K false false = false) (a b : Option Addr) (ca cb : Nat) (la lb : List Sp) (w : World) (hla : Lies w senc a la) (hlb : Lies w senc b lb) (hna : la.length ≤ 9223372036854775807) (hnb : lb.length ≤ 9223372036854775807) (hfa : Fit la) (hfb : Fit lb) :
    Calls Try.prog 24 #[rval g, .slice a la.length ca, .slice b lb.length cb] w fun e w' => ∃ v', e = .returned (.tuple #[v', .int .i64 (reck K la lb).2]) ∧ w'.ownsRow w.heap.size SpT 2 v' (reck K la lb).1.length (rc senc (reck K la lb).1) ∧ Below w.heap.size w w' := by
  have hc1 := fun W (hb : Below w.heap.size w W) => checkList_any a ca la W (hla.below hb) hna
  have hc2 := fun W (hb : Below w.heap.size w W) => checkList_any b cb lb W (hlb.below hb) hnb
  by_cases ha : wrongL la = 0
  · by_cases hb : wrongL lb = 0
    · have hR : reck K la lb = (nrm K la lb, 0) := by unfold reck; rw [if_neg (by simpa using ha), if_neg (by simpa using hb)]
      obtain ⟨l1, m1⟩ := wrongL_may ha
      obtain ⟨l2, m2⟩ := wrongL_may hb
      have n1 : la.length ≤ 60 := by rcases hfa with h | h <;> omega
      have n2 : lb.length ≤ 60 := by rcases hfb with h | h <;> omega
      rw [hR]
      exact reckon_ok hK h0 a b ca cb la lb w hla hlb m1 m2 (by omega)
    · have hR : reck K la lb = ([], wrongL lb) := by unfold reck; rw [if_neg (by simpa using ha), if_pos hb]
      rw [hR]
      rw [ha] at hc1
      generalize wrongL lb = c at *
      have hb' : (c != 0) = true := by simpa using hb
      have hb0 := below_alloc1 w (.cells #[.func (.func 35) #[] #[], .func (.func g) #[] #[]] 43)
      clear hK hR
      go_enter Try.func24, Try.ntmps24
      go_wp2_with fail
      refine (hc1 _ hb0).mono ?_
      rintro e w1 ⟨rfl, hb1⟩
      have hb1' : Below w.heap.size w w1 := hb0.trans (hb1.mono (by simp))
      go_wp2_with fail
      refine (hc2 _ hb1').mono ?_
      rintro e w2 ⟨rfl, hb2⟩
      have hB := hb1'.trans (hb2.mono hb1'.size)
      go_wp2
      go_ret2
      exact ⟨_, rfl, World.ownsRow_nil _ _ _ _, hB⟩
  · have hR : reck K la lb = ([], wrongL la) := by unfold reck; rw [if_pos ha]
    rw [hR]
    generalize wrongL la = c at *
    have ha' : (c != 0) = true := by simpa using ha
    have hb0 := below_alloc1 w (.cells #[.func (.func 35) #[] #[], .func (.func g) #[] #[]] 43)
    clear hK hR
    go_enter Try.func24, Try.ntmps24
    go_wp2_with fail
    refine (hc1 _ hb0).mono ?_
    rintro e w1 ⟨rfl, hb1⟩
    have hb1' : Below w.heap.size w w1 := hb0.trans (hb1.mono (by simp))
    go_wp2
    go_ret2
    exact ⟨_, rfl, World.ownsRow_nil _ _ _ _, hb1'⟩

set_option maxHeartbeats 1600000 in
theorem Union_any (a b : Option Addr) (ca cb : Nat) (la lb : List Sp) (w : World) (hla : Lies w senc a la) (hlb : Lies w senc b lb) (hna : la.length ≤ 9223372036854775807) (hnb : lb.length ≤ 9223372036854775807) (hfa : Fit la) (hfb : Fit lb) :
    Calls Try.prog 13 #[.slice a la.length ca, .slice b lb.length cb] w fun e w' => ∃ v', e = .returned (.tuple #[v', .int .i64 (reck kOr la lb).2]) ∧ w'.ownsRow w.heap.size SpT 2 v' (reck kOr la lb).1.length (rc senc (reck kOr la lb).1) ∧ Below w.heap.size w w' := by
  have hR := fun W (hb : Below w.heap.size w W) => reckon_any unionRule_keeps rfl a b ca cb la lb W (hla.below hb) (hlb.below hb) hna hnb hfa hfb
  generalize reck kOr la lb = R at *
  go_enter Try.func13, Try.ntmps13
  go_wp2_with fail
  refine (unionRule_any _).mono ?_
  rintro e w1 ⟨rfl, hb1⟩
  go_wp2_with fail
  refine (hR _ hb1).mono ?_
  rintro e w2 ⟨v2, rfl, hr2, hb2⟩
  have hb3 : Below w.heap.size w w2 := hb1.trans (hb2.mono hb1.size)
  have hr3 := own_mono hr2 hb1.size
  clear hR hr2
  go_wp2
  go_ret2
  exact ⟨_, rfl, hr3, hb3⟩
set_option maxHeartbeats 1600000 in
theorem Meet_any (a b : Option Addr) (ca cb : Nat) (la lb : List Sp) (w : World) (hla : Lies w senc a la) (hlb : Lies w senc b lb) (hna : la.length ≤ 9223372036854775807) (hnb : lb.length ≤ 9223372036854775807) (hfa : Fit la) (hfb : Fit lb) :
    Calls Try.prog 14 #[.slice a la.length ca, .slice b lb.length cb] w fun e w' => ∃ v', e = .returned (.tuple #[v', .int .i64 (reck kAnd la lb).2]) ∧ w'.ownsRow w.heap.size SpT 2 v' (reck kAnd la lb).1.length (rc senc (reck kAnd la lb).1) ∧ Below w.heap.size w w' := by
  have hR := fun W (hb : Below w.heap.size w W) => reckon_any meetRule_keeps rfl a b ca cb la lb W (hla.below hb) (hlb.below hb) hna hnb hfa hfb
  generalize reck kAnd la lb = R at *
  go_enter Try.func14, Try.ntmps14
  go_wp2_with fail
  refine (meetRule_any _).mono ?_
  rintro e w1 ⟨rfl, hb1⟩
  go_wp2_with fail
  refine (hR _ hb1).mono ?_
  rintro e w2 ⟨v2, rfl, hr2, hb2⟩
  have hb3 : Below w.heap.size w w2 := hb1.trans (hb2.mono hb1.size)
  have hr3 := own_mono hr2 hb1.size
  clear hR hr2
  go_wp2
  go_ret2
  exact ⟨_, rfl, hr3, hb3⟩
set_option maxHeartbeats 1600000 in
theorem Minus_any (a b : Option Addr) (ca cb : Nat) (la lb : List Sp) (w : World) (hla : Lies w senc a la) (hlb : Lies w senc b lb) (hna : la.length ≤ 9223372036854775807) (hnb : lb.length ≤ 9223372036854775807) (hfa : Fit la) (hfb : Fit lb) :
    Calls Try.prog 15 #[.slice a la.length ca, .slice b lb.length cb] w fun e w' => ∃ v', e = .returned (.tuple #[v', .int .i64 (reck kNot la lb).2]) ∧ w'.ownsRow w.heap.size SpT 2 v' (reck kNot la lb).1.length (rc senc (reck kNot la lb).1) ∧ Below w.heap.size w w' := by
  have hR := fun W (hb : Below w.heap.size w W) => reckon_any minusRule_keeps rfl a b ca cb la lb W (hla.below hb) (hlb.below hb) hna hnb hfa hfb
  generalize reck kNot la lb = R at *
  go_enter Try.func15, Try.ntmps15
  go_wp2_with fail
  refine (minusRule_any _).mono ?_
  rintro e w1 ⟨rfl, hb1⟩
  go_wp2_with fail
  refine (hR _ hb1).mono ?_
  rintro e w2 ⟨v2, rfl, hr2, hb2⟩
  have hb3 : Below w.heap.size w w2 := hb1.trans (hb2.mono hb1.size)
  have hr3 := own_mono hr2 hb1.size
  clear hR hr2
  go_wp2
  go_ret2
  exact ⟨_, rfl, hr3, hb3⟩

theorem fit_nil : Fit [] := Or.inl (by simp)
set_option maxHeartbeats 1600000 in
theorem Normal_any (a : Option Addr) (ca : Nat) (la : List Sp) (w : World) (hla : Lies w senc a la) (hna : la.length ≤ 9223372036854775807) (hfa : Fit la) :
    Calls Try.prog 10 #[.slice a la.length ca] w fun e w' => ∃ v', e = .returned (.tuple #[v', .int .i64 (reck kOr la []).2]) ∧ w'.ownsRow w.heap.size SpT 2 v' (reck kOr la []).1.length (rc senc (reck kOr la []).1) ∧ Below w.heap.size w w' := by
  have hR := fun W (hb : Below w.heap.size w W) => reckon_any unionRule_keeps rfl a none ca 0 la [] W (hla.below hb) (Or.inl rfl) hna (by simp) hfa fit_nil
  generalize reck kOr la [] = R at *
  go_enter Try.func10, Try.ntmps10
  go_wp2_with fail
  refine (unionRule_any _).mono ?_
  rintro e w1 ⟨rfl, hb1⟩
  go_wp2_with fail
  refine (hR _ hb1).mono ?_
  rintro e w2 ⟨v2, rfl, hr2, hb2⟩
  have hb3 : Below w.heap.size w w2 := hb1.trans (hb2.mono hb1.size)
  have hr3 := own_mono hr2 hb1.size
  clear hR hr2
  go_wp2
  go_ret2
  exact ⟨_, rfl, hr3, hb3⟩
set_option maxHeartbeats 1600000 in
theorem rNormal_any (a : Option Addr) (ca : Nat) (la : List Sp) (w : World) (hla : Lies w senc a la) (hna : la.length ≤ 9223372036854775807) (hfa : Fit la) :
    Calls Try.prog 11 #[.slice a la.length ca] w fun e w' => ∃ v', e = .returned (.tuple #[v', .int .i64 (reck kOr la []).2]) ∧ w'.ownsRow w.heap.size SpT 2 v' (reck kOr la []).1.length (rc senc (reck kOr la []).1) ∧ Below w.heap.size w w' := by
  have hR := rOf_any (K := kOr) rfl 0 a none ca 0 la [] w hla (Or.inl rfl) hna (by simp) hfa fit_nil (fun key W hb h1 h2 => in_kOr a none ca 0 la [] key W (hla.below hb) (Or.inl rfl) h1 h2)
  generalize reck kOr la [] = R at *
  go_enter Try.func11, Try.ntmps11
  go_wp2_with fail
  refine hR.mono ?_
  rintro e w2 ⟨v2, rfl, hr2, hb2⟩
  clear hR
  go_wp2
  go_ret2
  exact ⟨_, rfl, hr2, hb2⟩

end Go.Proofs.Ytolgpdjimfodkaa.Sp
