/- Layer 8, the document's own answer: in, Key, Writes, May, Check. -/
import Derived.Test.YtkjcfkninmmbhaaOpMay
namespace Go.Proofs.Ytkjcfkninmmbhaa.Oq
open Go.RowKit Go.Joins Go.Proofs.Ytkjcfkninmmbhaa.Gk

theorem stampZ_eq (n : Int) : stampZ n = within n 0 1099511627776 := by
  unfold stampZ stampB within
  rw [Bool.eq_iff_iff]
  simp
  omega

set_option maxRecDepth 100000 in
set_option maxHeartbeats 400000 in
theorem in_ref (n a b : Int) (w : World) :
    Calls Try.prog 26 #[.int .i64 n, .int .i64 a, .int .i64 b] w fun e w' => e = .returned (.bool (within n a b)) ∧ w' = w := by
  unfold within
  by_cases h1 : a ≤ n
  · go_enter Try.func26, Try.ntmps26
    go_wp2
    go_ret
    exact ⟨by simp [h1], rfl⟩
  · have h2 : decide (a ≤ n) = false := decide_eq_false h1
    go_enter Try.func26, Try.ntmps26
    go_wp2
    go_ret
    exact ⟨rfl, rfl⟩

set_option maxRecDepth 100000 in
set_option maxHeartbeats 400000 in
theorem Key_ref (s : ByteArray) (w : World) :
    Calls Try.prog 49 #[.string s] w fun e w' => e = .returned (.bool (keyB s)) ∧ w' = w := by
  cases he : s.size == 0
  · have he' : s.toList.isEmpty = false := (str_empty s).trans he
    have h0 : s.size ≠ 0 := by rw [beq_eq_false_iff_ne] at he; exact he
    have hk : keyB s = decide ((s.size : Int) ≤ 64) := by
      unfold keyB within
      rw [Bool.eq_iff_iff]
      simp
      omega
    rw [hk]
    go_enter Try.func49, Try.ntmps49
    go_wp2
    go_ret
    exact ⟨rfl, rfl⟩
  · have he' : s.toList.isEmpty = true := (str_empty s).trans he
    have h0 : s.size = 0 := by rw [beq_iff_eq] at he; exact he
    have hk : keyB s = false := by
      unfold keyB within
      rw [h0]
      rfl
    rw [hk]
    clear h0
    go_enter Try.func49, Try.ntmps49
    go_wp2
    go_ret
    exact ⟨rfl, rfl⟩

set_option maxRecDepth 100000 in
set_option maxHeartbeats 400000 in
theorem Writes_ref (x : Opn) (w : World) :
    Calls Try.prog 9 #[x.v] w fun e w' => e = .returned (.bool x.writes) ∧ Below w.heap.size w w' := by
  have hb : ∀ o, Below w.heap.size w (w.alloc o) := fun o => (Below.refl _ _).alloc (Nat.le_refl _) o
  go_enter Try.func9, Try.ntmps9
  go_wp2_with fail
  refine (in_ref x.kind 1 4 _).mono ?_
  rintro e w1 ⟨rfl, rfl⟩
  go_wp2
  go_ret
  exact ⟨rfl, hb _⟩

set_option maxRecDepth 100000 in
set_option maxHeartbeats 4000000 in
theorem May_ref (x : Opn) (w : World) :
    Calls Try.prog 24 #[x.v] w fun e w' => e = .returned (.bool x.may) ∧ Below w.heap.size w w' := by
  obtain ⟨W, hW, hbW, hz, hc⟩ := box6 w x
  obtain ⟨kind, key, val, stamp, test, most⟩ := x
  simp only [oenc] at hW hc
  obtain ⟨c0, c1, c2, c3, c4, c5⟩ := hc W (Below.refl _ _)
  by_cases k1 : kind = 1
  · subst k1
    cases hp : keyB key
    · go_enter Try.func24, Try.ntmps24
      go_wp2_with fail
      rw [← hW]
      refine (Key_ref _ _).mono ?_
      rintro e w1 ⟨rfl, rfl⟩
      rw [hp]
      go_wp2
      go_ret
      exact ⟨by simp [Opn.may, Opn.put, hp], by first | exact hbW | exact hW ▸ hbW⟩
    by_cases hv : (val.size : Int) ≤ 8192
    · have hv' : valB val = true := decide_eq_true (by omega)
      cases hs : within stamp 1 1099511627776
      · have hs' : stampB stamp = false := hs
        go_enter Try.func24, Try.ntmps24
        go_wp2_with fail
        rw [← hW]
        refine (Key_ref _ _).mono ?_
        rintro e w1 ⟨rfl, rfl⟩
        rw [hp]
        go_wp2_with fail
        refine (in_ref _ _ _ _).mono ?_
        rintro e w1 ⟨rfl, rfl⟩
        rw [hs]
        go_wp2
        go_ret
        exact ⟨by simp [Opn.may, Opn.put, hp, hv', hs'], by first | exact hbW | exact hW ▸ hbW⟩
      have hs' : stampB stamp = true := hs
      cases ht : within test 0 1099511627776
      · have ht0 : (test == 0) = false := by rw [beq_eq_false_iff_ne]; rintro rfl; revert ht; decide
        go_enter Try.func24, Try.ntmps24
        go_wp2_with fail
        rw [← hW]
        refine (Key_ref _ _).mono ?_
        rintro e w1 ⟨rfl, rfl⟩
        rw [hp]
        go_wp2_with fail
        refine (in_ref _ _ _ _).mono ?_
        rintro e w1 ⟨rfl, rfl⟩
        rw [hs]
        go_wp2_with fail
        refine (in_ref _ _ _ _).mono ?_
        rintro e w1 ⟨rfl, rfl⟩
        rw [ht]
        go_wp2
        go_ret
        exact ⟨by simp [Opn.may, Opn.put, hp, hv', hs', ht0], by first | exact hbW | exact hW ▸ hbW⟩
      cases ht0 : test == 0
      · have ht1 : (test != 0) = true := by rw [bne, ht0]; rfl
        go_enter Try.func24, Try.ntmps24
        go_wp2_with fail
        rw [← hW]
        refine (Key_ref _ _).mono ?_
        rintro e w1 ⟨rfl, rfl⟩
        rw [hp]
        go_wp2_with fail
        refine (in_ref _ _ _ _).mono ?_
        rintro e w1 ⟨rfl, rfl⟩
        rw [hs]
        go_wp2_with fail
        refine (in_ref _ _ _ _).mono ?_
        rintro e w1 ⟨rfl, rfl⟩
        rw [ht]
        go_wp2
        go_ret
        exact ⟨by simp [Opn.may, Opn.put, hp, hv', hs', ht0], by first | exact hbW | exact hW ▸ hbW⟩
      · have ht1 : (test != 0) = false := by rw [bne, ht0]; rfl
        go_enter Try.func24, Try.ntmps24
        go_wp2_with fail
        rw [← hW]
        refine (Key_ref _ _).mono ?_
        rintro e w1 ⟨rfl, rfl⟩
        rw [hp]
        go_wp2_with fail
        refine (in_ref _ _ _ _).mono ?_
        rintro e w1 ⟨rfl, rfl⟩
        rw [hs]
        go_wp2_with fail
        refine (in_ref _ _ _ _).mono ?_
        rintro e w1 ⟨rfl, rfl⟩
        rw [ht]
        go_wp2
        go_ret
        exact ⟨by simp [Opn.may, Opn.put, hp, hv', hs', ht0], by first | exact hbW | exact hW ▸ hbW⟩
    · have hv' : valB val = false := decide_eq_false (by omega)
      go_enter Try.func24, Try.ntmps24
      go_wp2_with fail
      rw [← hW]
      refine (Key_ref _ _).mono ?_
      rintro e w1 ⟨rfl, rfl⟩
      rw [hp]
      go_wp2
      go_ret
      exact ⟨by simp [Opn.may, Opn.put, hp, hv'], by first | exact hbW | exact hW ▸ hbW⟩
  have b1 : (kind == 1) = false := by rw [beq_eq_false_iff_ne]; exact k1
  by_cases k2 : kind = 2
  · subst k2
    cases hp : keyB key
    · go_enter Try.func24, Try.ntmps24
      go_wp2_with fail
      rw [← hW]
      refine (Key_ref _ _).mono ?_
      rintro e w1 ⟨rfl, rfl⟩
      rw [hp]
      go_wp2
      go_ret
      exact ⟨by simp [Opn.may, Opn.put, hp], by first | exact hbW | exact hW ▸ hbW⟩
    by_cases hv : (val.size : Int) ≤ 8192
    · have hv' : valB val = true := decide_eq_true (by omega)
      cases hs : within stamp 1 1099511627776
      · have hs' : stampB stamp = false := hs
        go_enter Try.func24, Try.ntmps24
        go_wp2_with fail
        rw [← hW]
        refine (Key_ref _ _).mono ?_
        rintro e w1 ⟨rfl, rfl⟩
        rw [hp]
        go_wp2_with fail
        refine (in_ref _ _ _ _).mono ?_
        rintro e w1 ⟨rfl, rfl⟩
        rw [hs]
        go_wp2
        go_ret
        exact ⟨by simp [Opn.may, Opn.put, hp, hv', hs'], by first | exact hbW | exact hW ▸ hbW⟩
      have hs' : stampB stamp = true := hs
      cases ht : within test 0 1099511627776
      · have ht' : stampZ test = false := (stampZ_eq test).trans ht
        go_enter Try.func24, Try.ntmps24
        go_wp2_with fail
        rw [← hW]
        refine (Key_ref _ _).mono ?_
        rintro e w1 ⟨rfl, rfl⟩
        rw [hp]
        go_wp2_with fail
        refine (in_ref _ _ _ _).mono ?_
        rintro e w1 ⟨rfl, rfl⟩
        rw [hs]
        go_wp2_with fail
        refine (in_ref _ _ _ _).mono ?_
        rintro e w1 ⟨rfl, rfl⟩
        rw [ht]
        go_wp2
        go_ret
        exact ⟨by simp [Opn.may, Opn.put, hp, hv', hs', ht'], by first | exact hbW | exact hW ▸ hbW⟩
      · have ht' : stampZ test = true := (stampZ_eq test).trans ht
        go_enter Try.func24, Try.ntmps24
        go_wp2_with fail
        rw [← hW]
        refine (Key_ref _ _).mono ?_
        rintro e w1 ⟨rfl, rfl⟩
        rw [hp]
        go_wp2_with fail
        refine (in_ref _ _ _ _).mono ?_
        rintro e w1 ⟨rfl, rfl⟩
        rw [hs]
        go_wp2_with fail
        refine (in_ref _ _ _ _).mono ?_
        rintro e w1 ⟨rfl, rfl⟩
        rw [ht]
        go_wp2
        go_ret
        exact ⟨by simp [Opn.may, Opn.put, hp, hv', hs', ht'], by first | exact hbW | exact hW ▸ hbW⟩
    · have hv' : valB val = false := decide_eq_false (by omega)
      go_enter Try.func24, Try.ntmps24
      go_wp2_with fail
      rw [← hW]
      refine (Key_ref _ _).mono ?_
      rintro e w1 ⟨rfl, rfl⟩
      rw [hp]
      go_wp2
      go_ret
      exact ⟨by simp [Opn.may, Opn.put, hp, hv'], by first | exact hbW | exact hW ▸ hbW⟩
  have b2 : (kind == 2) = false := by rw [beq_eq_false_iff_ne]; exact k2
  by_cases k3 : kind = 3
  · subst k3
    cases hp : keyB key
    · go_enter Try.func24, Try.ntmps24
      go_wp2_with fail
      rw [← hW]
      refine (Key_ref _ _).mono ?_
      rintro e w1 ⟨rfl, rfl⟩
      rw [hp]
      go_wp2
      go_ret
      exact ⟨by simp [Opn.may, Opn.put, hp], by first | exact hbW | exact hW ▸ hbW⟩
    by_cases hv : (val.size : Int) ≤ 8192
    · have hv' : valB val = true := decide_eq_true (by omega)
      cases hs : within stamp 1 1099511627776
      · have hs' : stampB stamp = false := hs
        go_enter Try.func24, Try.ntmps24
        go_wp2_with fail
        rw [← hW]
        refine (Key_ref _ _).mono ?_
        rintro e w1 ⟨rfl, rfl⟩
        rw [hp]
        go_wp2_with fail
        refine (in_ref _ _ _ _).mono ?_
        rintro e w1 ⟨rfl, rfl⟩
        rw [hs]
        go_wp2
        go_ret
        exact ⟨by simp [Opn.may, Opn.put, hp, hv', hs'], by first | exact hbW | exact hW ▸ hbW⟩
      have hs' : stampB stamp = true := hs
      cases ht : within test 0 1099511627776
      · have ht' : stampZ test = false := (stampZ_eq test).trans ht
        go_enter Try.func24, Try.ntmps24
        go_wp2_with fail
        rw [← hW]
        refine (Key_ref _ _).mono ?_
        rintro e w1 ⟨rfl, rfl⟩
        rw [hp]
        go_wp2_with fail
        refine (in_ref _ _ _ _).mono ?_
        rintro e w1 ⟨rfl, rfl⟩
        rw [hs]
        go_wp2_with fail
        refine (in_ref _ _ _ _).mono ?_
        rintro e w1 ⟨rfl, rfl⟩
        rw [ht]
        go_wp2
        go_ret
        exact ⟨by simp [Opn.may, Opn.put, hp, hv', hs', ht'], by first | exact hbW | exact hW ▸ hbW⟩
      · have ht' : stampZ test = true := (stampZ_eq test).trans ht
        go_enter Try.func24, Try.ntmps24
        go_wp2_with fail
        rw [← hW]
        refine (Key_ref _ _).mono ?_
        rintro e w1 ⟨rfl, rfl⟩
        rw [hp]
        go_wp2_with fail
        refine (in_ref _ _ _ _).mono ?_
        rintro e w1 ⟨rfl, rfl⟩
        rw [hs]
        go_wp2_with fail
        refine (in_ref _ _ _ _).mono ?_
        rintro e w1 ⟨rfl, rfl⟩
        rw [ht]
        go_wp2
        go_ret
        exact ⟨by simp [Opn.may, Opn.put, hp, hv', hs', ht'], by first | exact hbW | exact hW ▸ hbW⟩
    · have hv' : valB val = false := decide_eq_false (by omega)
      go_enter Try.func24, Try.ntmps24
      go_wp2_with fail
      rw [← hW]
      refine (Key_ref _ _).mono ?_
      rintro e w1 ⟨rfl, rfl⟩
      rw [hp]
      go_wp2
      go_ret
      exact ⟨by simp [Opn.may, Opn.put, hp, hv'], by first | exact hbW | exact hW ▸ hbW⟩
  have b3 : (kind == 3) = false := by rw [beq_eq_false_iff_ne]; exact k3
  by_cases k4 : kind = 4
  · subst k4
    cases hp : keyB key
    · go_enter Try.func24, Try.ntmps24
      go_wp2_with fail
      rw [← hW]
      refine (Key_ref _ _).mono ?_
      rintro e w1 ⟨rfl, rfl⟩
      rw [hp]
      go_wp2
      go_ret
      exact ⟨by simp [Opn.may, hp], by first | exact hbW | exact hW ▸ hbW⟩
    cases ht : within test 0 1099511627776
    · have ht' : stampZ test = false := (stampZ_eq test).trans ht
      go_enter Try.func24, Try.ntmps24
      go_wp2_with fail
      rw [← hW]
      refine (Key_ref _ _).mono ?_
      rintro e w1 ⟨rfl, rfl⟩
      rw [hp]
      go_wp2_with fail
      refine (in_ref _ _ _ _).mono ?_
      rintro e w1 ⟨rfl, rfl⟩
      rw [ht]
      go_wp2
      go_ret
      exact ⟨by simp [Opn.may, hp, ht'], by first | exact hbW | exact hW ▸ hbW⟩
    have ht' : stampZ test = true := (stampZ_eq test).trans ht
    cases hv : val.size == 0
    · have hv' : val.toList.isEmpty = false := (str_empty val).trans hv
      go_enter Try.func24, Try.ntmps24
      go_wp2_with fail
      rw [← hW]
      refine (Key_ref _ _).mono ?_
      rintro e w1 ⟨rfl, rfl⟩
      rw [hp]
      go_wp2_with fail
      refine (in_ref _ _ _ _).mono ?_
      rintro e w1 ⟨rfl, rfl⟩
      rw [ht]
      go_wp2
      go_ret
      exact ⟨by simp [Opn.may, hp, ht', hv], by first | exact hbW | exact hW ▸ hbW⟩
    have hv' : val.toList.isEmpty = true := (str_empty val).trans hv
    cases hs : stamp == 0
    · go_enter Try.func24, Try.ntmps24
      go_wp2_with fail
      rw [← hW]
      refine (Key_ref _ _).mono ?_
      rintro e w1 ⟨rfl, rfl⟩
      rw [hp]
      go_wp2_with fail
      refine (in_ref _ _ _ _).mono ?_
      rintro e w1 ⟨rfl, rfl⟩
      rw [ht]
      go_wp2
      go_ret
      exact ⟨by simp [Opn.may, hp, ht', hv, hs], by first | exact hbW | exact hW ▸ hbW⟩
    · go_enter Try.func24, Try.ntmps24
      go_wp2_with fail
      rw [← hW]
      refine (Key_ref _ _).mono ?_
      rintro e w1 ⟨rfl, rfl⟩
      rw [hp]
      go_wp2_with fail
      refine (in_ref _ _ _ _).mono ?_
      rintro e w1 ⟨rfl, rfl⟩
      rw [ht]
      go_wp2
      go_ret
      exact ⟨by simp [Opn.may, hp, ht', hv, hs], by first | exact hbW | exact hW ▸ hbW⟩
  have b4 : (kind == 4) = false := by rw [beq_eq_false_iff_ne]; exact k4
  by_cases k5 : kind = 5
  · subst k5
    cases hp : keyB key
    · go_enter Try.func24, Try.ntmps24
      go_wp2_with fail
      rw [← hW]
      refine (Key_ref _ _).mono ?_
      rintro e w1 ⟨rfl, rfl⟩
      rw [hp]
      go_wp2
      go_ret
      exact ⟨by simp [Opn.may, hp], by first | exact hbW | exact hW ▸ hbW⟩
    cases ht : within test 0 1099511627776
    · have ht' : stampZ test = false := (stampZ_eq test).trans ht
      go_enter Try.func24, Try.ntmps24
      go_wp2_with fail
      rw [← hW]
      refine (Key_ref _ _).mono ?_
      rintro e w1 ⟨rfl, rfl⟩
      rw [hp]
      go_wp2_with fail
      refine (in_ref _ _ _ _).mono ?_
      rintro e w1 ⟨rfl, rfl⟩
      rw [ht]
      go_wp2
      go_ret
      exact ⟨by simp [Opn.may, hp, ht'], by first | exact hbW | exact hW ▸ hbW⟩
    have ht' : stampZ test = true := (stampZ_eq test).trans ht
    cases hv : val.size == 0
    · have hv' : val.toList.isEmpty = false := (str_empty val).trans hv
      go_enter Try.func24, Try.ntmps24
      go_wp2_with fail
      rw [← hW]
      refine (Key_ref _ _).mono ?_
      rintro e w1 ⟨rfl, rfl⟩
      rw [hp]
      go_wp2_with fail
      refine (in_ref _ _ _ _).mono ?_
      rintro e w1 ⟨rfl, rfl⟩
      rw [ht]
      go_wp2
      go_ret
      exact ⟨by simp [Opn.may, hp, ht', hv], by first | exact hbW | exact hW ▸ hbW⟩
    have hv' : val.toList.isEmpty = true := (str_empty val).trans hv
    cases hs : stamp == 0
    · go_enter Try.func24, Try.ntmps24
      go_wp2_with fail
      rw [← hW]
      refine (Key_ref _ _).mono ?_
      rintro e w1 ⟨rfl, rfl⟩
      rw [hp]
      go_wp2_with fail
      refine (in_ref _ _ _ _).mono ?_
      rintro e w1 ⟨rfl, rfl⟩
      rw [ht]
      go_wp2
      go_ret
      exact ⟨by simp [Opn.may, hp, ht', hv, hs], by first | exact hbW | exact hW ▸ hbW⟩
    · go_enter Try.func24, Try.ntmps24
      go_wp2_with fail
      rw [← hW]
      refine (Key_ref _ _).mono ?_
      rintro e w1 ⟨rfl, rfl⟩
      rw [hp]
      go_wp2_with fail
      refine (in_ref _ _ _ _).mono ?_
      rintro e w1 ⟨rfl, rfl⟩
      rw [ht]
      go_wp2
      go_ret
      exact ⟨by simp [Opn.may, hp, ht', hv, hs], by first | exact hbW | exact hW ▸ hbW⟩
  have b5 : (kind == 5) = false := by rw [beq_eq_false_iff_ne]; exact k5
  by_cases k6 : kind = 6
  · subst k6
    by_cases hp : (key.size : Int) ≤ 64
    · have hp' : key.size ≤ 64 := by omega
      cases hq : within most 1 100
      · go_enter Try.func24, Try.ntmps24
        go_wp2_with fail
        rw [← hW]
        refine (in_ref _ _ _ _).mono ?_
        rintro e w1 ⟨rfl, rfl⟩
        rw [hq]
        go_wp2
        go_ret
        exact ⟨by simp [Opn.may, hp', hq], by first | exact hbW | exact hW ▸ hbW⟩
      cases hv : val.size == 0
      · have hv' : val.toList.isEmpty = false := (str_empty val).trans hv
        go_enter Try.func24, Try.ntmps24
        go_wp2_with fail
        rw [← hW]
        refine (in_ref _ _ _ _).mono ?_
        rintro e w1 ⟨rfl, rfl⟩
        rw [hq]
        go_wp2
        go_ret
        exact ⟨by simp [Opn.may, hp', hq, hv], by first | exact hbW | exact hW ▸ hbW⟩
      have hv' : val.toList.isEmpty = true := (str_empty val).trans hv
      cases hs : stamp == 0
      · go_enter Try.func24, Try.ntmps24
        go_wp2_with fail
        rw [← hW]
        refine (in_ref _ _ _ _).mono ?_
        rintro e w1 ⟨rfl, rfl⟩
        rw [hq]
        go_wp2
        go_ret
        exact ⟨by simp [Opn.may, hp', hq, hv, hs], by first | exact hbW | exact hW ▸ hbW⟩
      · go_enter Try.func24, Try.ntmps24
        go_wp2_with fail
        rw [← hW]
        refine (in_ref _ _ _ _).mono ?_
        rintro e w1 ⟨rfl, rfl⟩
        rw [hq]
        go_wp2
        go_ret
        exact ⟨by simp [Opn.may, hp', hq, hv, hs], by first | exact hbW | exact hW ▸ hbW⟩
    · have hp' : ¬ key.size ≤ 64 := by omega
      go_enter Try.func24, Try.ntmps24
      go_wp2
      go_ret
      subst hW
      exact ⟨by simp [Opn.may, hp'], hbW⟩
  have b6 : (kind == 6) = false := by rw [beq_eq_false_iff_ne]; exact k6
  go_enter Try.func24, Try.ntmps24
  go_wp2
  go_ret
  subst hW
  exact ⟨by simp [Opn.may, k1, k2, k3, k4, k5, k6], hbW⟩

set_option maxRecDepth 100000 in
set_option maxHeartbeats 400000 in
theorem Check_ref (x : Opn) (w : World) :
    Calls Try.prog 7 #[x.v] w fun e w' => e = .returned (.int .i64 (chkI x.may)) ∧ Below w.heap.size w w' := by
  have hb : ∀ o, Below w.heap.size w (w.alloc o) := fun o => (Below.refl _ _).alloc (Nat.le_refl _) o
  go_enter Try.func7, Try.ntmps7
  go_wp2_with fail
  refine (May_ref x _).mono ?_
  rintro e w1 ⟨rfl, hb1⟩
  have hb2 := (hb _).trans (hb1.mono (by simp))
  cases hm : x.may
  · go_wp2
    go_ret
    exact ⟨by rw [hm]; rfl, hb2⟩
  · go_wp2
    go_ret
    exact ⟨by rw [hm]; rfl, hb2⟩

end Go.Proofs.Ytkjcfkninmmbhaa.Oq
