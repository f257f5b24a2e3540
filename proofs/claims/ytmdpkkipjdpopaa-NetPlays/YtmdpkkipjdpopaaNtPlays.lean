/- NetPlays: a net under any calls answers as the document has it. Proved: for all node counts and all lists of calls, no condition. -/
import Derived.Test.YtmdpkkipjdpopaaRtStepC
import Derived.Test.YtmdpkkipjdpopaaRtSame
namespace Go.Proofs.Ytmdpkkipjdpopaa.Nk
open Go.RowKit Go.Joins Gk
attribute [local go_sem ↓] Go.wp_at_zero Go.wp_at_succ

theorem step_any {w W : World} {bn br : Nat} {S : Nst} (hd : Duo w W bn br S S) (hok : S.Ok) (x : ActV) (hx : x.Ok) : StepAt w W bn br x := by
  cases ho : x.own
  · exact step_a hd hok x hx ho
  · by_cases hl : S.ls.length = 0
    · exact step_b hd hok x hx ho hl
    · exact step_c hd hok x hx ho (by omega)

set_option maxHeartbeats 3200000 in
set_option maxRecDepth 100000 in
theorem plays_law (n : Int) (a : Option Addr) (cap : Nat) (ac : List ActV) (w : World) (wf : (Lit.int .i64 n).wf = true) (hl : ActsAt w a cap ac) :
    Calls Try.prog 3 #[.int .i64 n, .slice a ac.length cap] w fun e w' => e = .returned (.bool true) ∧ Below w.heap.size w w' := by
  have hnb := bounds_i64 wf
  have hrm := hl.room
  have hmx := hl.max
  by_cases hbad : n < 1 ∨ 16 < n
  · have h1 := fun W => new_bad n W hbad
    have h2 := fun W => rnew_bad n W hbad
    go_enter Try.func3, Try.ntmps3
    go_wp2_with (first | (go_at_call 8; refine (h1 _).mono ?_; rintro e w1 ⟨rfl, rfl⟩) | (go_at_call 9; refine (h2 _).mono ?_; rintro e w2 ⟨rfl, rfl⟩))
    go_loopw [9] (fun i wr => i = .int .i64 0 ∧ wr = w2) (fun _ _ => 0)
    case atStart => exact ⟨rfl, rfl⟩
    case round =>
      obtain ⟨rfl, rfl⟩ := hrel
      go_wp2_with (first | (go_at_call 12; refine (works_any _).mono ?_; rintro e w3 ⟨rfl, hb3⟩))
      go_ret
      exact ⟨rfl, hb3⟩
  · obtain ⟨m, rfl⟩ : ∃ m : Nat, n = (m : Int) := ⟨n.toNat, by omega⟩
    have m1 : 1 ≤ m := by omega
    have m2 : m ≤ 16 := by omega
    clear hbad
    go_enter Try.func3, Try.ntmps3
    go_wp2_with fail
    refine (new_ok m _ (by omega) (by omega) (above w) (Nat.le_refl _)).mono ?_
    rintro e w0 ⟨bn, rfl, -, hh0, hb0⟩
    go_wp2_with fail
    refine (rnew_ok m _ m1 m2 (above w) (fresh_above w hb0.size)).mono ?_
    rintro e w1 ⟨br, rfl, hr1, hb1⟩
    have hd1 : Duo w w1 bn br ⟨m, 0, [], []⟩ ⟨m, 0, [], []⟩ := ⟨hh0.below hb1, hr1, hb0.trans (hb1.mono hb0.size)⟩
    clear hh0 hb0 hr1 hb1
    go_wp2
    go_loopw [9] (fun i wr => ∃ (k : Nat) (S : Nst), k ≤ ac.length ∧ k ≤ 200 ∧ i = .int .i64 k ∧ Hid (Duo w wr bn br S S) ∧ S.Ok) (fun i _ => 200 - (intOf i).toNat)
    case atStart => exact ⟨0, ⟨m, 0, [], []⟩, by omega, by omega, rfl, hd1, Nst.Ok.new m1 m2⟩
    case round =>
      clear hd1
      obtain ⟨k, S, hk, hk1, rfl, HD, hok⟩ := hrel
      by_cases hlt : k < ac.length ∧ k < 200
      · obtain ⟨hlt1, hlt2⟩ := hlt
        have j1 : (k : Int) < (ac.length : Int) := by omega
        have j2 : (k : Int) < 200 := by omega
        have j0 : (0 : Int) ≤ (k : Int) := by omega
        obtain ⟨b, off, rfl, hbl, hc⟩ := (hl.lies.below HD.out.below).at aenc_len k hlt1
        have hx := hl.each ac[k] (List.getElem_mem hlt1)
        have q0 := hc 0 _ rfl
        have q1 := hc 1 _ rfl
        have q2 := hc 2 _ rfl
        have q3 := hc 3 _ rfl
        have q4 := hc 4 _ rfl
        have q5 := hc 5 _ rfl
        rw [Nat.add_zero] at q0
        clear hc
        generalize ac[k] = x at *
        have hSt := step_any HD.out hok x hx
        unfold StepAt at hSt
        go_wp2_with (first | (go_at_call 10; refine hSt.mono ?_; rintro e w2 ⟨rfl, S2, hd2, hok2⟩; have HD2 := hide hd2; clear hd2) | (go_at_call 11; refine (same_any HD2.out hok2).mono ?_; rintro e w3 ⟨rfl, hb3⟩))
        go_roundw
        case rel => exact ⟨k + 1, S2, by omega, by omega, by go_num, HD2.out.later hb3, hok2⟩
        case measure => simp [intOf]; omega
      · have jn : ¬ ((k : Int) < (ac.length : Int) ∧ (k : Int) < 200) := by omega
        have hd := HD.out
        by_cases hq : k < ac.length
        · have j1 : (k : Int) < (ac.length : Int) := by omega
          have j2 : ¬ (k : Int) < 200 := by omega
          go_wp2_with (first | (go_at_call 12; refine (works_any _).mono ?_; rintro e w3 ⟨rfl, hb3⟩))
          go_ret
          exact ⟨rfl, hd.below.trans (hb3.mono hd.below.size)⟩
        · have j1 : ¬ (k : Int) < (ac.length : Int) := by omega
          go_wp2_with (first | (go_at_call 12; refine (works_any _).mono ?_; rintro e w3 ⟨rfl, hb3⟩))
          go_ret
          exact ⟨rfl, hd.below.trans (hb3.mono hd.below.size)⟩

end Go.Proofs.Ytmdpkkipjdpopaa.Nk
