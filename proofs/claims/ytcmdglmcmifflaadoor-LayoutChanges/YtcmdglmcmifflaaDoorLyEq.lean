/- Walks over layout.go: Equal, End, Owner. -/
import Derived.Test.YtcmdglmcmifflaaDoorLyTo
import Derived.Test.YtcmdglmcmifflaaDoorRgMet
namespace Go.Proofs.YtcmdglmcmifflaaDoor.Ly
open Go.RowKit Go.Joins Go.Sort Gk Rg

set_option maxHeartbeats 3200000 in
theorem seq_any (a b : Option Addr) (c d : Nat) (l m : List Int) (w : World) (ha : Lies w ienc a l) (hb : Lies w ienc b m) (hl : l.length ≤ 9223372036854775807) :
    Calls Tryd.prog 44 #[.slice a l.length c, .slice b m.length d] w fun e w' => e = .returned (.bool (decide (l = m))) ∧ Gr w w' := by
  by_cases hlen : l.length = m.length
  · have HLE := hide hlen
    clear hlen
    obtain ⟨n, hn⟩ : ∃ n, l.length = n := ⟨_, rfl⟩
    have HN := hide hn
    have HMN := hide (HLE.out.symm.trans hn)
    rw [hn, HMN.out]
    rw [hn] at hl
    clear hn HLE
    go_enter Tryd.func44, Tryd.ntmps44
    go_wp2
    go_loopw [13] (fun i wr => ∃ k : Nat, k ≤ n ∧ i = .int .i64 k ∧ Gr w wr ∧ Hid (l.take k = m.take k)) (fun i _ => n - (intOf i).toNat)
    case atStart => exact ⟨0, Nat.zero_le _, rfl, Gr.refl _, by simp [Hid]⟩
    case round =>
      obtain ⟨k, hk, rfl, hG, HT⟩ := hrel
      have HG := hide hG
      clear hG
      by_cases hlt : k < n
      · have i1 : (k : Int) < (n : Int) := by omega
        have hkl : k < l.length := by rw [HN.out]; exact hlt
        have hkm : k < m.length := by rw [HMN.out]; exact hlt
        obtain ⟨b1, o1, rfl, _, hc1⟩ := (ha.below HG.out.below).at ienc_len k hkl
        obtain ⟨b2, o2, rfl, _, hc2⟩ := (hb.below HG.out.below).at ienc_len k hkm
        have c1 := hc1 0 _ rfl
        have c2 := hc2 0 _ rfl
        rw [Nat.mul_one, Nat.add_zero] at c1 c2
        have e1 := hide (List.take_succ_eq_append_getElem hkl)
        have e2 := hide (List.take_succ_eq_append_getElem hkm)
        have HNE := hide (fun (h : ¬ l[k] = m[k]) => (show decide (l = m) = false from decide_eq_false fun e => h (by simp [e])))
        generalize l[k] = x at c1 e1 HNE
        generalize m[k] = y at c2 e2 HNE
        clear hc1 hc2 hkl hkm ha hb
        by_cases hxy : x = y
        · subst hxy
          go_wp2
          go_quiet (fail)
          go_wp2
          go_roundw
          case rel => exact ⟨k + 1, by omega, by go_num, HG.out.drewN _, by show _ = _; rw [e1.out, e2.out, HT.out]⟩
          case measure => simp [intOf]; omega
        · have HF := hide (HNE.out hxy)
          go_wp2
          go_quiet (fail)
          go_wp2
          go_ret
          exact ⟨by rw [HF.out]; rfl, HG.out.drewN _⟩
      · have i1 : ¬ (k : Int) < (n : Int) := by omega
        have HF := hide (show decide (l = m) = true from decide_eq_true (by have := HT.out; rw [List.take_of_length_le (by rw [HN.out]; omega), List.take_of_length_le (by rw [HMN.out]; omega)] at this; exact this))
        go_wp2
        go_ret
        exact ⟨by rw [HF.out]; rfl, HG.out⟩
  · have h1 : ¬ (l.length : Int) = (m.length : Int) := by omega
    have HD := hide (show decide (l = m) = false from decide_eq_false fun e => hlen (by rw [e]))
    go_enter Tryd.func44, Tryd.ntmps44
    go_wp2
    go_ret
    exact ⟨by rw [HD.out]; rfl, Gr.refl _⟩

set_option maxHeartbeats 3200000 in
theorem equal_any (x y : La) (w : World) (hx : x.At w) (hy : y.At w) :
    Calls Tryd.prog 24 #[x.val, y.val] w fun e w' => e = .returned (.bool (decide (x.v = y.v) && decide (x.ws = y.ws))) ∧ Gr w w' := by
  have hS := fun W (hg : Gr w W) => seq_any x.a y.a x.c y.c x.ws y.ws W (hx.lies.below hg.below) (hy.lies.below hg.below) hx.len
  obtain ⟨v, a, n, ws⟩ := x
  obtain ⟨v', a', n', ws'⟩ := y
  dsimp only [La.val] at hS ⊢
  generalize decide (ws = ws') = q at hS ⊢
  clear hx hy
  by_cases hv : v = v'
  · subst hv
    go_enter Tryd.func24, Tryd.ntmps24
    go_wp2_with fail
    refine (hS _ (((Gr.refl _).alloc _).alloc _)).mono ?_
    rintro e w1 ⟨rfl, hg⟩
    go_wp2
    go_ret
    exact ⟨by simp, (((Gr.refl _).alloc _).alloc _).trans hg⟩
  · go_enter Tryd.func24, Tryd.ntmps24
    go_wp2
    go_ret
    exact ⟨by simp [hv], ((Gr.refl _).alloc _).alloc _⟩

end Go.Proofs.YtcmdglmcmifflaaDoor.Ly
