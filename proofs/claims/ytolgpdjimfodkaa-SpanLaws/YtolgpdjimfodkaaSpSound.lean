/- Walks over the law's package: sound. -/
import Derived.Test.YtolgpdjimfodkaaSpSame
import Derived.Test.YtolgpdjimfodkaaSpCallsU
import Derived.Test.YtolgpdjimfodkaaSpArgs
namespace Go.Proofs.Ytolgpdjimfodkaa.Sp
open Go.RowKit Go.Joins Gk

/-- a list of at most 60 spans that may be -/
def sndL (l : List Sp) : Bool := decide (l.length ≤ 60) && l.all may
theorem sndL_may {l : List Sp} (h : sndL l = true) : l.length ≤ 60 ∧ MayL l := by
  simp only [sndL, Bool.and_eq_true, decide_eq_true_eq] at h
  exact ⟨h.1, fun s hs => (may_iff s).1 (List.all_eq_true.1 h.2 s hs)⟩

set_option maxHeartbeats 1600000 in
theorem sound_any (a : Option Addr) (cap : Nat) (l : List Sp) (w : World) (hl : Lies w senc a l) (hn : l.length ≤ 9223372036854775807) :
    Calls Try.prog 23 #[.slice a l.length cap] w fun e w' => e = .returned (.bool (sndL l)) ∧ Below w.heap.size w w' := by
  by_cases h0 : l.length ≤ 60
  · have h0' : ¬ (60 : Int) < (l.length : Int) := by omega
    go_enter Try.func23, Try.ntmps23
    go_wp2
    go_loopw [9] (fun i wr => ∃ k : Nat, k ≤ l.length ∧ i = .int .i64 k ∧ Below w.heap.size w wr ∧ Hid (∀ j (hj : j < l.length), j < k → may l[j] = true)) (fun i _ => l.length - (intOf i).toNat)
    case atStart => exact ⟨0, by omega, rfl, Below.refl _ _, fun j _ hj => by omega⟩
    case round =>
      obtain ⟨k, hk, rfl, hbel, HA⟩ := hrel
      by_cases hlt : k < l.length
      · obtain ⟨b, off, rfl, hbl, hc⟩ := (hl.below hbel).at (k := 2) senc_len k hlt
        have i1 : (0 : Int) ≤ (k : Int) := by omega
        have i2 : (k : Int) < (l.length : Int) := by omega
        have c0 := hc 0 _ rfl
        have c1 := hc 1 _ rfl
        rw [Nat.add_zero] at c0
        clear hc
        obtain ⟨x, hx⟩ : ∃ x, l[k] = x := ⟨_, rfl⟩
        rw [hx] at c0 c1
        have HX := hide hx
        clear hx
        have hz := hbel.size
        by_cases hm : may x = true
        · have hcall := fun W => check_any x W
          rw [chk, if_pos hm] at hcall
          go_wp2_with (go_at_call 19; refine (hcall _).mono ?_; rintro e w' ⟨rfl, hb'⟩)
          go_roundw
          case rel =>
            refine ⟨k + 1, by omega, by go_num, hbel.trans (hb'.mono hz), fun j hj hjk => ?_⟩
            by_cases e : j = k
            · subst e; rw [HX.out]; exact hm
            · exact HA.out j hj (by omega)
          case measure => simp [intOf]; omega
        · have hcall := fun W => check_any x W
          rw [chk, if_neg hm] at hcall
          go_wp2_with (go_at_call 19; refine (hcall _).mono ?_; rintro e w' ⟨rfl, hb'⟩)
          go_ret
          refine ⟨?_, hbel.trans (hb'.mono hz)⟩
          have hs : sndL l = false := by
            rw [sndL, Bool.and_eq_false_iff]
            refine Or.inr (Bool.eq_false_iff.2 fun h => hm (HX.out ▸ List.all_eq_true.1 h _ (List.getElem_mem hlt)))
          rw [hs]; rfl
      · obtain rfl : k = l.length := by omega
        go_wp2
        go_ret
        refine ⟨?_, hbel⟩
        have hs : sndL l = true := by
          rw [sndL, Bool.and_eq_true, decide_eq_true_eq]
          refine ⟨h0, List.all_eq_true.2 fun x hx => ?_⟩
          obtain ⟨j, hj, rfl⟩ := List.getElem_of_mem hx
          exact HA.out j hj hj
        rw [hs]; rfl
  · have h0' : (60 : Int) < (l.length : Int) := by omega
    have hs : sndL l = false := by simp [sndL, h0]
    go_enter Try.func23, Try.ntmps23
    go_wp2
    go_ret
    exact ⟨by rw [hs]; rfl, Below.refl _ _⟩

end Go.Proofs.Ytolgpdjimfodkaa.Sp
