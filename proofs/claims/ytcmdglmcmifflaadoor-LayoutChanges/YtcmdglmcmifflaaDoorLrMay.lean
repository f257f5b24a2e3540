/- Layer 7, the document's answer: May, Check, Equal of layouts. -/
import Derived.Test.YtcmdglmcmifflaaDoorLyEnd
import Derived.Test.YtcmdglmcmifflaaDoorLyTo
import Derived.Test.YtcmdglmcmifflaaDoorRfFind
namespace Go.Proofs.YtcmdglmcmifflaaDoor.Ly
open Go.RowKit Go.Joins Go.Sort Gk Rg

theorem below_b1 (w : World) (o : Obj) : RowKit.Below w.heap.size w (w.alloc o) := (RowKit.Below.refl _ _).alloc (Nat.le_refl _) o

set_option maxRecDepth 100000 in
set_option maxHeartbeats 1600000 in
theorem lmay_ref (x : La) (w : World) (h : x.At w) :
    Calls Tryd.prog 41 #[x.val] w fun e w' => e = .returned (.bool x.may) ∧ RowKit.Below w.heap.size w w' := by
  have hM := fun W (hb : RowKit.Below w.heap.size w W) => Rf.may_ref x.a x.c x.ws W (h.lies.below hb) h.len
  unfold La.may
  obtain ⟨v, a, c, ws⟩ := x
  simp only at hM ⊢
  generalize mayB ws = mb at hM ⊢
  have hsp : (1 ≤ v ∧ v ≤ 1073741824) ∨ (1 ≤ v ∧ ¬ v ≤ 1073741824) ∨ ¬ 1 ≤ v := by omega
  rcases hsp with ⟨h1, h2⟩ | ⟨h1, h2⟩ | h1
  · rw [decide_eq_true h1, decide_eq_true h2]
    go_enter Tryd.func41, Tryd.ntmps41
    go_wp2_with (go_at_call 53; refine (hM _ (below_b1 _ _)).mono ?_; rintro e w' ⟨rfl, hw'⟩; rw [hw']; clear hw' w')
    go_ret
    exact ⟨by simp, below_b1 _ _⟩
  · rw [decide_eq_true h1, decide_eq_false h2]
    go_enter Tryd.func41, Tryd.ntmps41
    go_wp2
    go_ret
    exact ⟨by simp, below_b1 _ _⟩
  · rw [decide_eq_false h1]
    go_enter Tryd.func41, Tryd.ntmps41
    go_wp2
    go_ret
    exact ⟨by simp, below_b1 _ _⟩

set_option maxRecDepth 100000 in
set_option maxHeartbeats 1600000 in
theorem lcheck_ref (x : La) (w : World) (h : x.At w) :
    Calls Tryd.prog 20 #[x.val] w fun e w' => e = .returned (.int .i64 x.chk) ∧ RowKit.Below w.heap.size w w' := by
  have hM := fun W (hb : RowKit.Below w.heap.size w W) => lmay_ref x W (h.below hb)
  unfold La.chk
  cases hx : x.may
  all_goals
    rw [hx] at hM
    go_enter Tryd.func20, Tryd.ntmps20
    go_wp2_with (go_at_call 41; refine (hM _ (by first | exact RowKit.Below.refl _ _ | exact below_b1 _ _)).mono ?_; rintro e w1 ⟨rfl, hb1⟩)
    go_ret
    exact ⟨rfl, by first | exact hb1 | exact (below_b1 _ _).trans (hb1.mono (by simp))⟩

set_option maxRecDepth 100000 in
set_option maxHeartbeats 1600000 in
theorem lequal_ref (x y : La) (w : World) (hx : x.At w) (hy : y.At w) :
    Calls Tryd.prog 23 #[x.val, y.val] w fun e w' => e = .returned (.bool (decide (x.v = y.v) && decide (x.ws = y.ws))) ∧ RowKit.Below w.heap.size w w' := by
  obtain ⟨v, a, c, ws⟩ := x
  obtain ⟨v', a', c', ws'⟩ := y
  simp only
  have hl1 := hx.lies
  have hl2 := hy.lies
  have hn := hx.len
  have hb0 : ∀ o o' : Obj, RowKit.Below w.heap.size w ((w.alloc o).alloc o') := fun o o' => (below_b1 w o).alloc (by simp) o'
  simp only at hl1 hl2 hn
  by_cases hv : v = v'
  · subst hv
    by_cases hlen : ws.length = ws'.length
    · have bl : ((ws.length : Int) != (ws'.length : Int)) = false := by rw [hlen]; simp
      have bv : (v != v) = false := by simp
      have HLn := hide hlen
      have hn' : ws'.length ≤ 9223372036854775807 := by omega
      have hA0 : ((w.alloc (.cells #[.int .i64 v, .slice a ws.length c] 34)).alloc (.cells #[.int .i64 v, .slice a' ws'.length c'] 34)).heap[w.heap.size]? = some (.cells #[.int .i64 v, .slice a ws.length c] 34 (0, 0)) := by rw [heap_alloc_old _ _ (by simp)]; exact heap_alloc_new _ _
      have hB0 : ((w.alloc (.cells #[.int .i64 v, .slice a ws.length c] 34)).alloc (.cells #[.int .i64 v, .slice a' ws'.length c'] 34)).heap[w.heap.size + 1]? = some (.cells #[.int .i64 v, .slice a' ws'.length c'] 34 (0, 0)) := by
        have := heap_alloc_new (w.alloc (.cells #[.int .i64 v, .slice a ws.length c] 34)) (.cells #[.int .i64 v, .slice a' ws'.length c'] 34)
        simpa using this
      have hb1 := hb0 (.cells #[.int .i64 v, .slice a ws.length c] 34) (.cells #[.int .i64 v, .slice a' ws'.length c'] 34)
      clear hlen
      go_enter Tryd.func23, Tryd.ntmps23
      go_wp2
      go_loopw [5] (fun i wr => ∃ k : Nat, k ≤ ws.length ∧ i = .int .i64 k ∧ Hid (∀ t (h : t < ws.length) (h' : t < ws'.length), t < k → ws[t] = ws'[t]) ∧ wr.heap[w.heap.size]? = some (.cells #[.int .i64 v, .slice a ws.length c] 34 (0, 0)) ∧ wr.heap[w.heap.size + 1]? = some (.cells #[.int .i64 v, .slice a' ws'.length c'] 34 (0, 0)) ∧ RowKit.Below w.heap.size w wr) (fun i _ => ws.length - (intOf i).toNat)
      case atStart => exact ⟨0, Nat.zero_le _, rfl, hide (fun t _ _ h => by omega), hA0, hB0, hb1⟩
      case round =>
        clear hA0 hB0 hb1 hb0
        obtain ⟨k, hk, rfl, HE, hA1, hB1, hbel⟩ := hrel
        have y1 : wr.cell? ⟨w.heap.size, 1, none⟩ = some (.slice a ws.length c) := by rw [cell_of_block hA1]; rfl
        have z1 : wr.cell? ⟨w.heap.size + 1, 1, none⟩ = some (.slice a' ws'.length c') := by rw [cell_of_block hB1]; rfl
        have k0 : (0 : Int) ≤ (k : Int) := by omega
        by_cases hkl : k < ws.length
        · have hkl' : k < ws'.length := by rw [← HLn.out]; exact hkl
          obtain ⟨b, o, rfl, _, hc⟩ := (hl1.below hbel).at (k := 1) ienc_len k hkl
          obtain ⟨b', o', rfl, _, hc'⟩ := (hl2.below hbel).at (k := 1) ienc_len k hkl'
          have c0 := hc 0 _ rfl
          have d0 := hc' 0 _ rfl
          simp only [Nat.add_zero, Nat.mul_one] at c0 d0
          have k1 : (k : Int) < (ws.length : Int) := by omega
          have k2 : (k : Int) < (ws'.length : Int) := by omega
          clear hc hc'
          by_cases he : ws[k] = ws'[k]
          · have HN : Hid (∀ t (h : t < ws.length) (h' : t < ws'.length), t < k + 1 → ws[t] = ws'[t]) := fun t h h' ht => by
              by_cases e : t = k
              · subst e; exact he
              · exact HE.out t h h' (by omega)
            have be : ((ws[k] : Int) != ws'[k]) = false := by rw [he]; simp
            clear he HE
            generalize (ws[k]'hkl) = p at *
            generalize (ws'[k]'hkl') = q at *
            go_wp2_with fail
            go_quiet (fail)
            have hbq := below_drewN hbel nq
            go_wp2
            exact ⟨⟨k + 1, by omega, by go_num, HN, hA1, hB1, hbq⟩, by simp [intOf]; omega⟩
          · have HF : Hid (decide (ws = ws') = false) := decide_eq_false fun e => he (by subst e; rfl)
            have be : ((ws[k] : Int) != ws'[k]) = true := by simp [he]
            clear he HE
            generalize (ws[k]'hkl) = p at *
            generalize (ws'[k]'hkl') = q at *
            go_wp2_with fail
            go_quiet (fail)
            have hbq := below_drewN hbel nq
            go_wp2
            go_ret
            rw [HF.out]
            exact ⟨by simp, hbq⟩
        · have HF : Hid (decide (ws = ws') = true) := decide_eq_true (List.ext_getElem HLn.out fun t h h' => HE.out t h h' (by omega))
          have k1 : ¬ (k : Int) < (ws.length : Int) := by omega
          go_wp2
          go_ret
          rw [HF.out]
          exact ⟨by simp, hbel⟩
    · have bl : ((ws.length : Int) != (ws'.length : Int)) = true := by rw [bne_iff_ne]; omega
      have bv : (v != v) = false := by simp
      rw [show decide (ws = ws') = false from decide_eq_false fun e => hlen (by rw [e])]
      go_enter Tryd.func23, Tryd.ntmps23
      go_wp2
      go_ret
      exact ⟨by simp, hb0 _ _⟩
  · have bv : (v != v') = true := by simp [hv]
    rw [decide_eq_false hv]
    go_enter Tryd.func23, Tryd.ntmps23
    go_wp2
    go_ret
    exact ⟨rfl, hb0 _ _⟩

end Go.Proofs.YtcmdglmcmifflaaDoor.Ly
