/- Layer 9: walks over table.go: New, Len, Fork, check, Do. -/
import Derived.Test.YthdempdiibjabaaTbAl
namespace Go.Proofs.Ythdempdiibjabaa.Tb
open Go.RowKit Go.Joins Go.Proofs.Ythdempdiibjabaa.Gk Go.Proofs.Ythdempdiibjabaa.Oq Go.Proofs.Ythdempdiibjabaa.Sp

set_option maxRecDepth 100000 in
set_option maxHeartbeats 1600000 in
theorem New_tb (w : World) : Calls Try.prog 9 #[] w fun e w' => ∃ b, e = .returned (ptr b) ∧ TH w' b [] ∧ w.heap.size ≤ b ∧ Below w.heap.size w w' := by
  have h0 := heap_alloc_new w (.cells #[.slice none 0 0] TabT)
  have hb := below_a1 w (.cells #[.slice none 0 0] TabT)
  go_enter Try.func9, Try.ntmps9
  go_wp2
  go_ret
  exact ⟨_, rfl, ⟨Tok.nil, none, 0, h0, RL.nil _⟩, Nat.le_refl _, hb⟩

set_option maxRecDepth 100000 in
set_option maxHeartbeats 1600000 in
theorem Fork_tb2 (bt : Nat) (l : List Rw) (w : World) (hT : TH w bt l) : Calls Try.prog 12 #[ptr bt] w fun e w' => ∃ b, e = .returned (ptr b) ∧ TH w' b l ∧ w.heap.size ≤ b ∧ Below w.heap.size w w' ∧ tabBlk w' b = tabBlk w bt := by
  obtain ⟨hok, a, cap, hg, hl⟩ := hT
  have htb := tabBlk_is hg
  have hlt := (Array.getElem?_eq_some_iff.1 hg).1
  have t0 := TH.cell hg
  have hr := hl.room
  have i1 : (l.length : Int) ≤ (cap : Int) := by omega
  have hl2 : RL w a l.length l := by
    rcases hl with ⟨rfl, rfl, rfl⟩ | ⟨g, off, cur, rfl, hh, h1, h2, h3, h4⟩
    · exact RL.nil _
    · refine Or.inr ⟨g, off, cur, rfl, hh, ?_, Nat.le_refl _, by omega, h4⟩
      have : l.length * 3 ≤ cap * 3 := Nat.mul_le_mul_right 3 h2
      omega
  have h0 := heap_alloc_new w (.cells #[.slice a l.length l.length] TabT)
  have hb := below_a1 w (.cells #[.slice a l.length l.length] TabT)
  go_enter Try.func12, Try.ntmps12
  go_wp2
  go_ret
  exact ⟨_, rfl, ⟨hok, a, l.length, h0, hl2.below hb⟩, Nat.le_refl _, hb, by rw [htb]; exact tabBlk_is h0⟩
theorem Fork_tb (bt : Nat) (l : List Rw) (w : World) (hT : TH w bt l) : Calls Try.prog 12 #[ptr bt] w fun e w' => ∃ b, e = .returned (ptr b) ∧ TH w' b l ∧ w.heap.size ≤ b ∧ Below w.heap.size w w' :=
  (Fork_tb2 bt l w hT).mono fun _ _ ⟨b, h1, h2, h3, h4, _⟩ => ⟨b, h1, h2, h3, h4⟩

set_option maxRecDepth 100000 in
set_option maxHeartbeats 1600000 in
theorem Len_tb (bt : Nat) (l : List Rw) (w : World) (hT : TH w bt l) : Calls Try.prog 17 #[ptr bt] w fun e w' => e = .returned (.int .i64 (l.length : Nat)) ∧ w' = w := by
  obtain ⟨hok, a, cap, hg, hl⟩ := hT
  have t0 := TH.cell hg
  go_enter Try.func17, Try.ntmps17
  go_wp2
  go_ret
  exact ⟨rfl, rfl⟩

/-- what check answers: a place and a code -/
def chk (ops : List Opn) : Int × Int :=
  if ops.length < 1 ∨ 32 < ops.length then (0, 80) else match badAt ops with
  | some i => (i, 80)
  | none => (0, 0)
abbrev flt (p : Int × Int) : Value := .agg #[.int .i64 p.1, .int .i64 p.2]

theorem badAt_at {ops : List Opn} {k : Nat} (hk : k < ops.length) (hb : ∀ x ∈ ops.take k, x.may = true) (hx : ops[k].may = false) : badAt ops = some k := by
  unfold badAt
  rw [List.findIdx?_eq_some_iff_getElem]
  refine ⟨hk, by simp [hx], fun j hj => ?_⟩
  have h1 : ops[j] ∈ ops.take k := by
    rw [List.mem_take_iff_getElem]; exact ⟨j, by omega, rfl⟩
  simp [hb _ h1]
theorem badAt_all {ops : List Opn} (hb : ∀ x ∈ ops, x.may = true) : badAt ops = none := by
  unfold badAt
  rw [List.findIdx?_eq_none_iff]
  intro x hx
  simp [hb x hx]
abbrev FltT : TypeId := 41
abbrev set2 (W : World) (b : Nat) (u0 u1 : Value) : World := (W.setCell ⟨b, 0, none⟩ u0).setCell ⟨b, 1, none⟩ u1
theorem set2_below {W : World} {b n : Nat} {w : World} (h : Below n w W) (hb : n ≤ b) (u0 u1 : Value) : Below n w (set2 W b u0 u1) :=
  (h.setCell (p := ⟨b, 0, none⟩) hb _).setCell (p := ⟨b, 1, none⟩) hb _
theorem set2_other (W : World) (b k : Nat) (hk : k ≠ b) (u0 u1 : Value) : (set2 W b u0 u1).heap[k]? = W.heap[k]? := by
  rw [Below.heap_setCell _ _ _ _ hk, Below.heap_setCell _ _ _ _ hk]

set_option maxRecDepth 100000 in
set_option maxHeartbeats 1600000 in
theorem check_tb (a : Option Addr) (cap : Nat) (ops : List Opn) (w : World) (hl : Lies w oenc a ops) : Calls Try.prog 27 #[.slice a ops.length cap] w fun e w' => e = .returned (flt (chk ops)) ∧ Below w.heap.size w w' := by
  unfold chk
  have h0 := heap_alloc_new w (.cells #[.int .i64 0, .int .i64 0] FltT)
  have hb0 := below_a1 w (.cells #[.int .i64 0, .int .i64 0] FltT)
  by_cases hn : ops.length < 1 ∨ 32 < ops.length
  · simp only [if_pos hn]
    have hbe := set2_below hb0 (Nat.le_refl _) (.int .i64 0) (.int .i64 80)
    by_cases h1 : ops.length < 1
    · have i1 : (ops.length : Int) < 1 := by omega
      clear hn
      go_enter Try.func27, Try.ntmps27
      go_wp2
      refine bodyPost_ret (v := flt (0, 80)) (by simp [results, Try.results27, go_sem]) rfl ?_
      exact ⟨rfl, by first | exact hbe | exact below_a1 _ _⟩
    · have i1 : ¬ (ops.length : Int) < 1 := by omega
      have i2 : (32 : Int) < (ops.length : Int) := by omega
      clear hn
      go_enter Try.func27, Try.ntmps27
      go_wp2
      refine bodyPost_ret (v := flt (0, 80)) (by simp [results, Try.results27, go_sem]) rfl ?_
      exact ⟨rfl, by first | exact hbe | exact below_a1 _ _⟩
  · simp only [if_neg hn]
    have i1 : ¬ (ops.length : Int) < 1 := by omega
    have i2 : ¬ (32 : Int) < (ops.length : Int) := by omega
    have hn32 : ops.length ≤ 32 := by omega
    clear hn
    generalize hq : (match badAt ops with | some i => ((i : Int), (80 : Int)) | none => (0, 0)) = cv
    have HQ := hide hq
    clear hq
    go_enter Try.func27, Try.ntmps27
    go_wp2
    go_loopw [17] (fun i wr => ∃ k : Nat, k ≤ ops.length ∧ i = .int .i64 k ∧ Hid (∀ x ∈ ops.take k, x.may = true) ∧ wr.heap[w.heap.size]? = some (.cells #[.int .i64 0, .int .i64 0] FltT (0, 0)) ∧ Below w.heap.size w wr) (fun i _ => ops.length - (intOf i).toNat)
    case atStart => exact ⟨0, Nat.zero_le _, rfl, hide (by simp), h0, hb0⟩
    case round =>
      clear h0 hb0
      obtain ⟨k, hk, rfl, HM, hR, hbel⟩ := hrel
      by_cases hlt : k < ops.length
      · obtain ⟨b, off, rfl, hbl, hc⟩ := (hl.below hbel).at (k := 6) oenc_len k hlt
        have c0 := hc 0 _ rfl
        have c1 := hc 1 _ rfl
        have c2 := hc 2 _ rfl
        have c3 := hc 3 _ rfl
        have c4 := hc 4 _ rfl
        have c5 := hc 5 _ rfl
        rw [Nat.add_zero] at c0
        clear hc
        have HT := hide (List.take_succ_eq_append_getElem hlt)
        have HX : Hid (ops[k].may = false → badAt ops = some k) := fun h => badAt_at hlt HM.out h
        have i3 : (0 : Int) ≤ (k : Int) := by omega
        have i4 : (k : Int) < (ops.length : Int) := by omega
        generalize ops[k] = x at *
        have hC := fun W => Check_op x W
        cases hx : x.may
        · rw [hx] at hC
          rw [show chkI false = 80 from rfl] at hC
          have HB := hide (HX.out hx)
          go_wp2_with fail
          refine (hC _).mono ?_
          rintro e w1 ⟨rfl, hb1⟩
          have hb2 := (below_a1 wr _).trans (hb1.mono (by simp))
          have hR1 := (hb2.block _ (Array.getElem?_eq_some_iff.1 hR).1).trans hR
          have hbel1 := hbel.trans (hb2.mono hbel.size)
          have r0 : w1.cell? ⟨w.heap.size, 0, none⟩ = some (.int .i64 0) := cellB hR1 0 rfl
          have r1 : w1.cell? ⟨w.heap.size, 1, none⟩ = some (.int .i64 0) := cellB hR1 1 rfl
          have f0 := unfrozen_of_block hR1 0
          have f1 := unfrozen_of_block hR1 1
          clear hb1 hb2 hR hbel c0 c1 c2 c3 c4 c5 hC HX HM HT hR1
          go_wp2
          refine bodyPost_ret (v := flt (k, 80)) (by simp [results, Try.results27, go_sem, r0, r1]) rfl ?_
          exact ⟨by rw [← HQ.out, HB.out], set2_below hbel1 (Nat.le_refl _) _ _⟩
        · rw [hx] at hC
          rw [show chkI true = 0 from rfl] at hC
          have HN : Hid (∀ y ∈ ops.take (k + 1), y.may = true) := by
            show ∀ y ∈ ops.take (k + 1), y.may = true
            rw [HT.out]
            intro y hy
            rcases List.mem_append.1 hy with h | h
            · exact HM.out y h
            · rw [List.mem_singleton.1 h]; exact hx
          go_wp2_with fail
          refine (hC _).mono ?_
          rintro e w1 ⟨rfl, hb1⟩
          have hb2 := (below_a1 wr _).trans (hb1.mono (by simp))
          have hR1 := (hb2.block _ (Array.getElem?_eq_some_iff.1 hR).1).trans hR
          have hbel1 := hbel.trans (hb2.mono hbel.size)
          clear hb1 hb2 hR hbel c0 c1 c2 c3 c4 c5 hC HX HM HT
          go_wp2
          go_roundw
          case rel => exact ⟨k + 1, by omega, by go_num, HN, hR1, hbel1⟩
          case measure => simp [intOf]; omega
      · obtain rfl : k = ops.length := by omega
        have HB : Hid (badAt ops = none) := badAt_all (by have h := HM.out; rwa [List.take_length] at h)
        have r0 : wr.cell? ⟨w.heap.size, 0, none⟩ = some (.int .i64 0) := cellB hR 0 rfl
        have r1 : wr.cell? ⟨w.heap.size, 1, none⟩ = some (.int .i64 0) := cellB hR 1 rfl
        have f0 := unfrozen_of_block hR 0
        have f1 := unfrozen_of_block hR 1
        clear hR HM
        go_wp2
        refine bodyPost_ret (v := flt (0, 0)) (by simp [results, Try.results27, go_sem, r0, r1]) rfl ?_
        exact ⟨by rw [← HQ.out, HB.out], set2_below hbel (Nat.le_refl _) _ _⟩

end Go.Proofs.Ythdempdiibjabaa.Tb
