/- Layer 8, the document's own answer: which requests may be, and their bytes. -/
import Derived.Test.YtkjcfkninmmbhaaOrMay
import Derived.Test.YtkjcfkninmmbhaaOrFld
import Derived.Test.YtkjcfkninmmbhaaOpEnc
import Derived.Test.YtkjcfkninmmbhaaRefEnc
namespace Go.Proofs.Ytkjcfkninmmbhaa.Oq
open Go.RowKit Go.Joins Go.Proofs.Ytkjcfkninmmbhaa.Gk

set_option maxRecDepth 100000 in
set_option maxHeartbeats 2000000 in
theorem MayAll_ref (r : Req) (a : Option Addr) (cap : Nat) (w : World) (hl : Gk.Lies w oenc a r.ops) (hn : r.ops.length ≤ 9223372036854775807) :
    Calls Try.prog 29 #[r.v a cap] w fun e w' => e = .returned (.bool r.may) ∧ Below w.heap.size w w' := by
  obtain ⟨W, hW⟩ : ∃ W, W = w.alloc (.cells #[.int .i64 r.client, .int .i64 r.seq, .slice a r.ops.length cap] 24) := ⟨_, rfl⟩
  have hb0 : Below w.heap.size w W := by rw [hW]; exact (Below.refl _ _).alloc (Nat.le_refl _) _
  have hzW : w.heap.size < W.heap.size := by rw [hW]; simp
  have x0 : W.cell? ⟨w.heap.size, 0, none⟩ = some (.int .i64 r.client) := by rw [hW]; simp
  have x1 : W.cell? ⟨w.heap.size, 1, none⟩ = some (.int .i64 r.seq) := by rw [hW]; simp
  have x2 : W.cell? ⟨w.heap.size, 2, none⟩ = some (.slice a r.ops.length cap) := by rw [hW]; simp
  cases h1 : within r.client 0 1000
  · have HM : Hid (r.may = false) := by show _ = _; rw [Req.may, asked, h1]; rfl
    go_enter Try.func29, Try.ntmps29
    go_wp2_with fail
    rw [← hW]
    clear hW
    refine (in_ref _ _ _ _).mono ?_
    rintro e w' ⟨rfl, rfl⟩
    rw [h1]
    go_wp2
    go_ret
    exact ⟨by rw [HM.out]; rfl, hb0⟩
  cases h2 : within r.seq 1 1048576
  · have HM : Hid (r.may = false) := by show _ = _; rw [Req.may, asked, h1, h2]; rfl
    go_enter Try.func29, Try.ntmps29
    go_wp2_with fail
    rw [← hW]
    clear hW
    refine (in_ref _ _ _ _).mono ?_
    rintro e w' ⟨rfl, rfl⟩
    rw [h1]
    go_wp2_with fail
    refine (in_ref _ _ _ _).mono ?_
    rintro e w' ⟨rfl, rfl⟩
    rw [h2]
    go_wp2
    go_ret
    exact ⟨by rw [HM.out]; rfl, hb0⟩
  cases h3 : within (r.ops.length : Int) 1 32
  · have HM : Hid (r.may = false) := by show _ = _; rw [Req.may, asked, h1, h2, h3]; rfl
    go_enter Try.func29, Try.ntmps29
    go_wp2_with fail
    rw [← hW]
    clear hW
    refine (in_ref _ _ _ _).mono ?_
    rintro e w' ⟨rfl, rfl⟩
    rw [h1]
    go_wp2_with fail
    refine (in_ref _ _ _ _).mono ?_
    rintro e w' ⟨rfl, rfl⟩
    rw [h2]
    go_wp2_with fail
    refine (in_ref _ _ _ _).mono ?_
    rintro e w' ⟨rfl, rfl⟩
    rw [h3]
    go_wp2
    go_ret
    exact ⟨by rw [HM.out]; rfl, hb0⟩
  · have HM : Hid (r.may = r.ops.all Opn.may) := by show _ = _; rw [Req.may, asked, h1, h2, h3]; rfl
    go_enter Try.func29, Try.ntmps29
    go_wp2_with fail
    rw [← hW]
    clear hW
    refine (in_ref _ _ _ _).mono ?_
    rintro e w' ⟨rfl, rfl⟩
    rw [h1]
    go_wp2_with fail
    refine (in_ref _ _ _ _).mono ?_
    rintro e w' ⟨rfl, rfl⟩
    rw [h2]
    go_wp2_with fail
    refine (in_ref _ _ _ _).mono ?_
    rintro e W ⟨rfl, rfl⟩
    rw [h3]
    have x2' := hide x2
    go_wp2
    go_loopw [3] (fun i wr => ∃ k : Nat, k ≤ r.ops.length ∧ i = .int .i64 k ∧ Hid (∀ j (hj : j < r.ops.length), j < k → (r.ops[j]).may = true) ∧ Below W.heap.size W wr) (fun i _ => r.ops.length - (intOf i).toNat)
    case atStart => exact ⟨0, by omega, rfl, hide (fun _ _ h => absurd h (by omega)), Below.refl _ _⟩
    case round =>
      clear x0 x1 x2
      obtain ⟨k, hk, rfl, hmay, hbW⟩ := hrel
      have hwr := hbW.size
      have hbel : Below w.heap.size w wr := hb0.trans (hbW.mono (by omega))
      have x2 := (hbW.cell (p := ⟨w.heap.size, 2, none⟩) hzW).trans x2'.out
      by_cases hlt : k < r.ops.length
      · obtain ⟨b, off, rfl, _, hc⟩ := (hl.later (fun b _ _ h => hbel.block b h) (by omega)).at oenc_len k hlt
        have c0 := hc 0 _ rfl
        have c1 := hc 1 _ rfl
        have c2 := hc 2 _ rfl
        have c3 := hc 3 _ rfl
        have c4 := hc 4 _ rfl
        have c5 := hc 5 _ rfl
        rw [Nat.add_zero] at c0
        clear hc
        cases hx : (r.ops[k]).may
        · have HB : Hid (r.ops.all Opn.may = false) := all_no hlt hx
          go_wp2_with fail
          refine (May_ref (r.ops[k]) _).mono ?_
          rintro e w1 ⟨rfl, hb1⟩
          rw [hx]
          have hbel2 := hbel.trans (hb1.mono (by omega))
          go_wp2
          go_ret
          exact ⟨by rw [HM.out, HB.out]; rfl, hbel2⟩
        · go_wp2_with fail
          refine (May_ref (r.ops[k]) _).mono ?_
          rintro e w1 ⟨rfl, hb1⟩
          rw [hx]
          have hbel2 := hbW.trans (hb1.mono hwr)
          go_wp2
          go_roundw
          case rel =>
            refine ⟨k + 1, by omega, by go_num, hide (fun j hj hjk => ?_), hbel2⟩
            by_cases e : j = k
            · subst e; exact hx
            · exact hmay.out j hj (by omega)
          case measure => simp [intOf]; omega
      · have HA : Hid (r.ops.all Opn.may = true) := all_yes (fun j hj => hmay.out j hj (by omega))
        go_wp2
        go_ret
        exact ⟨by rw [HM.out, HA.out]; rfl, hbel⟩

set_option maxRecDepth 100000 in
set_option maxHeartbeats 400000 in
theorem CheckAll_ref (r : Req) (a : Option Addr) (cap : Nat) (w : World) (hl : Gk.Lies w oenc a r.ops) (hn : r.ops.length ≤ 9223372036854775807) :
    Calls Try.prog 16 #[r.v a cap] w fun e w' => e = .returned (.int .i64 (chkI r.may)) ∧ Below w.heap.size w w' := by
  have hb0 : ∀ o, Below w.heap.size w (w.alloc o) := fun o => (Below.refl _ _).alloc (Nat.le_refl _) o
  go_enter Try.func16, Try.ntmps16
  go_wp2_with fail
  refine (MayAll_ref r a cap _ (hl.below ((Below.refl _ _).alloc (Nat.le_refl _) _)) hn).mono ?_
  rintro e w1 ⟨rfl, hb1⟩
  have hb2 := (hb0 _).trans (hb1.mono (by simp))
  cases hm : r.may
  · go_wp2
    go_ret
    exact ⟨by rw [hm]; rfl, hb2⟩
  · go_wp2
    go_ret
    exact ⟨by rw [hm]; rfl, hb2⟩

theorem may_sizes {x : Opn} (h : x.may = true) : x.key.size ≤ 64 ∧ x.val.size ≤ 8192 := by
  obtain ⟨kind, key, val, stamp, test, most⟩ := x
  unfold Opn.may at h
  simp only [Opn.put, keyB, valB] at h
  split at h
  · simp only [Bool.and_eq_true, beq_iff_eq, within_iff, decide_eq_true_eq] at h; simp only; omega
  split at h
  · simp only [Bool.and_eq_true, beq_iff_eq, within_iff, decide_eq_true_eq] at h; simp only; omega
  split at h
  · simp only [Bool.and_eq_true, beq_iff_eq, within_iff] at h; simp only; omega
  split at h
  · simp only [Bool.and_eq_true, beq_iff_eq, within_iff, decide_eq_true_eq] at h; simp only; omega
  · cases h
theorem fields_small {r : Req} (h : r.may = true) : ∀ x ∈ r.fields, x.s.size ≤ 4000000 := by
  intro x hx
  unfold Req.may at h
  rw [Bool.and_eq_true, List.all_eq_true] at h
  unfold Req.fields at hx
  rcases List.mem_append.1 hx with hh | hh
  · simp only [List.mem_cons, List.not_mem_nil, or_false] at hh
    rcases hh with rfl | rfl | rfl <;> exact Nat.zero_le _
  · obtain ⟨y, hy, hh⟩ := List.mem_flatMap.1 hh
    have := may_sizes (h.2 y hy)
    simp only [Opn.fields, List.mem_cons, List.not_mem_nil, or_false] at hh
    rcases hh with rfl | rfl | rfl | rfl | rfl | rfl <;> first | exact Nat.zero_le _ | exact Nat.le_trans this.1 (by decide) | exact Nat.le_trans this.2 (by decide)

set_option maxRecDepth 100000 in
set_option maxHeartbeats 800000 in
theorem Encode_ref (r : Req) (a : Option Addr) (cap : Nat) (w : World) (hl : Gk.Lies w oenc a r.ops) (hn : r.ops.length ≤ 9223372036854775807) :
    Calls Try.prog 11 #[r.v a cap] w fun e w' => e = .returned r.encodeV ∧ Below w.heap.size w w' := by
  obtain ⟨W, hW⟩ : ∃ W, W = w.alloc (.cells #[.int .i64 r.client, .int .i64 r.seq, .slice a r.ops.length cap] 24) := ⟨_, rfl⟩
  have hbW : Below w.heap.size w W := by rw [hW]; exact (Below.refl _ _).alloc (Nat.le_refl _) _
  have hzW : w.heap.size < W.heap.size := by rw [hW]; simp
  have x0 : W.cell? ⟨w.heap.size, 0, none⟩ = some (.int .i64 r.client) := by rw [hW]; simp
  have x1 : W.cell? ⟨w.heap.size, 1, none⟩ = some (.int .i64 r.seq) := by rw [hW]; simp
  have x2 : W.cell? ⟨w.heap.size, 2, none⟩ = some (.slice a r.ops.length cap) := by rw [hW]; simp
  go_enter Try.func11, Try.ntmps11
  go_wp2_with fail
  rw [← hW]
  clear hW
  refine (MayAll_ref r a cap _ (hl.below hbW) hn).mono ?_
  rintro e w1 ⟨rfl, hb1⟩
  have hb2 := hbW.trans (hb1.mono (by omega))
  have y0 := (hb1.cell (p := ⟨w.heap.size, 0, none⟩) hzW).trans x0
  have y1 := (hb1.cell (p := ⟨w.heap.size, 1, none⟩) hzW).trans x1
  have y2 := (hb1.cell (p := ⟨w.heap.size, 2, none⟩) hzW).trans x2
  clear x0 x1 x2
  cases hm : r.may
  · have HE : Hid (r.encode = (⟨#[]⟩, 80)) := by show _ = _; rw [Req.encode, hm]; rfl
    go_wp2
    go_ret2
    exact ⟨by rw [Req.encodeV, HE.out]; rfl, hb2⟩
  · have HE : Hid (r.encode = Go.Proofs.Ytkjcfkninmmbhaa.encode r.fields) := by show _ = _; rw [Req.encode, hm]; rfl
    go_wp2_with fail
    refine (Fields_ref r a cap _ (hl.below hb2) (Req.may_len hm)).mono ?_
    rintro e w3 ⟨v, rfl, hown, hb3⟩
    obtain ⟨a3, c3, rfl, hl3⟩ := own_lies hown
    have hb4 := hb2.trans (hb3.mono hb2.size)
    have hz4 := hb4.size
    go_wp2_with fail
    have hlen := Req.fields_len r
    have hm32 := Req.may_len hm
    refine (rEncode_any a3 c3 r.fields _ hl3 (by omega) (fields_small hm)).mono ?_
    rintro e w5 ⟨rfl, hb5⟩
    have hb6 := hb4.trans (hb5.mono hz4)
    go_wp2
    go_ret2
    exact ⟨by rw [Req.encodeV, HE.out]; rfl, hb6⟩

end Go.Proofs.Ytkjcfkninmmbhaa.Oq
