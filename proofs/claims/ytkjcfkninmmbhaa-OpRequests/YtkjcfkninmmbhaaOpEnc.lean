/- Layer 8: which requests may be, and their bytes: requestMayBe, CheckAll, Encode, the law's example. -/
import Derived.Test.YtkjcfkninmmbhaaOpReqF
namespace Go.Proofs.Ytkjcfkninmmbhaa.Oq
open Go.RowKit Go.Joins Go.Proofs.Ytkjcfkninmmbhaa.Gk

def asked (c s : Int) : Bool := within c 0 1000 && within s 1 1048576
def Req.may (r : Req) : Bool := asked r.client r.seq && within r.ops.length 1 32 && r.ops.all Opn.may
abbrev Req.v (r : Req) (a : Option Addr) (cap : Nat) : Value := .agg #[.int .i64 r.client, .int .i64 r.seq, .slice a r.ops.length cap]

set_option maxRecDepth 100000 in
set_option maxHeartbeats 400000 in
theorem isAsked_op (c s : Int) (w : World) :
    Calls Try.prog 67 #[.int .i64 c, .int .i64 s] w fun e w' => e = .returned (.bool (asked c s)) ∧ w' = w := by
  unfold asked
  cases h : within c 0 1000
  · go_enter Try.func67, Try.ntmps67
    go_wp2_with fail
    refine (isWithin_any _ _ _ _).mono ?_
    rintro e w' ⟨rfl, rfl⟩
    rw [h]
    go_wp2
    go_ret
    exact ⟨rfl, rfl⟩
  · go_enter Try.func67, Try.ntmps67
    go_wp2_with fail
    refine (isWithin_any _ _ _ _).mono ?_
    rintro e w' ⟨rfl, rfl⟩
    rw [h]
    go_wp2_with fail
    refine (isWithin_any _ _ _ _).mono ?_
    rintro e w' ⟨rfl, rfl⟩
    go_wp2
    go_ret
    exact ⟨rfl, rfl⟩

theorem all_no {l : List Opn} {k : Nat} (h : k < l.length) (hm : l[k].may = false) : l.all Opn.may = false := by
  rw [List.all_eq_false]; exact ⟨l[k], List.getElem_mem h, by simp [hm]⟩
theorem all_yes {l : List Opn} (h : ∀ j (hj : j < l.length), l[j].may = true) : l.all Opn.may = true := by
  rw [List.all_eq_true]; intro x hx; obtain ⟨j, hj, rfl⟩ := List.getElem_of_mem hx; exact h j hj

set_option maxRecDepth 100000 in
set_option maxHeartbeats 1600000 in
theorem requestMayBe_op (r : Req) (a : Option Addr) (cap : Nat) (w : World) (hl : Gk.Lies w oenc a r.ops) (hn : r.ops.length ≤ 9223372036854775807) :
    Calls Try.prog 36 #[r.v a cap] w fun e w' => e = .returned (.bool r.may) ∧ Below w.heap.size w w' := by
  have hb0 : Below w.heap.size w (w.alloc (.cells #[.int .i64 r.client, .int .i64 r.seq, .slice a r.ops.length cap] 24)) := (Below.refl _ _).alloc (Nat.le_refl _) _
  cases h1 : asked r.client r.seq
  · have HM : Hid (r.may = false) := by show _ = _; rw [Req.may, h1]; rfl
    go_enter Try.func36, Try.ntmps36
    go_wp2_with fail
    refine (isAsked_op _ _ _).mono ?_
    rintro e w' ⟨rfl, rfl⟩
    rw [h1]
    go_wp2
    go_ret
    exact ⟨by rw [HM.out]; rfl, hb0⟩
  cases h2 : within (r.ops.length : Int) 1 32
  · have HM : Hid (r.may = false) := by show _ = _; rw [Req.may, h1, h2]; rfl
    go_enter Try.func36, Try.ntmps36
    go_wp2_with fail
    refine (isAsked_op _ _ _).mono ?_
    rintro e w' ⟨rfl, rfl⟩
    rw [h1]
    go_wp2_with fail
    refine (isWithin_any _ _ _ _).mono ?_
    rintro e w' ⟨rfl, rfl⟩
    rw [h2]
    go_wp2
    go_ret
    exact ⟨by rw [HM.out]; rfl, hb0⟩
  · have HM : Hid (r.may = r.ops.all Opn.may) := by show _ = _; rw [Req.may, h1, h2]; rfl
    go_enter Try.func36, Try.ntmps36
    go_wp2_with fail
    refine (isAsked_op _ _ _).mono ?_
    rintro e w' ⟨rfl, rfl⟩
    rw [h1]
    go_wp2_with fail
    refine (isWithin_any _ _ _ _).mono ?_
    rintro e w' ⟨rfl, rfl⟩
    rw [h2]
    go_wp2
    go_loopw [21] (fun i wr => ∃ k : Nat, k ≤ r.ops.length ∧ i = .int .i64 k ∧ Hid (∀ j (hj : j < r.ops.length), j < k → (r.ops[j]).may = true) ∧ Below w.heap.size w wr) (fun i _ => r.ops.length - (intOf i).toNat)
    case atStart => exact ⟨0, by omega, rfl, hide (fun _ _ h => absurd h (by omega)), hb0⟩
    case round =>
      clear hb0
      obtain ⟨k, hk, rfl, hmay, hbel⟩ := hrel
      have hwr := hbel.size
      by_cases hlt : k < r.ops.length
      · obtain ⟨b, off, rfl, _, hc⟩ := (hl.later (fun b _ _ h => hbel.block b h) hwr).at oenc_len k hlt
        have c0 := hc 0 _ rfl
        have c1 := hc 1 _ rfl
        have c2 := hc 2 _ rfl
        have c3 := hc 3 _ rfl
        have c4 := hc 4 _ rfl
        have c5 := hc 5 _ rfl
        rw [Nat.add_zero] at c0
        clear hc
        cases hx : (r.ops[k]).may
        · have HB : Hid (r.ops.all Opn.may = false) := all_no hlt hx
          go_wp2_with fail
          refine (mayBe_op (r.ops[k]) _).mono ?_
          rintro e w1 ⟨rfl, hb1⟩
          rw [hx]
          have hbel2 := (hbel.alloc hwr _).trans (hb1.mono (by simp; omega))
          go_wp2
          go_ret
          exact ⟨by rw [HM.out, HB.out]; rfl, hbel2⟩
        · go_wp2_with fail
          refine (mayBe_op (r.ops[k]) _).mono ?_
          rintro e w1 ⟨rfl, hb1⟩
          rw [hx]
          have hbel2 := (hbel.alloc hwr _).trans (hb1.mono (by simp; omega))
          go_wp2
          go_roundw
          case rel =>
            refine ⟨k + 1, by omega, by go_num, hide (fun j hj hjk => ?_), hbel2⟩
            by_cases e : j = k
            · subst e; exact hx
            · exact hmay.out j hj (by omega)
          case measure => simp [intOf]; omega
      · have HA : Hid (r.ops.all Opn.may = true) := all_yes (fun j hj => hmay.out j hj (by omega))
        go_wp2
        go_ret
        exact ⟨by rw [HM.out, HA.out]; rfl, hbel⟩

set_option maxRecDepth 100000 in
set_option maxHeartbeats 400000 in
theorem CheckAll_op (r : Req) (a : Option Addr) (cap : Nat) (w : World) (hl : Gk.Lies w oenc a r.ops) (hn : r.ops.length ≤ 9223372036854775807) :
    Calls Try.prog 15 #[r.v a cap] w fun e w' => e = .returned (.int .i64 (chkI r.may)) ∧ Below w.heap.size w w' := by
  have hb0 : ∀ o, Below w.heap.size w (w.alloc o) := fun o => (Below.refl _ _).alloc (Nat.le_refl _) o
  go_enter Try.func15, Try.ntmps15
  go_wp2_with fail
  refine (requestMayBe_op r a cap _ (hl.below ((Below.refl _ _).alloc (Nat.le_refl _) _)) hn).mono ?_
  rintro e w1 ⟨rfl, hb1⟩
  have hb2 := (hb0 _).trans (hb1.mono (by simp))
  cases hm : r.may
  · go_wp2
    go_ret
    exact ⟨by rw [hm]; rfl, hb2⟩
  · go_wp2
    go_ret
    exact ⟨by rw [hm]; rfl, hb2⟩

/-- what Encode answers -/
def Req.encode (r : Req) : ByteArray × Nat := if r.may then Go.Proofs.Ytkjcfkninmmbhaa.encode r.fields else (⟨#[]⟩, 80)
abbrev Req.encodeV (r : Req) : Value := .tuple #[.string r.encode.1, .int .i64 r.encode.2]

theorem Req.may_len {r : Req} (h : r.may = true) : r.ops.length ≤ 32 := by
  unfold Req.may at h
  rw [Bool.and_eq_true, Bool.and_eq_true] at h
  have := within_iff.1 h.1.2
  omega
theorem fields_size {r : Req} (hs : ∀ x ∈ r.ops, x.key.size ≤ 140737488351232 ∧ x.val.size ≤ 140737488351232) : ∀ x ∈ r.fields, x.s.size ≤ 140737488351232 := by
  intro x hx
  unfold Req.fields at hx
  rcases List.mem_append.1 hx with h | h
  · simp only [List.mem_cons, List.not_mem_nil, or_false] at h
    rcases h with rfl | rfl | rfl <;> exact Nat.zero_le _
  · obtain ⟨y, hy, h⟩ := List.mem_flatMap.1 h
    have := hs y hy
    simp only [Opn.fields, List.mem_cons, List.not_mem_nil, or_false] at h
    rcases h with rfl | rfl | rfl | rfl | rfl | rfl <;> first | exact Nat.zero_le _ | exact this.1 | exact this.2

set_option maxRecDepth 100000 in
set_option maxHeartbeats 800000 in
theorem Encode_op (r : Req) (a : Option Addr) (cap : Nat) (w : World) (hl : Gk.Lies w oenc a r.ops) (hn : r.ops.length ≤ 9223372036854775807) (hs : ∀ x ∈ r.ops, x.key.size ≤ 140737488351232 ∧ x.val.size ≤ 140737488351232) :
    Calls Try.prog 10 #[r.v a cap] w fun e w' => e = .returned r.encodeV ∧ Below w.heap.size w w' := by
  obtain ⟨W, hW⟩ : ∃ W, W = w.alloc (.cells #[.int .i64 r.client, .int .i64 r.seq, .slice a r.ops.length cap] 24) := ⟨_, rfl⟩
  have hbW : Below w.heap.size w W := by rw [hW]; exact (Below.refl _ _).alloc (Nat.le_refl _) _
  have hzW : w.heap.size < W.heap.size := by rw [hW]; simp
  have x0 : W.cell? ⟨w.heap.size, 0, none⟩ = some (.int .i64 r.client) := by rw [hW]; simp
  have x1 : W.cell? ⟨w.heap.size, 1, none⟩ = some (.int .i64 r.seq) := by rw [hW]; simp
  have x2 : W.cell? ⟨w.heap.size, 2, none⟩ = some (.slice a r.ops.length cap) := by rw [hW]; simp
  go_enter Try.func10, Try.ntmps10
  go_wp2_with fail
  rw [← hW]
  clear hW
  refine (CheckAll_op r a cap _ (hl.below hbW) hn).mono ?_
  rintro e w1 ⟨rfl, hb1⟩
  have hb2 := hbW.trans (hb1.mono (by omega))
  have y0 := (hb1.cell (p := ⟨w.heap.size, 0, none⟩) hzW).trans x0
  have y1 := (hb1.cell (p := ⟨w.heap.size, 1, none⟩) hzW).trans x1
  have y2 := (hb1.cell (p := ⟨w.heap.size, 2, none⟩) hzW).trans x2
  clear x0 x1 x2
  cases hm : r.may
  · have HE : Hid (r.encode = (⟨#[]⟩, 80)) := by show _ = _; rw [Req.encode, hm]; rfl
    rw [show chkI false = 80 from rfl]
    go_wp2
    go_ret2
    exact ⟨by rw [Req.encodeV, HE.out]; rfl, hb2⟩
  · have HE : Hid (r.encode = Go.Proofs.Ytkjcfkninmmbhaa.encode r.fields) := by show _ = _; rw [Req.encode, hm]; rfl
    rw [show chkI true = 0 from rfl]
    go_wp2_with fail
    refine (requestFields_op r a cap _ (hl.below hb2) (Req.may_len hm)).mono ?_
    rintro e w3 ⟨v, rfl, hown, hb3⟩
    obtain ⟨a3, c3, rfl, hl3⟩ := own_lies hown
    have hb4 := hb2.trans (hb3.mono hb2.size)
    have hz4 := hb4.size
    go_wp2_with fail
    have hlen := Req.fields_len r
    have hm32 := Req.may_len hm
    refine (Encode_any a3 c3 r.fields _ hl3 (by omega) (fields_size hs)).mono ?_
    rintro e w5 ⟨rfl, hb5⟩
    have hb6 := hb4.trans (hb5.mono hz4)
    go_wp2
    go_ret2
    exact ⟨by rw [Req.encodeV, HE.out]; rfl, hb6⟩

/-- the chapter's example -/
def exR : Req := ⟨3, 1, [⟨5, ⟨#[107]⟩, ⟨#[]⟩, 0, 0, 0⟩]⟩
def exN : Req := ⟨3, 1, []⟩
theorem exR_enc : exR.encode = (⟨#[78, 1, 3, 78, 1, 1, 78, 1, 1, 78, 1, 5, 84, 1, 1, 107, 84, 0, 78, 0, 78, 0, 78, 0]⟩, 0) := by kernel_rfl
theorem exN_enc : exN.encode = (⟨#[]⟩, 80) := by kernel_rfl

set_option maxRecDepth 100000 in
set_option maxHeartbeats 800000 in
theorem works_op (w : World) :
    Calls Try.prog 19 #[] w fun e w' => e = .returned (.bool true) ∧ Below w.heap.size w w' := by
  have hb0 : ∀ o, Below w.heap.size w (w.alloc o) := fun o => (Below.refl _ _).alloc (Nat.le_refl _) o
  go_enter Try.func19, Try.ntmps19
  go_wp2_with fail
  refine (Encode_op exR (some ⟨w.heap.size, 0, none⟩) 1 _ (Or.inr ⟨w.heap.size, 0, rfl, by simp, ?hc⟩) (by decide) ?hs).mono ?_
  case hc => exact fun j u hj => new_cells w (rc oenc exR.ops) 29 j u hj
  case hs => intro x hx; simp only [exR, List.mem_singleton] at hx; subst hx; decide
  rintro e w1 ⟨rfl, hb1⟩
  rw [Req.encodeV, exR_enc]
  have hb2 := (hb0 _).trans (hb1.mono (by simp))
  go_wp2_with fail
  refine (Encode_op exN none 0 _ (Or.inl rfl) (by decide) (by simp [exN])).mono ?_
  rintro e w3 ⟨rfl, hb3⟩
  rw [Req.encodeV, exN_enc]
  have hb4 := hb2.trans (hb3.mono hb2.size)
  go_wp2
  go_ret
  exact ⟨rfl, hb4⟩

end Go.Proofs.Ytkjcfkninmmbhaa.Oq
