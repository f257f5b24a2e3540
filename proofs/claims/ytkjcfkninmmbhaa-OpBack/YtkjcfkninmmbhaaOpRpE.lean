/- Layer 8: the bytes of a reply. -/
import Derived.Test.YtkjcfkninmmbhaaOpRpN
import Derived.Test.YtkjcfkninmmbhaaOpRpF
namespace Go.Proofs.Ytkjcfkninmmbhaa.Oq
open Go.RowKit Go.Joins Go.Proofs.Ytkjcfkninmmbhaa.Gk

def Rp.encode (x : Rp) : ByteArray × Nat := if x.may then Go.Proofs.Ytkjcfkninmmbhaa.encode x.fields else (⟨#[]⟩, 80)
abbrev Rp.encodeV (x : Rp) : Value := .tuple #[.string x.encode.1, .int .i64 x.encode.2]

theorem Rp.may_len {x : Rp} (h : x.may = true) : x.results.length ≤ 32 ∧ ∀ y ∈ x.results, y.may = true := by
  unfold Rp.may at h
  rw [Bool.and_eq_true] at h
  by_cases e : x.results.length = 0
  · rw [List.eq_nil_of_length_eq_zero e]
    exact ⟨Nat.zero_le _, fun y hy => by cases hy⟩
  · rw [if_neg e, Bool.and_eq_true, Bool.and_eq_true] at h
    exact ⟨of_decide_eq_true h.2.1.1, List.all_eq_true.1 h.2.2⟩
theorem Rs.may_rows {x : Rs} (h : x.may = true) : x.rows.length ≤ 100 ∧ x.val.size ≤ 8192 ∧ ∀ y ∈ x.rows, y.key.size ≤ 64 ∧ y.val.size ≤ 8192 := by
  unfold Rs.may at h
  simp only [Bool.and_eq_true, List.all_eq_true] at h
  refine ⟨of_decide_eq_true h.1.2, of_decide_eq_true h.1.1.2, fun y hy => ?_⟩
  have := h.2 y hy
  unfold Rw.may at this
  simp only [Bool.and_eq_true] at this
  have hk := within_iff.1 this.1.1
  exact ⟨by omega, of_decide_eq_true this.2⟩
theorem Rp.small {x : Rp} (h : x.may = true) : ∀ f ∈ x.fields, f.s.size ≤ 8192 := by
  have hm := (Rp.may_len h).2
  intro f hf
  unfold Rp.fields at hf
  rcases List.mem_append.1 hf with hh | hh
  · simp only [List.mem_cons, List.not_mem_nil, or_false] at hh
    rcases hh with rfl | rfl | rfl | rfl | rfl <;> exact Nat.zero_le _
  · obtain ⟨y, hy, hh⟩ := List.mem_flatMap.1 hh
    have hr := Rs.may_rows (hm y hy)
    unfold Rs.fields at hh
    rcases List.mem_append.1 hh with h1 | h1
    · simp only [List.mem_cons, List.not_mem_nil, or_false] at h1
      rcases h1 with rfl | rfl | rfl | rfl <;> first | exact Nat.zero_le _ | exact hr.2.1
    · obtain ⟨z, hz, h2⟩ := List.mem_flatMap.1 h1
      have := hr.2.2 z hz
      simp only [Rw.fields, List.mem_cons, List.not_mem_nil, or_false] at h2
      rcases h2 with rfl | rfl | rfl <;> first | exact Nat.zero_le _ | exact Nat.le_trans this.1 (by decide) | exact this.2
theorem Rp.flen {x : Rp} (h : x.may = true) : x.fields.length ≤ 9733 := by
  obtain ⟨h1, h2⟩ := Rp.may_len h
  unfold Rp.fields
  rw [List.length_append]
  have := ress_flen x.results (fun y hy => (Rs.may_rows (h2 y hy)).1)
  simp only [List.length_cons, List.length_nil]
  omega

set_option maxRecDepth 100000 in
set_option maxHeartbeats 800000 in
theorem EncodeReply_op (client seq at_ code : Int) (l : List RsA) (a : Option Addr) (cap : Nat) (w : World) (hl : ResL w a l) (hn : l.length ≤ 9223372036854775807) (hr : ∀ x ∈ l, x.r.rows.length ≤ 9223372036854775807) :
    Calls Try.prog 21 #[rpV client seq at_ code a l.length cap] w fun e w' => e = .returned (Rp.encodeV ⟨client, seq, l.map RsA.r, at_, code⟩) ∧ Below w.heap.size w w' := by
  obtain ⟨W, hW⟩ : ∃ W, W = w.alloc (.cells #[.int .i64 client, .int .i64 seq, .slice a l.length cap, .int .i64 at_, .int .i64 code] 44) := ⟨_, rfl⟩
  have hbW : Below w.heap.size w W := by rw [hW]; exact (Below.refl _ _).alloc (Nat.le_refl _) _
  have hzW : w.heap.size < W.heap.size := by rw [hW]; simp
  have x0 : W.cell? ⟨w.heap.size, 0, none⟩ = some (.int .i64 client) := by rw [hW]; simp
  have x1 : W.cell? ⟨w.heap.size, 1, none⟩ = some (.int .i64 seq) := by rw [hW]; simp
  have x2 : W.cell? ⟨w.heap.size, 2, none⟩ = some (.slice a l.length cap) := by rw [hW]; simp
  have x3 : W.cell? ⟨w.heap.size, 3, none⟩ = some (.int .i64 at_) := by rw [hW]; simp
  have x4 : W.cell? ⟨w.heap.size, 4, none⟩ = some (.int .i64 code) := by rw [hW]; simp
  obtain ⟨P, hP⟩ : ∃ P : Rp, P = ⟨client, seq, l.map RsA.r, at_, code⟩ := ⟨_, rfl⟩
  have hRM := replyMayBe_op client seq at_ code l a cap W (hl.below hbW) hn hr
  have hRF := replyFields_op client seq at_ code l a cap
  rw [← hP] at hRM hRF ⊢
  have hP' := hide hP
  clear hP
  go_enter Try.func21, Try.ntmps21
  go_wp2_with fail
  rw [← hW]
  clear hW
  refine hRM.mono ?_
  rintro e w1 ⟨rfl, hb1⟩
  have hb2 := hbW.trans (hb1.mono (by omega))
  have y0 := (hb1.cell (p := ⟨w.heap.size, 0, none⟩) hzW).trans x0
  have y1 := (hb1.cell (p := ⟨w.heap.size, 1, none⟩) hzW).trans x1
  have y2 := (hb1.cell (p := ⟨w.heap.size, 2, none⟩) hzW).trans x2
  have y3 := (hb1.cell (p := ⟨w.heap.size, 3, none⟩) hzW).trans x3
  have y4 := (hb1.cell (p := ⟨w.heap.size, 4, none⟩) hzW).trans x4
  clear x0 x1 x2 x3 x4 hRM
  cases hm : P.may
  · have HE : Hid (P.encode = (⟨#[]⟩, 80)) := by show _ = _; rw [Rp.encode, hm]; rfl
    clear hRF
    go_wp2
    go_ret2
    exact ⟨by rw [Rp.encodeV, HE.out]; rfl, hb2⟩
  · have HE : Hid (P.encode = Go.Proofs.Ytkjcfkninmmbhaa.encode P.fields) := by show _ = _; rw [Rp.encode, hm]; rfl
    have hml := Rp.may_len hm
    have hfl := hide (Rp.flen hm)
    have hsm := hide (Rp.small hm)
    have hl32 : l.length ≤ 32 := by have := hml.1; rw [hP'.out] at this; simpa using this
    have hl100 : ∀ x ∈ l, x.r.rows.length ≤ 100 := fun x hx => (Rs.may_rows (hml.2 x.r (by rw [hP'.out]; exact List.mem_map.2 ⟨x, hx, rfl⟩))).1
    clear hml
    go_wp2_with fail
    refine (hRF w1 (hl.below hb2) hl32 hl100).mono ?_
    rintro e w3 ⟨v, rfl, hown, hb3⟩
    obtain ⟨a3, c3, rfl, hl3⟩ := own_lies hown
    have hb4 := hb2.trans (hb3.mono hb2.size)
    have hz4 := hb4.size
    go_wp2_with fail
    refine (Encode_any a3 c3 P.fields _ hl3 (by have := hfl.out; omega) (fun x hx => Nat.le_trans (hsm.out x hx) (by decide))).mono ?_
    rintro e w5 ⟨rfl, hb5⟩
    have hb6 := hb4.trans (hb5.mono hz4)
    go_wp2
    go_ret2
    exact ⟨by rw [Rp.encodeV, HE.out]; rfl, hb6⟩

end Go.Proofs.Ytkjcfkninmmbhaa.Oq
