/- Layer 8: the reader of fields: number, text, count, isDone. -/
import Derived.Test.YtkjcfkninmmbhaaOpRd
namespace Go.Proofs.Ytkjcfkninmmbhaa.Oq
open Go.RowKit Go.Joins Go.Proofs.Ytkjcfkninmmbhaa.Gk

theorem field_n (b : Bool) (n : Int) (s : ByteArray) (w : World) : (Instr.field 77 (.agg #[.bool b, .int .i64 n, .string s]) 1).run Try.prog w = .ok (.int .i64 n) w := by kernel_rfl
theorem field_s (b : Bool) (n : Int) (s : ByteArray) (w : World) : (Instr.field 77 (.agg #[.bool b, .int .i64 n, .string s]) 2).run Try.prog w = .ok (.string s) w := by kernel_rfl

set_option maxRecDepth 100000 in
set_option maxHeartbeats 400000 in
theorem number_rd (S : Rd) (br : Nat) (w : World) (h : RdH w br S) :
    Calls Try.prog 64 #[.pointer (some ⟨br, 0, none⟩)] w fun e w' => e = .returned (.int .i64 S.num.1) ∧ RdH w' br S.num.2 ∧ One br w w' := by
  go_enter Try.func64, Try.ntmps64
  go_wp2_with fail
  refine (next_op S false br w h).mono ?_
  rintro e w1 ⟨rfl, h1, hO⟩
  have hfd := fun w => field_n (S.next false).1.text (S.next false).1.n (S.next false).1.s w
  go_wp2
  go_ret
  exact ⟨rfl, h1, hO⟩

set_option maxRecDepth 100000 in
set_option maxHeartbeats 400000 in
theorem text_rd (S : Rd) (br : Nat) (w : World) (h : RdH w br S) :
    Calls Try.prog 87 #[.pointer (some ⟨br, 0, none⟩)] w fun e w' => e = .returned (.string S.txt.1) ∧ RdH w' br S.txt.2 ∧ One br w w' := by
  go_enter Try.func87, Try.ntmps87
  go_wp2_with fail
  refine (next_op S true br w h).mono ?_
  rintro e w1 ⟨rfl, h1, hO⟩
  have hfd := fun w => field_s (S.next true).1.text (S.next true).1.n (S.next true).1.s w
  go_wp2
  go_ret
  exact ⟨rfl, h1, hO⟩

set_option maxRecDepth 100000 in
set_option maxHeartbeats 400000 in
theorem within0_rd (S : Rd) (most : Int) (br : Nat) (w : World) (h : RdH w br S) :
    Calls Try.prog 86 #[.pointer (some ⟨br, 0, none⟩), .int .i64 0, .int .i64 most] w fun e w' => e = .returned (.int .i64 (S.count most).1) ∧ RdH w' br (S.count most).2 ∧ One br w w' := by
  go_enter Try.func86, Try.ntmps86
  go_wp2_with fail
  refine (number_rd S br w h).mono ?_
  rintro e w1 ⟨rfl, h1, hO⟩
  by_cases hlo : S.num.1 < 0
  · have HC : Hid (S.count most = (0, ⟨S.num.2.rest, true⟩)) := by show _ = _; rw [Rd.count, if_neg (fun h => by have := (within_iff.1 h).1; omega)]
    obtain ⟨a, c, h2⟩ := h1
    have f1 := h2.fz 1
    have c1 := h2.c1
    have H2 := hide h2
    clear h2
    go_wp2
    go_ret
    rw [HC.out]
    exact ⟨rfl, ⟨a, c, H2.out.spoilt⟩, hO.trans (One.set _ br 1 _)⟩
  · by_cases hhi : most < S.num.1
    · have HC : Hid (S.count most = (0, ⟨S.num.2.rest, true⟩)) := by show _ = _; rw [Rd.count, if_neg (fun h => by have := (within_iff.1 h).2; omega)]
      obtain ⟨a, c, h2⟩ := h1
      have f1 := h2.fz 1
      have c1 := h2.c1
      have H2 := hide h2
      clear h2
      go_wp2
      go_ret
      rw [HC.out]
      exact ⟨rfl, ⟨a, c, H2.out.spoilt⟩, hO.trans (One.set _ br 1 _)⟩
    · have HC : Hid (S.count most = S.num) := by show _ = _; rw [Rd.count, if_pos (within_iff.2 ⟨by omega, by omega⟩)]
      go_wp2
      go_ret
      rw [HC.out]
      exact ⟨rfl, h1, hO⟩

set_option maxRecDepth 100000 in
set_option maxHeartbeats 400000 in
theorem count_rd (S : Rd) (most : Int) (br : Nat) (w : World) (h : RdH w br S) :
    Calls Try.prog 65 #[.pointer (some ⟨br, 0, none⟩), .int .i64 most] w fun e w' => e = .returned (.int .i64 (S.count most).1) ∧ RdH w' br (S.count most).2 ∧ One br w w' := by
  have HW := hide (within0_rd S most br w h)
  go_enter Try.func65, Try.ntmps65
  go_wp2_with fail
  refine HW.out.mono ?_
  rintro e w1 ⟨rfl, h1, hO⟩
  go_wp2
  go_ret
  exact ⟨rfl, h1, hO⟩

def Rd.done (S : Rd) : Bool := !S.wrong && S.rest.length == 0
set_option maxRecDepth 100000 in
set_option maxHeartbeats 400000 in
theorem isDone_rd (S : Rd) (br : Nat) (w : World) (h : RdH w br S) :
    Calls Try.prog 35 #[.pointer (some ⟨br, 0, none⟩)] w fun e w' => e = .returned (.bool S.done) ∧ w' = w := by
  obtain ⟨a, c, h⟩ := h
  have c0 := h.c0
  have c1 := h.c1
  clear h
  obtain ⟨rest, wr⟩ := S
  simp only at c0 c1
  cases wr
  · go_enter Try.func35, Try.ntmps35
    go_wp2
    go_ret
    refine ⟨?_, rfl⟩
    show Ending.returned (.bool ((rest.length : Int) == 0)) = Ending.returned (.bool (!false && rest.length == 0))
    congr 2
    rw [Bool.eq_iff_iff]
    simp
  · go_enter Try.func35, Try.ntmps35
    go_wp2
    go_ret
    exact ⟨rfl, rfl⟩

end Go.Proofs.Ytkjcfkninmmbhaa.Oq
