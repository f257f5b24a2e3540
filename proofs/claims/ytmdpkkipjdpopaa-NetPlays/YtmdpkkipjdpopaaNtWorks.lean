/- The walk over works(), the chapter's example. -/
import Derived.Test.YtmdpkkipjdpopaaNtOk
namespace Go.Proofs.Ytmdpkkipjdpopaa.Nk
open Go.RowKit Go.Joins Gk

abbrev above (w : World) : Nat → Prop := fun b => w.heap.size ≤ b
theorem fresh_above (w : World) {w' : World} (h : w.heap.size ≤ w'.heap.size) : Fresh (above w) w' := fun _ hb => Nat.le_trans h hb
theorem Only.toBelow {w w1 w2 : World} (h1 : Below w.heap.size w w1) (h : Only (above w) w1 w2) : Below w.heap.size w w2 := h1.trans (h.below h1.size fun _ hb => hb)

def exA : ByteArray := ⟨#[97]⟩
def ex0 : Nst := ⟨3, 0, [], []⟩

set_option maxHeartbeats 3200000 in
theorem works_any (w : World) : Calls Try.prog 12 #[] w fun e w' => e = .returned (.bool true) ∧ Below w.heap.size w w' := by
  have ok0 : ex0.Ok := Nst.Ok.new (by omega) (by omega)
  obtain ⟨S1, hS1⟩ : ∃ S1, S1 = ex0.send 0 1 exA := ⟨_, rfl⟩
  have e1 : S1.1 = (0, 0) := by rw [hS1]; decide
  have ok1 : S1.2.Ok := by rw [hS1]; exact ok0.send _ _ _
  obtain ⟨S2, hS2⟩ : ∃ S2, S2 = S1.2.copy 0 := ⟨_, rfl⟩
  have e2 : S2.1 = (1, 0) := by rw [hS2, hS1]; decide
  have ok2 : S2.2.Ok := by rw [hS2]; exact ok1.copy _
  obtain ⟨S3, hS3⟩ : ∃ S3, S3 = S2.2.part 1 0 := ⟨_, rfl⟩
  have e3 : S3.1 = 0 := by rw [hS3, hS2, hS1]; decide
  have ok3 : S3.2.Ok := by rw [hS3]; exact ok2.part _ _
  obtain ⟨S4, hS4⟩ : ∃ S4, S4 = S3.2.take 0 := ⟨_, rfl⟩
  have e4 : S4.1.2 = 4 := by rw [hS4, hS3, hS2, hS1]; decide
  have e4' : S4.1.1 = none := by rw [hS4, hS3, hS2, hS1]; rfl
  have ok4 : S4.2.Ok := by rw [hS4]; exact ok3.take _
  obtain ⟨S5, hS5⟩ : ∃ S5, S5 = S4.2.join 0 1 := ⟨_, rfl⟩
  have e5 : S5.1 = 0 := by rw [hS5, hS4, hS3, hS2, hS1]; decide
  have ok5 : S5.2.Ok := by rw [hS5]; exact ok4.join _ _
  obtain ⟨S6, hS6⟩ : ∃ S6, S6 = S5.2.take 1 := ⟨_, rfl⟩
  have e6 : S6.1.2 = 0 := by rw [hS6, hS5, hS4, hS3, hS2, hS1]; decide
  have e6' : S6.1.1 = some ⟨1, 0, 1, exA⟩ := by rw [hS6, hS5, hS4, hS3, hS2, hS1]; rfl
  have ok6 : S6.2.Ok := by rw [hS6]; exact ok5.take _
  obtain ⟨S7, hS7⟩ : ∃ S7, S7 = S6.2.lose 0 := ⟨_, rfl⟩
  have e7 : S7.1 = 0 := by rw [hS7, hS6, hS5, hS4, hS3, hS2, hS1]; decide
  have e7' : S7.2.ls = [] := by rw [hS7, hS6, hS5, hS4, hS3, hS2, hS1]; rfl
  have ok7 : S7.2.Ok := by rw [hS7]; exact ok6.lose _
  have hsA : exA.size ≤ 140737488351232 := by decide
  have c1 : ∀ W bn, NHeld W (above w) bn ex0 → w.heap.size ≤ W.heap.size → Calls Try.prog 13 #[.pointer (some ⟨bn, 0, none⟩), .int .i64 0, .int .i64 1, .string ⟨#[97]⟩] W fun e w' => e = .returned (.tuple #[.int .i64 0, .int .i64 0]) ∧ NHeld w' (above w) bn S1.2 ∧ Only (above w) W w' := fun W bn h hz => by
    have := send_any W h (fresh_above w hz) ok0 0 1 exA hsA
    rw [← hS1, e1] at this; exact this
  have c2 : ∀ W bn, NHeld W (above w) bn S1.2 → w.heap.size ≤ W.heap.size → Calls Try.prog 14 #[.pointer (some ⟨bn, 0, none⟩), .int .i64 0] W fun e w' => e = .returned (.tuple #[.int .i64 1, .int .i64 0]) ∧ NHeld w' (above w) bn S2.2 ∧ Only (above w) W w' := fun W bn h hz => by
    have := copy_any W h (fresh_above w hz) ok1 0
    rw [← hS2, e2] at this; exact this
  have c3 : ∀ W bn, NHeld W (above w) bn S2.2 → w.heap.size ≤ W.heap.size → Calls Try.prog 20 #[.pointer (some ⟨bn, 0, none⟩), .int .i64 1, .int .i64 0] W fun e w' => e = .returned (.int .i64 0) ∧ NHeld w' (above w) bn S3.2 ∧ Only (above w) W w' := fun W bn h hz => by
    have := part_any W h (fresh_above w hz) ok2 1 0
    rw [← hS3, e3] at this; exact this
  have c4 : ∀ W bn, NHeld W (above w) bn S3.2 → Calls Try.prog 18 #[.pointer (some ⟨bn, 0, none⟩), .int .i64 0] W fun e w' => e = .returned (.tuple #[noL, .int .i64 4]) ∧ NHeld w' (above w) bn S4.2 ∧ Only (above w) W w' := fun W bn h => by
    have := take_any W h ok3 0
    rw [← hS4, e4, e4'] at this; exact this
  have c5 : ∀ W bn, NHeld W (above w) bn S4.2 → Calls Try.prog 21 #[.pointer (some ⟨bn, 0, none⟩), .int .i64 0, .int .i64 1] W fun e w' => e = .returned (.int .i64 0) ∧ NHeld w' (above w) bn S5.2 ∧ Only (above w) W w' := fun W bn h => by
    have := join_any W h ok4 0 1
    rw [← hS5, e5] at this; exact this
  have c6 : ∀ W bn, NHeld W (above w) bn S5.2 → Calls Try.prog 18 #[.pointer (some ⟨bn, 0, none⟩), .int .i64 1] W fun e w' => e = .returned (.tuple #[.agg #[.int .i64 1, .int .i64 0, .int .i64 1, .string ⟨#[97]⟩], .int .i64 0]) ∧ NHeld w' (above w) bn S6.2 ∧ Only (above w) W w' := fun W bn h => by
    have := take_any W h ok5 1
    rw [← hS6, e6, e6'] at this; exact this
  have c7 : ∀ W bn, NHeld W (above w) bn S6.2 → Calls Try.prog 15 #[.pointer (some ⟨bn, 0, none⟩), .int .i64 0] W fun e w' => e = .returned (.int .i64 0) ∧ NHeld w' (above w) bn S7.2 ∧ Only (above w) W w' := fun W bn h => by
    have := lose_any W h ok6 0
    rw [← hS7, e7] at this; exact this
  have c8 : ∀ W bn, NHeld W (above w) bn S7.2 → Calls Try.prog 17 #[.pointer (some ⟨bn, 0, none⟩)] W fun e w' => ∃ a cap, e = .returned (.slice a 0 cap) ∧ Below W.heap.size W w' := fun W bn h => by
    refine (letters_any W h ok7).mono ?_
    rintro e w' ⟨v, rfl, hown, hb⟩
    rw [e7'] at hown
    obtain ⟨a, cap, rfl⟩ := own_slice hown
    exact ⟨a, cap, rfl, hb⟩
  clear hS1 hS2 hS3 hS4 hS5 hS6 hS7 e1 e2 e3 e4 e4' e5 e6 e6' e7 e7' ok0 ok1 ok2 ok3 ok4 ok5 ok6 ok7 hsA
  go_enter Try.func12, Try.ntmps12
  go_wp2_with fail
  refine (new_ok 3 _ (by omega) (by omega) (above w) (Nat.le_refl _)).mono ?_
  rintro e w0 ⟨bn, rfl, hbn, hh0, hb0⟩
  have hh0' : NHeld w0 (above w) bn ex0 := hh0
  clear hbn hh0
  go_wp2_with fail
  refine (c1 w0 bn hh0' hb0.size).mono ?_
  rintro e w1 ⟨rfl, hh1, ho1⟩
  have hb1 := Only.toBelow hb0 ho1
  clear ho1 hb0 c1 hh0'
  go_wp2_with fail
  refine (c2 w1 bn hh1 hb1.size).mono ?_
  rintro e w2 ⟨rfl, hh2, ho2⟩
  have hb2 := Only.toBelow hb1 ho2
  clear ho2 hb1 c2 hh1
  go_wp2_with fail
  refine (c3 w2 bn hh2 hb2.size).mono ?_
  rintro e w3 ⟨rfl, hh3, ho3⟩
  have hb3 := Only.toBelow hb2 ho3
  clear ho3 hb2 c3 hh2
  go_wp2_with fail
  refine (c4 w3 bn hh3).mono ?_
  rintro e w4 ⟨rfl, hh4, ho4⟩
  have hb4 := Only.toBelow hb3 ho4
  clear ho4 hb3 c4 hh3
  go_wp2_with fail
  refine (c5 w4 bn hh4).mono ?_
  rintro e w5 ⟨rfl, hh5, ho5⟩
  have hb5 := Only.toBelow hb4 ho5
  clear ho5 hb4 c5 hh4
  go_wp2_with fail
  refine (c6 w5 bn hh5).mono ?_
  rintro e w6 ⟨rfl, hh6, ho6⟩
  have hb6 := Only.toBelow hb5 ho6
  clear ho6 hb5 c6 hh5
  go_wp2_with fail
  refine (c7 _ bn (hh6.below (below_alloc1 w6 _))).mono ?_
  rintro e w7 ⟨rfl, hh7, ho7⟩
  have hb7 := Only.toBelow (hb6.alloc hb6.size _) ho7
  clear ho7 hb6 c7 hh6
  go_wp2_with fail
  refine (c8 w7 bn hh7).mono ?_
  rintro e w8 ⟨a8, cap8, rfl, hb8⟩
  clear c8
  go_wp2
  go_ret
  exact ⟨rfl, hb7.trans (hb8.mono hb7.size)⟩

end Go.Proofs.Ytmdpkkipjdpopaa.Nk
