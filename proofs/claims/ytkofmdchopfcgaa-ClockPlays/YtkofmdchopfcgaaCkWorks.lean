/- The bounds stay; works(), the chapter's example. -/
import Derived.Test.YtkofmdchopfcgaaCkNew
namespace Go.Proofs.Ytkofmdchopfcgaa.Ck
open Go.RowKit Go.Joins Gk

section
variable {S : Cst}
theorem Cst.Ok.setT (h : S.Ok) (i : Nat) {x : Int} (hx : 0 ≤ x ∧ x ≤ 1073741824) : Cst.Ok { S with ts := S.ts.set i x } :=
  ⟨by simpa using h.n1, by simpa using h.n2, fun t ht => (List.mem_or_eq_of_mem_set ht).elim (h.each t) (fun e => e ▸ hx), h.wd⟩
theorem Cst.Ok.step (h : S.Ok) (x n : Int) : (S.step x n).2.Ok := by
  unfold Cst.step
  split
  · split
    · rename_i hx hg
      have := mayGo_zero.1 hg
      have := h.tm hx
      exact h.setT _ (by omega)
    · exact h
  · exact h
theorem Cst.Ok.all (h : S.Ok) (n : Int) : (S.all n).2.Ok := by
  unfold Cst.all
  split
  · rename_i hg
    have h1 := mayGo_zero.1 hg
    refine ⟨by simpa using h.n1, by simpa using h.n2, fun t ht => ?_, h.wd⟩
    obtain ⟨y, hy, rfl⟩ := List.mem_map.1 ht
    have := h.each y hy
    have : y ≤ S.most := (mostL_is h.n1).2 y hy
    omega
  · exact h
theorem Cst.Ok.draw (h : S.Ok) (n : Int) : (S.draw n).2.Ok := by
  unfold Cst.draw
  split
  · exact ⟨h.n1, h.n2, h.each, nextW_range _⟩
  · exact h
theorem Cst.step_len (S : Cst) (x n : Int) : (S.step x n).2.ts.length = S.ts.length := by
  unfold Cst.step
  split
  · split <;> simp
  · rfl
theorem Cst.all_len (S : Cst) (n : Int) : (S.all n).2.ts.length = S.ts.length := by
  unfold Cst.all
  split <;> simp
theorem Cst.draw_ts (S : Cst) (n : Int) : (S.draw n).2.ts = S.ts := by
  unfold Cst.draw
  split <;> rfl
end

theorem below_only {w W W' : World} {bc g : Nat} (hb : Below w.heap.size w W) (ho : Only (two bc g) W W') (h1 : w.heap.size ≤ bc) (h2 : w.heap.size ≤ g) : Below w.heap.size w W' :=
  hb.trans (ho.below hb.size fun b hb => by rcases hb with rfl | rfl <;> assumption)

def ex0 : Cst := Cst.new 2 0

set_option maxHeartbeats 3200000 in
theorem works_any (w : World) : Calls Try.prog 22 #[] w fun e w' => e = .returned (.bool true) ∧ Below w.heap.size w w' := by
  have ok0 : ex0.Ok := Cst.new_ok (by omega) (by omega) (by omega)
  obtain ⟨S1, hS1⟩ : ∃ S1, S1 = ex0.draw 1000 := ⟨_, rfl⟩
  have e1 : S1.1 = (535, 0) := by rw [hS1]; decide +kernel
  have ok1 : S1.2.Ok := by rw [hS1]; exact ok0.draw _
  obtain ⟨S2, hS2⟩ : ∃ S2, S2 = S1.2.draw 1000 := ⟨_, rfl⟩
  have e2 : S2.1 = (700, 0) := by rw [hS2, hS1]; decide +kernel
  have ok2 : S2.2.Ok := by rw [hS2]; exact ok1.draw _
  obtain ⟨S3, hS3⟩ : ∃ S3, S3 = S2.2.step 1 5 := ⟨_, rfl⟩
  have e3 : S3.1 = (5, 0) := by rw [hS3, hS2, hS1]; decide +kernel
  have ok3 : S3.2.Ok := by rw [hS3]; exact ok2.step _ _
  have e4 : S3.2.apart = 5 := by rw [hS3, hS2, hS1]; decide +kernel
  have c1 : ∀ W bc g, CHeld W ClkT bc g ex0 → Calls Try.prog 14 #[.pointer (some ⟨bc, 0, none⟩), .int .i64 1000] W fun e w' => e = .returned (.tuple #[.int .i64 535, .int .i64 0]) ∧ CHeld w' ClkT bc g S1.2 ∧ Only (two bc g) W w' := fun W bc g h => by
    have := draw_any W h 1000
    rw [← hS1, e1] at this; exact this
  have c2 : ∀ W bc g, CHeld W ClkT bc g S1.2 → Calls Try.prog 14 #[.pointer (some ⟨bc, 0, none⟩), .int .i64 1000] W fun e w' => e = .returned (.tuple #[.int .i64 700, .int .i64 0]) ∧ CHeld w' ClkT bc g S2.2 ∧ Only (two bc g) W w' := fun W bc g h => by
    have := draw_any W h 1000
    rw [← hS2, e2] at this; exact this
  have c3 : ∀ W bc g, CHeld W ClkT bc g S2.2 → Calls Try.prog 10 #[.pointer (some ⟨bc, 0, none⟩), .int .i64 1, .int .i64 5] W fun e w' => e = .returned (.tuple #[.int .i64 5, .int .i64 0]) ∧ CHeld w' ClkT bc g S3.2 ∧ Only (two bc g) W w' := fun W bc g h => by
    have := step_any W h ok2 1 5
    rw [← hS3, e3] at this; exact this
  have c4 : ∀ W bc g, CHeld W ClkT bc g S3.2 → Calls Try.prog 20 #[.pointer (some ⟨bc, 0, none⟩)] W fun e w' => e = .returned (.int .i64 5) ∧ Sw W w' := fun W bc g h => by
    have := apart_any W h ok3
    rw [e4] at this; exact this
  clear hS1 hS2 hS3 e1 e2 e3 e4 ok0 ok1 ok2 ok3
  go_enter Try.func22, Try.ntmps22
  go_wp2_with fail
  refine (new_ok 2 0 _ (by omega) (by omega) (by omega)).mono ?_
  rintro e w0 ⟨bc, g, rfl, hbc, hg, hh0, hb0⟩
  have hh0' : CHeld w0 ClkT bc g ex0 := hh0
  clear hh0
  go_wp2_with fail
  refine (c1 w0 bc g hh0').mono ?_
  rintro e w1 ⟨rfl, hh1, ho1⟩
  have hb1 := below_only hb0 ho1 hbc hg
  clear ho1 hb0 c1 hh0'
  go_wp2_with fail
  refine (c2 w1 bc g hh1).mono ?_
  rintro e w2 ⟨rfl, hh2, ho2⟩
  have hb2 := below_only hb1 ho2 hbc hg
  clear ho2 hb1 c2 hh1
  go_wp2_with fail
  refine (c3 w2 bc g hh2).mono ?_
  rintro e w3 ⟨rfl, hh3, ho3⟩
  have hb3 := below_only hb2 ho3 hbc hg
  clear ho3 hb2 c3 hh2
  go_wp2_with fail
  refine (c4 w3 bc g hh3).mono ?_
  rintro e w4 ⟨rfl, hs4⟩
  clear c4
  go_wp2
  go_ret
  exact ⟨rfl, hb3.trans (hs4.2.mono hb3.size)⟩

end Go.Proofs.Ytkofmdchopfcgaa.Ck
