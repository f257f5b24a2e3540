/- Walks over skylarkref04, the document's answer. -/
import Derived.Test.YtkofmdchopfcgaaCkWorks
namespace Go.Proofs.Ytkofmdchopfcgaa.Ck
open Go.RowKit Go.Joins Gk

abbrev RClkT : TypeId := 53

section
variable {bc g cap : Nat} {S : Cst}
set_option maxHeartbeats 400000 in
theorem rnone_any (w : World) (h : CHeldL w RClkT bc g S cap) (x : Int) :
    Calls Try.prog 28 #[.pointer (some ⟨bc, 0, none⟩), .int .i64 x] w fun e w' => e = .returned (.bool (!S.has x)) ∧ w' = w := by
  have c0 := h.c0
  by_cases h0 : 0 ≤ x
  · by_cases h1 : x < S.ts.length
    · have hv : S.has x = true := Cst.has_iff.2 ⟨h0, h1⟩
      rw [hv]
      have h0' : ¬ x < 0 := by omega
      have h1' : ¬ (S.ts.length : Int) ≤ x := by omega
      go_enter Try.func28, Try.ntmps28
      go_wp2
      go_ret
      exact ⟨rfl, rfl⟩
    · have hv : S.has x = false := by simp [Cst.has, h1]
      rw [hv]
      have h0' : ¬ x < 0 := by omega
      have h1' : (S.ts.length : Int) ≤ x := by omega
      go_enter Try.func28, Try.ntmps28
      go_wp2
      go_ret
      exact ⟨rfl, rfl⟩
  · have hv : S.has x = false := by simp [Cst.has, h0]
    rw [hv]
    have h0' : x < 0 := by omega
    go_enter Try.func28, Try.ntmps28
    go_wp2
    go_ret
    exact ⟨rfl, rfl⟩

set_option maxHeartbeats 400000 in
theorem rnow_any (w : World) (h : CHeld w RClkT bc g S) (x : Int) :
    Calls Try.prog 17 #[.pointer (some ⟨bc, 0, none⟩), .int .i64 x] w fun e w' => e = .returned (.tuple #[.int .i64 (S.now x).1, .int .i64 (S.now x).2]) ∧ w' = w := by
  obtain ⟨cap, h⟩ := h
  have hH := rnone_any w h x
  cases hx : S.has x with
  | false =>
    have hv : S.now x = (0, 30) := by simp [Cst.now, hx]
    rw [hv]
    rw [hx] at hH
    go_enter Try.func17, Try.ntmps17
    go_wp2_with (go_at_call 28; refine hH.mono ?_; rintro e w1 ⟨rfl, rfl⟩)
    go_ret2
    exact ⟨rfl, rfl⟩
  | true =>
    have hv : S.now x = (S.tm x, 0) := by simp [Cst.now, hx]
    rw [hv]
    rw [hx] at hH
    have c0 := h.c0
    have ct := tm_cell h hx
    obtain ⟨h0, h1⟩ := Cst.has_iff.1 hx
    go_enter Try.func17, Try.ntmps17
    go_wp2_with (go_at_call 28; refine hH.mono ?_; rintro e w1 ⟨rfl, rfl⟩)
    go_ret2
    exact ⟨rfl, rfl⟩

set_option maxHeartbeats 1600000 in
theorem rstep_any (w : World) (h : CHeld w RClkT bc g S) (hok : S.Ok) (x n : Int) :
    Calls Try.prog 11 #[.pointer (some ⟨bc, 0, none⟩), .int .i64 x, .int .i64 n] w fun e w' => e = .returned (.tuple #[.int .i64 (S.step x n).1.1, .int .i64 (S.step x n).1.2]) ∧ CHeld w' RClkT bc g (S.step x n).2 ∧ Only (two bc g) w w' := by
  obtain ⟨cap, h⟩ := h
  have hH := rnone_any w h x
  cases hx : S.has x with
  | false =>
    have hv : S.step x n = ((0, 30), S) := by simp [Cst.step, hx]
    rw [hv]
    rw [hx] at hH
    have HH := hide h
    clear h
    go_enter Try.func11, Try.ntmps11
    go_wp2_with (go_at_call 28; refine hH.mono ?_; rintro e w1 ⟨rfl, rfl⟩)
    go_ret2
    exact ⟨rfl, ⟨_, HH.out⟩, Only.refl _ _⟩
  | true =>
    rw [hx] at hH
    have c0 := h.c0
    have ct := tm_cell h hx
    have ht := hok.tm hx
    obtain ⟨x0, x1⟩ := Cst.has_iff.1 hx
    have hi : x.toNat < S.ts.length := by omega
    have zt := h.rfz x.toNat hi
    by_cases hn0 : n < 0
    · have hv : S.step x n = ((0, 1), S) := by simp [Cst.step, hx, mayGo, hn0]
      rw [hv]
      have HH := hide h
      clear h
      go_enter Try.func11, Try.ntmps11
      go_wp2_with (go_at_call 28; refine hH.mono ?_; rintro e w1 ⟨rfl, rfl⟩)
      go_ret2
      exact ⟨rfl, ⟨_, HH.out⟩, Only.refl _ _⟩
    · by_cases hn1 : 1073741824 - S.tm x < n
      · have hv : S.step x n = ((0, 2), S) := by simp [Cst.step, hx, mayGo, hn0, hn1]
        rw [hv]
        have HH := hide h
        clear h
        generalize S.tm x = t at *
        go_enter Try.func11, Try.ntmps11
        go_wp2_with (go_at_call 28; refine hH.mono ?_; rintro e w1 ⟨rfl, rfl⟩)
        go_ret2
        exact ⟨rfl, ⟨_, HH.out⟩, Only.refl _ _⟩
      · have hv : S.step x n = ((S.tm x + n, 0), { S with ts := S.ts.set x.toNat (S.tm x + n) }) := by simp [Cst.step, hx, mayGo, hn0, hn1]
        rw [hv]
        have HS := hide (h.setTime x.toNat hi (S.tm x + n))
        have HO := hide (Only.of_set (own := two bc g) w (a := ⟨g, x.toNat, none⟩) (Or.inr rfl) (.int .i64 (S.tm x + n)))
        have hne := h.ne
        have hne' : bc ≠ g := fun e => hne e.symm
        clear h
        generalize S.tm x = t at *
        go_enter Try.func11, Try.ntmps11
        go_wp2_with (go_at_call 28; refine hH.mono ?_; rintro e w1 ⟨rfl, rfl⟩)
        go_ret2
        exact ⟨rfl, ⟨_, HS.out⟩, HO.out⟩

set_option maxHeartbeats 800000 in
theorem rdraw_any (w : World) (h : CHeld w RClkT bc g S) (n : Int) :
    Calls Try.prog 15 #[.pointer (some ⟨bc, 0, none⟩), .int .i64 n] w fun e w' => e = .returned (.tuple #[.int .i64 (S.draw n).1.1, .int .i64 (S.draw n).1.2]) ∧ CHeld w' RClkT bc g (S.draw n).2 ∧ Only (two bc g) w w' := by
  obtain ⟨cap, h⟩ := h
  have c1 := h.c1
  have z1 := h.fz 1
  by_cases h1 : 1 ≤ n
  · by_cases h2 : n ≤ 2147483648
    · have hv : S.draw n = ((mixW (nextW S.wd) % n, 0), { S with wd := nextW S.wd }) := by simp [Cst.draw, h1, h2]
      rw [hv]
      have hr := mixW_range (nextW S.wd)
      have HS := hide (h.setWord (nextW S.wd))
      have hx1 : 0 ≤ mixW (nextW S.wd) % n := Int.emod_nonneg _ (by omega)
      have hx2 : mixW (nextW S.wd) % n < n := Int.emod_lt_of_pos _ (by omega)
      have hne : (n == 0) = false := by rw [beq_eq_false_iff_ne]; omega
      have hne' : n ≠ 0 := by omega
      have HO := hide (Only.of_set (own := two bc g) w (a := ⟨bc, 1, none⟩) (Or.inl rfl) (.int .u64 (nextW S.wd)))
      have hm : ∀ y, bits BinOp.xor IntKind.u64 (mixB (mixA y)) (mixB (mixA y) / 2147483648) = mixW y := fun _ => rfl
      have ha : ∀ y, IntKind.u64.wrap (bits BinOp.xor IntKind.u64 y (y / 1073741824) * 13787848793156543929) = mixA y := fun _ => rfl
      have hb : ∀ y, IntKind.u64.wrap (bits BinOp.xor IntKind.u64 y (y / 134217728) * 10723151780598845931) = mixB y := fun _ => rfl
      have hw : IntKind.u64.wrap (S.wd + 11400714819323198485) = nextW S.wd := rfl
      have htm : Int.tmod (mixW (nextW S.wd)) n = mixW (nextW S.wd) % n := Int.tmod_eq_emod_of_nonneg hr.1
      clear h
      go_enter Try.func15, Try.ntmps15
      go_wp2
      go_ret2
      exact ⟨rfl, ⟨_, HS.out⟩, HO.out⟩
    · have hv : S.draw n = ((0, 1), S) := by simp [Cst.draw, h2]
      rw [hv]
      have h2' : (2147483648 : Int) < n := by omega
      have HH := hide h
      clear h
      go_enter Try.func15, Try.ntmps15
      go_wp2
      go_ret2
      exact ⟨rfl, ⟨_, HH.out⟩, Only.refl _ _⟩
  · have hv : S.draw n = ((0, 1), S) := by simp [Cst.draw, h1]
    rw [hv]
    have h1' : n < (1 : Int) := by omega
    have HH := hide h
    clear h
    go_enter Try.func15, Try.ntmps15
    go_wp2
    go_ret2
    exact ⟨rfl, ⟨_, HH.out⟩, Only.refl _ _⟩
end

end Go.Proofs.Ytkofmdchopfcgaa.Ck
