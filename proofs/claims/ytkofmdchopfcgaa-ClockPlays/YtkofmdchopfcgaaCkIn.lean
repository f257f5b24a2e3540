/- Walks over times.go, word.go, slices.Max, slices.Min. -/
import Derived.Test.YtkofmdchopfcgaaCkRep
namespace Go.Proofs.Ytkofmdchopfcgaa.Ck
open Go.RowKit Go.Joins Gk

theorem most_step {l : List Int} {k : Nat} (hk : k < l.length) {m : Int} (h1 : m ∈ l.take k) (h2 : ∀ x ∈ l.take k, x ≤ m) : max m l[k] ∈ l.take (k + 1) ∧ ∀ x ∈ l.take (k + 1), x ≤ max m l[k] := by
  rw [List.take_succ_eq_append_getElem hk]
  constructor
  · rcases Int.le_total m l[k] with h | h
    · rw [Int.max_eq_right h]; exact List.mem_append_right _ (List.mem_singleton.2 rfl)
    · rw [Int.max_eq_left h]; exact List.mem_append_left _ h1
  · intro x hx
    rcases List.mem_append.1 hx with h | h
    · have := h2 x h; omega
    · rw [List.mem_singleton.1 h]; omega
theorem least_step {l : List Int} {k : Nat} (hk : k < l.length) {m : Int} (h1 : m ∈ l.take k) (h2 : ∀ x ∈ l.take k, m ≤ x) : min m l[k] ∈ l.take (k + 1) ∧ ∀ x ∈ l.take (k + 1), min m l[k] ≤ x := by
  rw [List.take_succ_eq_append_getElem hk]
  constructor
  · rcases Int.le_total m l[k] with h | h
    · rw [Int.min_eq_left h]; exact List.mem_append_left _ h1
    · rw [Int.min_eq_right h]; exact List.mem_append_right _ (List.mem_singleton.2 rfl)
  · intro x hx
    rcases List.mem_append.1 hx with h | h
    · have := h2 x h; omega
    · rw [List.mem_singleton.1 h]; omega
theorem first_take {l : List Int} (h : 0 < l.length) : l[0] ∈ l.take 1 ∧ (∀ x ∈ l.take 1, x ≤ l[0]) ∧ ∀ x ∈ l.take 1, l[0] ≤ x := by
  cases l with
  | nil => simp at h
  | cons x r => simp

set_option maxHeartbeats 1600000 in
theorem max_any (a : Option Addr) (cap : Nat) (l : List Int) (w : World) (hl : Lies w ienc a l) (hn : l.length ≤ 4611686018427387904) (h1 : 1 ≤ l.length) :
    Calls Try.prog 34 #[.slice a l.length cap] w fun e w' => e = .returned (.int .i64 (mostL l)) ∧ w' = w := by
  obtain ⟨b, off, rfl, hbl, hc0⟩ := hl.at ienc_len 0 (by omega)
  have c0 := hc0 0 _ rfl
  rw [Nat.zero_mul, Nat.add_zero] at c0
  have hf := first_take (l := l) (by omega)
  have h1' : (1 : Int) ≤ (l.length : Int) := by omega
  have h0' : (0 : Int) < (l.length : Int) := by omega
  obtain ⟨x0, hx0⟩ : ∃ x0, l[0] = x0 := ⟨_, rfl⟩
  rw [hx0] at hf c0
  have HF := hide hf
  clear hc0 hf hx0
  go_enter Try.func34, Try.ntmps34
  go_wp2
  go_loopw [3, 4] (fun mv i wr => ∃ (k : Nat) (m : Int), 1 ≤ k ∧ k ≤ l.length ∧ i = .int .i64 k ∧ mv = .int .i64 m ∧ Hid (m ∈ l.take k ∧ ∀ x ∈ l.take k, x ≤ m) ∧ wr = w) (fun _ i _ => l.length - (intOf i).toNat)
  case atStart => exact ⟨1, x0, by omega, h1, rfl, rfl, (by have hf := HF.out; exact ⟨hf.1, hf.2.1⟩), rfl⟩
  case round =>
    obtain ⟨k, m, hk1, hk, rfl, rfl, HM, rfl⟩ := hrel
    by_cases hlt : k < l.length
    · obtain ⟨b', off', e', -, hck⟩ := hl.at ienc_len k hlt
      cases e'
      have ck := hck 0 _ rfl
      rw [Nat.mul_one, Nat.add_zero] at ck
      have i1 : (0 : Int) ≤ (k : Int) := by omega
      have i2 : (k : Int) < (l.length : Int) := by omega
      have HN := hide (most_step hlt HM.out.1 HM.out.2)
      obtain ⟨y, hy⟩ : ∃ y, l[k] = y := ⟨_, rfl⟩
      rw [hy] at HN ck
      clear hck hy
      go_wp2
      go_roundw
      case rel => exact ⟨k + 1, max m y, by omega, by omega, by go_num, rfl, HN, by trivial⟩
      case measure => simp [intOf]; omega
    · obtain rfl : k = l.length := by omega
      have hM := HM.out
      rw [List.take_length] at hM
      have hE := hide (mostL_iff hM.1 hM.2)
      clear hM
      go_wp2
      go_ret
      exact ⟨ret_int hE.out.symm, rfl⟩
set_option maxHeartbeats 1600000 in
theorem min_any (a : Option Addr) (cap : Nat) (l : List Int) (w : World) (hl : Lies w ienc a l) (hn : l.length ≤ 4611686018427387904) (h1 : 1 ≤ l.length) :
    Calls Try.prog 36 #[.slice a l.length cap] w fun e w' => e = .returned (.int .i64 (leastL l)) ∧ w' = w := by
  obtain ⟨b, off, rfl, hbl, hc0⟩ := hl.at ienc_len 0 (by omega)
  have c0 := hc0 0 _ rfl
  rw [Nat.zero_mul, Nat.add_zero] at c0
  have hf := first_take (l := l) (by omega)
  have h1' : (1 : Int) ≤ (l.length : Int) := by omega
  have h0' : (0 : Int) < (l.length : Int) := by omega
  obtain ⟨x0, hx0⟩ : ∃ x0, l[0] = x0 := ⟨_, rfl⟩
  rw [hx0] at hf c0
  have HF := hide hf
  clear hc0 hf hx0
  go_enter Try.func36, Try.ntmps36
  go_wp2
  go_loopw [3, 4] (fun mv i wr => ∃ (k : Nat) (m : Int), 1 ≤ k ∧ k ≤ l.length ∧ i = .int .i64 k ∧ mv = .int .i64 m ∧ Hid (m ∈ l.take k ∧ ∀ x ∈ l.take k, m ≤ x) ∧ wr = w) (fun _ i _ => l.length - (intOf i).toNat)
  case atStart => exact ⟨1, x0, by omega, h1, rfl, rfl, (by have hf := HF.out; exact ⟨hf.1, hf.2.2⟩), rfl⟩
  case round =>
    obtain ⟨k, m, hk1, hk, rfl, rfl, HM, rfl⟩ := hrel
    by_cases hlt : k < l.length
    · obtain ⟨b', off', e', -, hck⟩ := hl.at ienc_len k hlt
      cases e'
      have ck := hck 0 _ rfl
      rw [Nat.mul_one, Nat.add_zero] at ck
      have i1 : (0 : Int) ≤ (k : Int) := by omega
      have i2 : (k : Int) < (l.length : Int) := by omega
      have HN := hide (least_step hlt HM.out.1 HM.out.2)
      obtain ⟨y, hy⟩ : ∃ y, l[k] = y := ⟨_, rfl⟩
      rw [hy] at HN ck
      clear hck hy
      go_wp2
      go_roundw
      case rel => exact ⟨k + 1, min m y, by omega, by omega, by go_num, rfl, HN, by trivial⟩
      case measure => simp [intOf]; omega
    · obtain rfl : k = l.length := by omega
      have hM := HM.out
      rw [List.take_length] at hM
      have hE := hide (leastL_iff hM.1 hM.2)
      clear hM
      go_wp2
      go_ret
      exact ⟨ret_int hE.out.symm, rfl⟩

section
variable {bc g cap : Nat} {S : Cst}
set_option maxHeartbeats 400000 in
theorem has_any (w : World) (h : CHeldL w ClkT bc g S cap) (x : Int) :
    Calls Try.prog 24 #[.pointer (some ⟨bc, 0, none⟩), .int .i64 x] w fun e w' => e = .returned (.bool (S.has x)) ∧ w' = w := by
  have c0 := h.c0
  by_cases h0 : 0 ≤ x
  · by_cases h1 : x < S.ts.length
    · have hv : S.has x = true := Cst.has_iff.2 ⟨h0, h1⟩
      rw [hv]
      go_enter Try.func24, Try.ntmps24
      go_wp2
      go_ret
      exact ⟨rfl, rfl⟩
    · have hv : S.has x = false := by simp [Cst.has, h1]
      rw [hv]
      have h1' : (S.ts.length : Int) ≤ x := by omega
      go_enter Try.func24, Try.ntmps24
      go_wp2
      go_ret
      exact ⟨rfl, rfl⟩
  · have hv : S.has x = false := by simp [Cst.has, h0]
    rw [hv]
    have h0' : x < 0 := by omega
    go_enter Try.func24, Try.ntmps24
    go_wp2
    go_ret
    exact ⟨rfl, rfl⟩

theorem tm_cell {w : World} {T : TypeId} (h : CHeldL w T bc g S cap) {x : Int} (hx : S.has x = true) : w.cell? ⟨g, x.toNat, none⟩ = some (.int .i64 (S.tm x)) := by
  obtain ⟨h0, h1⟩ := Cst.has_iff.1 hx
  have hi : x.toNat < S.ts.length := by omega
  rw [h.at _ hi]
  simp [Cst.tm, hi]

set_option maxHeartbeats 400000 in
theorem at_any (w : World) (h : CHeldL w ClkT bc g S cap) (x : Int) (hx : S.has x = true) :
    Calls Try.prog 26 #[.pointer (some ⟨bc, 0, none⟩), .int .i64 x] w fun e w' => e = .returned (.int .i64 (S.tm x)) ∧ w' = w := by
  have c0 := h.c0
  have ct := tm_cell h hx
  obtain ⟨h0, h1⟩ := Cst.has_iff.1 hx
  go_enter Try.func26, Try.ntmps26
  go_wp2
  go_ret
  exact ⟨rfl, rfl⟩

set_option maxHeartbeats 400000 in
theorem goOn_any (w : World) (h : CHeldL w ClkT bc g S cap) (x n : Int) (hx : S.has x = true) (hb : -4611686018427387904 ≤ S.tm x + n ∧ S.tm x + n ≤ 4611686018427387904) :
    Calls Try.prog 27 #[.pointer (some ⟨bc, 0, none⟩), .int .i64 x, .int .i64 n] w fun e w' => e = .returned (.tuple #[]) ∧ w' = w.setCell ⟨g, x.toNat, none⟩ (.int .i64 (S.tm x + n)) := by
  have c0 := h.c0
  have ct := tm_cell h hx
  obtain ⟨h0, h1⟩ := Cst.has_iff.1 hx
  have zt := h.rfz x.toNat (by omega)
  go_enter Try.func27, Try.ntmps27
  go_wp2
  refine bodyPost_end (v := .tuple #[]) (by simp [results, Try.results27]) rfl ?_
  exact ⟨rfl, rfl⟩

set_option maxHeartbeats 400000 in
theorem mayGo_any (w : World) (t n : Int) (ht : 0 ≤ t ∧ t ≤ 1073741824) :
    Calls Try.prog 25 #[.int .i64 t, .int .i64 n] w fun e w' => e = .returned (.int .i64 (mayGo t n)) ∧ w' = w := by
  obtain ⟨t0, t1⟩ := ht
  by_cases h0 : n < 0
  · have hv : mayGo t n = 1 := by simp [mayGo, h0]
    rw [hv]
    go_enter Try.func25, Try.ntmps25
    go_wp2
    go_ret
    exact ⟨rfl, rfl⟩
  · by_cases h1 : 1073741824 - t < n
    · have hv : mayGo t n = 2 := by simp [mayGo, h0, h1]
      rw [hv]
      go_enter Try.func25, Try.ntmps25
      go_wp2
      go_ret
      exact ⟨rfl, rfl⟩
    · have hv : mayGo t n = 0 := by simp [mayGo, h0, h1]
      rw [hv]
      go_enter Try.func25, Try.ntmps25
      go_wp2
      go_ret
      exact ⟨rfl, rfl⟩

set_option maxHeartbeats 400000 in
theorem greatest_any (w : World) (h : CHeldL w ClkT bc g S cap) (hok : S.Ok) :
    Calls Try.prog 29 #[.pointer (some ⟨bc, 0, none⟩)] w fun e w' => e = .returned (.int .i64 S.most) ∧ w' = w := by
  have c0 := h.c0
  have hM := max_any (some ⟨g, 0, none⟩) cap S.ts w h.row.lies (by have := hok.n2; omega) hok.n1
  go_enter Try.func29, Try.ntmps29
  go_wp2_with (go_at_call 34; refine hM.mono ?_; rintro e w1 ⟨rfl, rfl⟩)
  go_ret
  exact ⟨rfl, rfl⟩
set_option maxHeartbeats 400000 in
theorem least_any (w : World) (h : CHeldL w ClkT bc g S cap) (hok : S.Ok) :
    Calls Try.prog 33 #[.pointer (some ⟨bc, 0, none⟩)] w fun e w' => e = .returned (.int .i64 S.least) ∧ w' = w := by
  have c0 := h.c0
  have hM := min_any (some ⟨g, 0, none⟩) cap S.ts w h.row.lies (by have := hok.n2; omega) hok.n1
  go_enter Try.func33, Try.ntmps33
  go_wp2_with (go_at_call 36; refine hM.mono ?_; rintro e w1 ⟨rfl, rfl⟩)
  go_ret
  exact ⟨rfl, rfl⟩

set_option maxHeartbeats 800000 in
theorem next_any (w : World) (h : CHeldL w ClkT bc g S cap) :
    Calls Try.prog 31 #[.pointer (some ⟨bc, 1, none⟩)] w fun e w' => e = .returned (.int .u64 (mixW (nextW S.wd))) ∧ w' = w.setCell ⟨bc, 1, none⟩ (.int .u64 (nextW S.wd)) := by
  have c1 := h.c1
  have z1 := h.fz 1
  go_enter Try.func31, Try.ntmps31
  go_wp2
  go_ret
  exact ⟨rfl, rfl⟩
end

end Go.Proofs.Ytkofmdchopfcgaa.Ck
