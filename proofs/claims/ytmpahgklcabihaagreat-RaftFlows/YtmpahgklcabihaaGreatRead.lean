/- Walks over strings.Clone and field.go: readNumber, readText, readField. -/
import Derived.Test.YtmpahgklcabihaaGreatEnc2
import Derived.Lib.BufferWrite
import Derived.Lib.UnsafeStr
import Derived.Laws.MakeOwn
namespace Go.Proofs.YtmpahgklcabihaaGreat
open Go.RowKit

theorem cells_u8 : Tryz.prog.cellsOf 5 = 1 := by kernel_rfl

set_option maxRecDepth 100000 in
set_option maxHeartbeats 1000000 in
set_option maxRecDepth 100000 in
theorem cloneIn_any (s : ByteArray) (w : World) (hlim : s.size ≤ 140737488351232) :
    Calls Tryz.prog 175 #[.string s] w fun e w' => e = .returned (.string s) ∧ Below w.heap.size w w' := by
  by_cases h0 : s.size = 0
  · obtain rfl : s = ⟨#[]⟩ := ByteArray.ext (Array.eq_empty_of_size_eq_zero h0)
    go_enter Tryz.func175, Tryz.ntmps175
    go_wp2
    go_ret
    exact ⟨rfl, Below.refl _ _⟩
  · obtain ⟨i0, hi, hz0, hz1, hz2⟩ := info_parts u8_info
    have hinfo : (Tryz.prog.info? 5).map (·.size) = some 1 := by rw [hi]; simp [hz1]
    obtain ⟨M, hM⟩ : ∃ M, M = madeCells (Value.int .u8 0).cells (((s.size : Nat) : Int).toNat * i0.size) := ⟨_, rfl⟩
    have hMs : M.size = s.size := by rw [hM, size_madeCells, hz1]; simp
    have hmk : ∀ W : World, (Instr.makeSlice 64 (.int .i64 (s.size : Int)) (.int .i64 (s.size : Int))).run Tryz.prog W = .ok (.slice (some ⟨W.heap.size, 0, none⟩) s.size s.size) (W.alloc (.cells M 5)) := fun W => by
      have h := run_make (P := Tryz.prog) W 64 5 i0 (.int .u8 0) Tryz.underlying64 hi hz0 .i64 .i64 (s.size : Int) (s.size : Int) (by omega) (by omega) (by rw [hz2]; omega) (by omega)
      rw [← hM] at h
      simpa using h
    clear hM
    have hcp := Lib.run_copy_row_string (P := Tryz.prog) (w.alloc (.cells M 5)) 64 9 3 5 w.heap.size 0 s.size s.size s M 5 Tryz.underlying64 hinfo (heap_alloc_new w _) (Nat.le_refl _) (by omega)
    obtain ⟨Y, hY⟩ : ∃ Y, Y = (M.toList.take 0 ++ Lib.byteCells s.data.toList ++ M.toList.drop (0 + s.size)).toArray := ⟨_, rfl⟩
    rw [← hY] at hcp
    have hYl : Y.toList = Lib.byteCells s.data.toList := by
      rw [hY, List.toList_toArray, List.take_zero, List.nil_append, List.drop_of_length_le (by rw [Array.length_toList]; omega), List.append_nil]
    have hYs : Y.size = s.size := by rw [← Array.length_toList, hYl, Lib.byteCells_length, ← Lib.size_eq]
    have hgY : ((w.alloc (.cells M 5)).setRow w.heap.size Y).heap[w.heap.size]? = some (.cells Y 5 (0, 0)) := setRow_heap _ _ M _ 5 (0, 0) (heap_alloc_new w _)
    have hne : s.data.toList ≠ [] := fun e => h0 (by rw [Lib.size_eq, e]; rfl)
    have hUS := Lib.run_unsafeString_row (P := Tryz.prog) ((w.alloc (.cells M 5)).setRow w.heap.size Y) 277 3 9 5 Tryz.underlying277 cells_u8 w.heap.size Y.size (by unfold World.shape?; rw [hgY]) s.data.toList hne (by rw [← Lib.size_eq]; omega) (by rw [← Lib.size_eq]; omega)
      (fun j x hx => Lib.cells_of_row hgY Y.size j _ (by rw [List.take_of_length_le (by rw [Array.length_toList]; exact Nat.le_refl _), hYl]; simp [Lib.byteCells, hx]))
    rw [← Lib.size_eq] at hUS
    clear hY
    go_enter Tryz.func175, Tryz.ntmps175
    go_wp2
    go_ret
    have hb1 : Below w.heap.size w (w.alloc (.cells M 5)) := (Below.refl _ w).alloc (Nat.le_refl _) _
    have hb2 : Below w.heap.size (w.alloc (.cells M 5)) ((w.alloc (.cells M 5)).setRow w.heap.size Y) := ⟨rfl, rfl, rfl, by simp, fun k hk => setRow_other _ _ _ _ (by omega)⟩
    exact ⟨rfl, Lib.below_freeze (hb1.trans hb2) (p := ⟨w.heap.size, 0, none⟩) (Nat.le_refl _) _⟩

set_option maxRecDepth 100000 in
set_option maxHeartbeats 400000 in
theorem clone_any (s : ByteArray) (w : World) (hlim : s.size ≤ 140737488351232) :
    Calls Tryz.prog 129 #[.string s] w fun e w' => e = .returned (.string s) ∧ Below w.heap.size w w' := by
  go_enter Tryz.func129, Tryz.ntmps129
  go_wp2_with fail
  refine (cloneIn_any _ _ hlim).mono ?_
  rintro e w' ⟨rfl, hb⟩
  go_wp2
  go_ret
  exact ⟨rfl, hb⟩

/-- the byte at a place -/
def byAt (s : ByteArray) (k : Nat) : Nat := if h : k < s.size then (s[k]'h).toNat else 0
theorem byAt_of (s : ByteArray) (k : Nat) (h : k < s.size) : byAt s k = (s[k]'h).toNat := by rw [byAt, dif_pos h]
theorem byAt_lt (s : ByteArray) (k : Nat) : byAt s k < 256 := by unfold byAt; split; exact UInt8.toNat_lt _; omega

/-- a number of 64 bits as one with a sign -/
def i64 (n : Nat) : Int := wrap64 n
theorem i64_eq (n : Nat) : i64 n = ((n : Int) + 9223372036854775808) % 18446744073709551616 - 9223372036854775808 := by unfold i64 wrap64; rfl

/-- what readNumber answers -/
def rdNum (s : ByteArray) (p : Nat) : Int × Nat × Nat :=
  if p = s.size then (0, 0, 11)
  else if 8 < byAt s p then (0, 0, 3)
  else if s.size - (p + 1) < byAt s p then (0, 0, 11)
  else if 0 < byAt s p ∧ byAt s (p + byAt s p) = 0 then (0, 0, 3)
  else (i64 (Pl.val ((s.data.toList.drop (p + 1)).take (byAt s p))), p + 1 + byAt s p, 0)
abbrev rdNumV (s : ByteArray) (p : Nat) : Value := .tuple #[.int .i64 (rdNum s p).1, .int .i64 (rdNum s p).2.1, .int .i64 (rdNum s p).2.2]

theorem rd_form {s : ByteArray} {p : Nat} (h1 : ¬ p = s.size) (h2 : 8 < byAt s p) : Ending.returned (.tuple #[.int .i64 0, .int .i64 0, .int .i64 3]) = .returned (rdNumV s p) := by simp [rdNumV, rdNum, h1, h2]
theorem rd_end {s : ByteArray} {p : Nat} (h1 : ¬ p = s.size) (h2 : ¬ 8 < byAt s p) (h3 : s.size - (p + 1) < byAt s p) : Ending.returned (.tuple #[.int .i64 0, .int .i64 0, .int .i64 11]) = .returned (rdNumV s p) := by simp [rdNumV, rdNum, h1, h2, h3]
theorem rd_high {s : ByteArray} {p : Nat} (h1 : ¬ p = s.size) (h2 : ¬ 8 < byAt s p) (h3 : ¬ s.size - (p + 1) < byAt s p) (h4 : 0 < byAt s p ∧ byAt s (p + byAt s p) = 0) : Ending.returned (.tuple #[.int .i64 0, .int .i64 0, .int .i64 3]) = .returned (rdNumV s p) := by simp [rdNumV, rdNum, h1, h2, h3, h4]
theorem rd_ok {s : ByteArray} {p : Nat} (h1 : ¬ p = s.size) (h2 : ¬ 8 < byAt s p) (h3 : ¬ s.size - (p + 1) < byAt s p) (h4 : ¬ (0 < byAt s p ∧ byAt s (p + byAt s p) = 0)) :
    Ending.returned (.tuple #[.int .i64 (i64 (Pl.val ((s.data.toList.drop (p + 1)).take (byAt s p)))), .int .i64 (p + 1 + byAt s p : Nat), .int .i64 0]) = .returned (rdNumV s p) := by
  rw [rdNumV, rdNum, if_neg h1, if_neg h2, if_neg h3, if_neg h4]; rfl

theorem ext_size (s : ByteArray) (a b : Nat) (h : a ≤ b) (h2 : b ≤ s.size) : (s.extract a b).size = b - a := by rw [ByteArray.size_extract]; omega
theorem rd_fin {l : List UInt8} {c p : Nat} {q : Nat} {v : Value} (hq : q = c) (h : Ending.returned (.tuple #[.int .i64 (i64 (Pl.val (l.take q))), .int .i64 (p + 1 + q : Nat), .int .i64 0]) = .returned v) :
    Ending.returned (.tuple #[.int .i64 (wrap64 (Pl.val (l.take c))), .int .i64 ((p : Int) + 1 + c), .int .i64 0]) = .returned v := by
  subst hq; rw [← h]; rfl

theorem rd_fin0 {l : List UInt8} {p : Nat} {q : Nat} {v : Value} (hq : q = 0) (h : Ending.returned (.tuple #[.int .i64 (i64 (Pl.val (l.take q))), .int .i64 (p + 1 + q : Nat), .int .i64 0]) = .returned v) :
    Ending.returned (.tuple #[.int .i64 0, .int .i64 ((p : Int) + 1), .int .i64 0]) = .returned v := by
  subst hq; rw [← h, List.take_zero, i64_eq]; rfl

set_option maxRecDepth 100000 in
set_option maxHeartbeats 800000 in
theorem readNumber_any (s : ByteArray) (p : Nat) (w : World) (hs : s.size ≤ 262144) (hp : p ≤ s.size) :
    Calls Tryz.prog 177 #[.string s, .int .i64 p] w fun e w' => e = .returned (rdNumV s p) ∧ w' = w := by
  by_cases h1 : p = s.size
  · subst h1
    go_enter Tryz.func177, Tryz.ntmps177
    go_wp2
    go_ret3
    exact ⟨by simp [rdNumV, rdNum], rfl⟩
  · have hlt : p < s.size := by omega
    have hne : ((p : Int) == (s.size : Int)) = false := by rw [beq_eq_false_iff_ne]; omega
    have hb := byAt_of s p hlt
    obtain ⟨c, hc⟩ : ∃ c, c = byAt s p := ⟨_, rfl⟩
    have HC : Hid (c = byAt s p) := hc
    have hc' : (s[p]'hlt).toNat = c := by rw [hc, hb]
    have hcl : c < 256 := by rw [hc]; exact byAt_lt s p
    clear hb hc
    by_cases h2 : 8 < c
    · go_enter Tryz.func177, Tryz.ntmps177
      go_wp2
      go_ret3
      exact ⟨rd_form h1 (by rw [← HC.out]; exact h2), rfl⟩
    · by_cases h3 : s.size - (p + 1) < c
      · go_enter Tryz.func177, Tryz.ntmps177
        go_wp2
        go_ret3
        exact ⟨rd_end h1 (by rw [← HC.out]; exact h2) (by rw [← HC.out]; exact h3), rfl⟩
      · have hl : c ≤ s.size - (p + 1) := by omega
        by_cases h4 : 0 < c
        · have hlt2 : p + c < s.size := by omega
          have hb := byAt_of s (p + c) hlt2
          obtain ⟨d, hd⟩ : ∃ d, d = byAt s (p + c) := ⟨_, rfl⟩
          have HD : Hid (d = byAt s (p + c)) := hd
          have hd' : (s[p + c]'hlt2).toNat = d := by rw [hd, hb]
          have he : p + 1 + c - 1 = p + c := by omega
          have hd2 : (s[p + 1 + c - 1]'(by omega)).toNat = d := by rw [← hd']; congr 1; simp only [he]
          clear hb hd
          by_cases h5 : d = 0
          · go_enter Tryz.func177, Tryz.ntmps177
            go_wp2
            go_ret3
            exact ⟨rd_high h1 (by rw [← HC.out]; exact h2) (by rw [← HC.out]; exact h3) (by rw [← HC.out, ← HD.out]; exact ⟨h4, h5⟩), rfl⟩
          · go_enter Tryz.func177, Tryz.ntmps177
            go_wp2_with fail
            refine (getLow64_any _ _ (by rw [ext_size s _ _ (by omega) (by omega)]; omega)).mono ?_
            rintro e w' ⟨rfl, rfl⟩
            rw [Lib.extract_data, show p + 1 + c - (p + 1) = c from by omega]
            go_wp2
            go_ret3
            exact ⟨rd_fin HC.out.symm (rd_ok h1 (by rw [← HC.out]; exact h2) (by rw [← HC.out]; exact h3) (by rw [← HC.out]; rw [← HD.out]; omega)), rfl⟩
        · obtain rfl : c = 0 := by omega
          have h0 : Hid (¬ (0 < byAt s p ∧ byAt s (p + byAt s p) = 0)) := by show ¬ _; rw [← HC.out]; omega
          go_enter Tryz.func177, Tryz.ntmps177
          go_wp2_with fail
          refine (getLow64_any ByteArray.empty _ (by decide)).mono ?_
          rintro e w' ⟨rfl, rfl⟩
          have hz : Pl.val ByteArray.empty.data.toList = 0 := rfl
          rw [hz]
          go_wp2
          go_ret3
          exact ⟨rd_fin0 HC.out.symm (rd_ok h1 (by rw [← HC.out]; exact h2) (by rw [← HC.out]; exact h3) h0.out), rfl⟩

/-- what readText answers -/
def rdTxt (s : ByteArray) (p : Nat) (n : Int) : ByteArray × Nat × Nat :=
  if n < 0 ∨ 262144 < n then (⟨#[]⟩, 0, 3) else if ((s.size - p : Nat) : Int) < n then (⟨#[]⟩, 0, 11) else (s.extract p (p + n.toNat), p + n.toNat, 0)
abbrev rdTxtV (s : ByteArray) (p : Nat) (n : Int) : Value := .tuple #[.string (rdTxt s p n).1, .int .i64 (rdTxt s p n).2.1, .int .i64 (rdTxt s p n).2.2]
theorem rt_form {s : ByteArray} {p : Nat} {n : Int} (h1 : n < 0 ∨ 262144 < n) : Ending.returned (.tuple #[.string ⟨#[]⟩, .int .i64 0, .int .i64 3]) = .returned (rdTxtV s p n) := by rw [rdTxtV, rdTxt, if_pos h1]; rfl
theorem rt_end {s : ByteArray} {p : Nat} {n : Int} (h1 : ¬ (n < 0 ∨ 262144 < n)) (h2 : ((s.size - p : Nat) : Int) < n) : Ending.returned (.tuple #[.string ⟨#[]⟩, .int .i64 0, .int .i64 11]) = .returned (rdTxtV s p n) := by rw [rdTxtV, rdTxt, if_neg h1, if_pos h2]; rfl
theorem rt_ok {s : ByteArray} {p m : Nat} (h1 : ¬ 262144 < m) (h2 : ¬ s.size - p < m) : Ending.returned (.tuple #[.string (s.extract p (p + m)), .int .i64 ((p : Int) + (m : Int)), .int .i64 0]) = .returned (rdTxtV s p (m : Int)) := by rw [rdTxtV, rdTxt, if_neg (by omega), if_neg (by omega)]; rfl

set_option maxRecDepth 100000 in
set_option maxHeartbeats 800000 in
theorem readText_any (s : ByteArray) (p : Nat) (n : Int) (w : World) (hs : s.size ≤ 262144) (hp : p ≤ s.size) :
    Calls Tryz.prog 178 #[.string s, .int .i64 p, .int .i64 n] w fun e w' => e = .returned (rdTxtV s p n) ∧ Below w.heap.size w w' := by
  by_cases h1 : n < 0
  · go_enter Tryz.func178, Tryz.ntmps178
    go_wp2
    go_ret3
    exact ⟨rt_form (Or.inl h1), Below.refl _ _⟩
  · by_cases h2 : 262144 < n
    · go_enter Tryz.func178, Tryz.ntmps178
      go_wp2
      go_ret3
      exact ⟨rt_form (Or.inr h2), Below.refl _ _⟩
    · obtain ⟨m, rfl⟩ := Int.eq_ofNat_of_zero_le (show 0 ≤ n by omega)
      by_cases h3 : s.size - p < m
      · go_enter Tryz.func178, Tryz.ntmps178
        go_wp2
        go_ret3
        exact ⟨rt_end (by omega) (by omega), Below.refl _ _⟩
      · go_enter Tryz.func178, Tryz.ntmps178
        go_wp2_with fail
        refine (clone_any _ _ (by rw [ext_size s _ _ (by omega) (by omega)]; omega)).mono ?_
        rintro e w' ⟨rfl, hb⟩
        go_wp2
        go_ret3
        exact ⟨rt_ok (by omega) (by omega), hb⟩

end Go.Proofs.YtmpahgklcabihaaGreat
