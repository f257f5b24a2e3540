/- NetFull: just as many letters are on their way as there is room for; one that is lost makes room. Proved: for every text, no condition. -/
import Derived.Test.YtmdpkkipjdpopaaNtWorks
namespace Go.Proofs.Ytmdpkkipjdpopaa.Nk
open Go.RowKit Go.Joins Gk

def many (b : ByteArray) (k : Nat) : List Lt := (List.range k).map fun i => ⟨i, 0, 1, b⟩
def fullS (b : ByteArray) (k : Nat) : Nst := ⟨2, k, many b k, []⟩
theorem many_length (b : ByteArray) (k : Nat) : (many b k).length = k := by simp [many]
theorem many_at (b : ByteArray) (k i : Nat) (h : i < (many b k).length) : (many b k)[i] = ⟨i, 0, 1, b⟩ := by simp [many]
theorem many_succ (b : ByteArray) (k : Nat) : many b (k + 1) = many b k ++ [⟨k, 0, 1, b⟩] := by simp [many, List.range_succ]
theorem fullS_ok (b : ByteArray) (k : Nat) (hk : k ≤ 4096) (hb : b.size ≤ 20) : (fullS b k).Ok := by
  refine ⟨by simp [fullS], by simp [fullS], by simp [fullS, many_length, hk], by simp only [fullS]; omega, fun x hx => ?_, by simp [fullS], List.Pairwise.nil⟩
  simp only [fullS, many, List.mem_map, List.mem_range] at hx
  obtain ⟨i, hi, rfl⟩ := hx
  exact ⟨hi, by simp [fullS], by simp [fullS], by show b.size ≤ 65536; omega⟩
theorem has2 (a : Int) (h : a = 0 ∨ a = 1) : hasN 2 a = true := by rw [hasN_iff]; omega
theorem fullS_full (b : ByteArray) (k : Nat) : (fullS b k).full = decide (4096 ≤ k ∨ 1099511627776 ≤ k) := by simp [Nst.full, fullS, many_length]
theorem full_send (b : ByteArray) (k : Nat) (hk : k < 4096) (hb : b.size ≤ 20) : (fullS b k).send 0 1 b = (((k : Int), 0), fullS b (k + 1)) := by
  have hf : (fullS b k).full = false := by rw [fullS_full]; simp; omega
  have h2 : (fullS b k).nodes = 2 := rfl
  rw [Nst.send, if_neg (by rw [h2, has2 0 (Or.inl rfl), has2 1 (Or.inr rfl)]; simp), if_neg (by rw [hf]; simp; omega)]
  simp [fullS, Nst.post, many_succ]
theorem full_no (b s : ByteArray) (x : Int) (hx : x = 0 ∨ x = 1) (m : Nat) (hm : m = 4096) : (fullS b m).send 0 x s = ((0, 2), fullS b m) := by
  have hf : (fullS b m).full = true := by rw [fullS_full]; simp; omega
  have h2 : (fullS b m).nodes = 2 := rfl
  rw [Nst.send, if_neg (by rw [h2, has2 0 (Or.inl rfl), has2 x hx]; simp), if_pos (Or.inr hf)]
theorem isId_ne {j i : Nat} {b : ByteArray} (h : j ≠ i) : isId (i : Int) ⟨j, 0, 1, b⟩ = false := by
  show ((j : Int) == (i : Int)) = false
  rw [beq_eq_false_iff_ne]; omega
theorem find_many (b : ByteArray) (k i : Nat) (h : i < k) : (many b k).findIdx? (isId (i : Int)) = some i := by
  rw [List.findIdx?_eq_some_iff_getElem]
  refine ⟨by rw [many_length]; exact h, by rw [many_at]; simp [isId], fun j hj => ?_⟩
  rw [many_at, isId_ne (by omega)]; simp
theorem full_copy (b : ByteArray) (m : Nat) (hm : m = 4096) : (fullS b m).copy 7 = ((0, 2), fullS b m) := by
  have hf : (fullS b m).full = true := by rw [fullS_full]; simp; omega
  have h7 : (fullS b m).find 7 = some 7 := find_many b m 7 (by omega)
  simp [Nst.copy, h7, hf]
def lostS (b : ByteArray) (m : Nat) : Nst := ⟨2, m, (many b m).eraseIdx 7, []⟩
theorem full_lose (b : ByteArray) (m : Nat) (hm : m = 4096) : (fullS b m).lose 7 = (0, lostS b m) := by
  have h7 : (fullS b m).find 7 = some 7 := find_many b m 7 (by omega)
  rw [Nst.lose, h7]; rfl
theorem lost_ok (b : ByteArray) (hb : b.size ≤ 20) (m : Nat) (hm : m = 4096) : (lostS b m).Ok := (fullS_ok b m (by omega) hb).erase 7
theorem lost_long (b s : ByteArray) (hs : 65536 < s.size) (m : Nat) : (lostS b m).send 0 0 s = ((0, 2), lostS b m) := by
  have h2 : (lostS b m).nodes = 2 := rfl
  rw [Nst.send, if_neg (by rw [h2, has2 0 (Or.inl rfl)]; simp), if_pos (Or.inl hs)]
theorem lost_copy (b : ByteArray) (m : Nat) (hm : m = 4096) : ((lostS b m).copy 3).1 = ((m : Int), 0) := by
  have hlen : ((many b m).eraseIdx 7).length = 4095 := by rw [List.length_eraseIdx_of_lt (by rw [many_length]; omega), many_length]; omega
  have hat : ∀ j, j ≤ 3 → ∀ h, ((many b m).eraseIdx 7)[j]'h = ⟨j, 0, 1, b⟩ := fun j hj h => by
    rw [List.getElem_eraseIdx_of_lt _ (by omega), many_at]
  have h3 : (lostS b m).find 3 = some 3 := by
    show ((many b m).eraseIdx 7).findIdx? (isId ((3 : Nat) : Int)) = some 3
    rw [List.findIdx?_eq_some_iff_getElem]
    refine ⟨by rw [hlen]; omega, by rw [hat 3 (by omega)]; rfl, fun j hj => ?_⟩
    rw [hat j (by omega), isId_ne (by omega)]; simp
  have hf : (lostS b m).full = false := by rw [full_iff]; exact ⟨by show ((many b m).eraseIdx 7).length < 4096; omega, by show m < 1099511627776; omega⟩
  have hg : (lostS b m).ls[3]? = some ⟨3, 0, 1, b⟩ := by
    show ((many b m).eraseIdx 7)[3]? = _
    rw [List.getElem?_eq_getElem (by omega), hat 3 (by omega)]
  simp [Nst.copy, h3, hf, hg]
  rfl

theorem conv_zero (W : World) (M : Array Value) (n : Nat) (hM : M.toList = List.replicate n (.int .u8 0)) :
    (convert 40 9 (.slice (some ⟨W.heap.size, 0, none⟩) n n)).run Try.prog (W.alloc (.cells M 5)) = .ok (.string ⟨(List.replicate n (0 : UInt8)).toArray⟩) (W.alloc (.cells M 5)) := by
  have h := run_convert_bytes_back (P := Try.prog) (W.alloc (.cells M 5)) 40 9 5 ⟨W.heap.size, 0, none⟩ n (List.replicate n (0 : UInt8)) Try.underlying40 Try.underlying5 Try.underlying9 (fun j hj => by
    rw [Go.WideShapes.add_plain, Nat.zero_add, cell_of_block (heap_alloc_new W _)]
    rw [List.length_replicate] at hj
    rw [← Array.getElem?_toList, hM, List.getElem?_replicate, if_pos hj]
    simp)
  rw [List.length_replicate] at h
  exact h

theorem zeroM (n : Nat) : (madeCells (Value.int .u8 0).cells n).toList = List.replicate n (.int .u8 0) := by
  apply List.ext_getElem
  · simp [madeCells]
  · intro i h1 h2
    have e : (Value.int .u8 0).cells = #[.int .u8 0] := rfl
    simp [madeCells, e, Nat.mod_one]

set_option maxHeartbeats 6400000 in
set_option maxRecDepth 100000 in
theorem full_law (b : ByteArray) (w : World) (hsz : b.size ≤ 140737488351232) :
    Calls Try.prog 4 #[.string b] w fun e w' => e = .returned (.bool true) ∧ Below w.heap.size w w' := by
  have hW := works_any
  obtain ⟨i0, hi, hz0, hz1, hz2⟩ := info_parts u8_info
  obtain ⟨n, hn⟩ : ∃ n : Nat, n = 65537 := ⟨_, rfl⟩
  obtain ⟨M, hM⟩ : ∃ M, M = madeCells (Value.int .u8 0).cells n := ⟨_, rfl⟩
  obtain ⟨s, hs⟩ : ∃ s : ByteArray, s = ⟨(List.replicate n (0 : UInt8)).toArray⟩ := ⟨_, rfl⟩
  have hss : s.size = n := by rw [hs]; show (List.replicate n (0 : UInt8)).toArray.size = n; simp
  have hmk : ∀ W : World, (Instr.makeSlice 40 (.int .i64 65537) (.int .i64 65537)).run Try.prog W = .ok (.slice (some ⟨W.heap.size, 0, none⟩) n n) (W.alloc (.cells M 5)) := fun W => by
    have h := run_make (P := Try.prog) W 40 5 i0 (.int .u8 0) Try.underlying40 hi hz0 .i64 .i64 65537 65537 (by omega) (by omega) (by rw [hz2]; omega) (by omega)
    rw [h, hz1, hM, hn]; rfl
  have hcv : ∀ W : World, (convert 40 9 (.slice (some ⟨W.heap.size, 0, none⟩) n n)).run Try.prog (W.alloc (.cells M 5)) = .ok (.string s) (W.alloc (.cells M 5)) := fun W => by
    rw [hs]; exact conv_zero W M n (by rw [hM]; exact zeroM n)
  have hs6 : 65536 < s.size ∧ s.size ≤ 140737488351232 := by rw [hss, hn]; omega
  clear hM hs hss hn hi hz0 hz1 hz2
  go_enter Try.func4, Try.ntmps4
  go_wp2_with fail
  refine (new_ok 2 _ (by omega) (by omega) (above w) (Nat.le_refl _)).mono ?_
  rintro e w0 ⟨bn, rfl, -, hh0, hb0⟩
  go_wp2_with fail
  refine (hW w0).mono ?_
  rintro e w1 ⟨rfl, hb1⟩
  have hh1 := hh0.below hb1
  have hbw : Below w.heap.size w w1 := hb0.trans (hb1.mono hb0.size)
  clear hh0 hb0 hb1 hW
  have HC : ∃ c : ByteArray, c.size ≤ 20 ∧ ((20 < b.size ∧ c = b.extract 0 20) ∨ (¬ 20 < b.size ∧ c = b)) := by
    by_cases h : 20 < b.size
    · exact ⟨_, by rw [ByteArray.size_extract]; omega, Or.inl ⟨h, rfl⟩⟩
    · exact ⟨b, by omega, Or.inr ⟨h, rfl⟩⟩
  obtain ⟨c, hc, HC⟩ := HC
  have c0 : ∀ W k, k < 4096 → NHeld W (above w) bn (fullS c k) → w.heap.size ≤ W.heap.size → Calls Try.prog 13 #[.pointer (some ⟨bn, 0, none⟩), .int .i64 0, .int .i64 1, .string c] W fun e w' => e = .returned (.tuple #[.int .i64 k, .int .i64 0]) ∧ NHeld w' (above w) bn (fullS c (k + 1)) ∧ Only (above w) W w' := fun W k hk h hz => by
    have := send_any W h (fresh_above w hz) (fullS_ok c k (by omega) hc) 0 1 c (by omega)
    rw [full_send c k hk hc] at this; exact this
  have c1 : ∀ W m, m = 4096 → NHeld W (above w) bn (fullS c m) → w.heap.size ≤ W.heap.size → Calls Try.prog 13 #[.pointer (some ⟨bn, 0, none⟩), .int .i64 0, .int .i64 1, .string c] W fun e w' => e = .returned (.tuple #[.int .i64 0, .int .i64 2]) ∧ NHeld w' (above w) bn (fullS c m) ∧ Only (above w) W w' := fun W m hm h hz => by
    have := send_any W h (fresh_above w hz) (fullS_ok c m (by omega) hc) 0 1 c (by omega)
    rw [full_no c c 1 (Or.inr rfl) m hm] at this; exact this
  have c2 : ∀ W m, m = 4096 → NHeld W (above w) bn (fullS c m) → w.heap.size ≤ W.heap.size → Calls Try.prog 14 #[.pointer (some ⟨bn, 0, none⟩), .int .i64 7] W fun e w' => e = .returned (.tuple #[.int .i64 0, .int .i64 2]) ∧ NHeld w' (above w) bn (fullS c m) ∧ Only (above w) W w' := fun W m hm h hz => by
    have := copy_any W h (fresh_above w hz) (fullS_ok c m (by omega) hc) 7
    rw [full_copy c m hm] at this; exact this
  have c3 : ∀ W m, m = 4096 → NHeld W (above w) bn (fullS c m) → Calls Try.prog 15 #[.pointer (some ⟨bn, 0, none⟩), .int .i64 7] W fun e w' => e = .returned (.int .i64 0) ∧ NHeld w' (above w) bn (lostS c m) ∧ Only (above w) W w' := fun W m hm h => by
    have := lose_any W h (fullS_ok c m (by omega) hc) 7
    rw [full_lose c m hm] at this; exact this
  have c4 : ∀ W m, m = 4096 → NHeld W (above w) bn (lostS c m) → w.heap.size ≤ W.heap.size → Calls Try.prog 13 #[.pointer (some ⟨bn, 0, none⟩), .int .i64 0, .int .i64 0, .string s] W fun e w' => e = .returned (.tuple #[.int .i64 0, .int .i64 2]) ∧ NHeld w' (above w) bn (lostS c m) ∧ Only (above w) W w' := fun W m hm h hz => by
    have := send_any W h (fresh_above w hz) (lost_ok c hc m hm) 0 0 s hs6.2
    rw [lost_long c s hs6.1 m] at this; exact this
  have c5 : ∀ W m, m = 4096 → NHeld W (above w) bn (lostS c m) → w.heap.size ≤ W.heap.size → Calls Try.prog 14 #[.pointer (some ⟨bn, 0, none⟩), .int .i64 3] W fun e w' => e = .returned (.tuple #[.int .i64 4096, .int .i64 0]) ∧ Only (above w) W w' := fun W m hm h hz => by
    refine (copy_any W h (fresh_above w hz) (lost_ok c hc m hm) 3).mono ?_
    rintro e w' ⟨rfl, _, ho⟩
    rw [lost_copy c m hm, hm]
    exact ⟨rfl, ho⟩
  have hh1' : NHeld w1 (above w) bn (fullS c 0) := hh1
  clear hh1 hs6
  rcases HC with ⟨h20, rfl⟩ | ⟨h20, rfl⟩
  · go_wp2
    generalize b.extract 0 20 = c at *
    generalize Value.bool (decide ((20 : Int) < (b.size : Int))) = q31
    go_loopw [5] (fun i wr => ∃ k : Nat, k ≤ 4096 ∧ i = .int .i64 k ∧ NHeld wr (above w) bn (fullS c k) ∧ Below w.heap.size w wr) (fun i _ => 4096 - (intOf i).toNat)
    case atStart => exact ⟨0, by omega, rfl, hh1', hbw⟩
    case round =>
      obtain ⟨k, hk, rfl, hh, hbel⟩ := hrel
      by_cases hlt : k < 4096
      · have hlt' : (k : Int) < 4096 := by omega
        have hne : ((k : Int) != (k : Int)) = false := by simp
        go_wp2_with (go_at_call 13; refine (c0 _ k hlt hh hbel.size).mono ?_; rintro e w2 ⟨rfl, hh2, ho2⟩)
        go_roundw
        case rel => exact ⟨k + 1, by omega, by go_num, hh2, Only.toBelow hbel ho2⟩
        case measure => simp [intOf]; omega
      · have hm : k = 4096 := by omega
        have HM := hide hm
        have hlt' : ¬ (k : Int) < 4096 := by omega
        have hge : (4096 : Int) ≤ (k : Int) := by omega
        clear hm
        go_wp2_with fail
        refine (c1 _ k HM.out hh hbel.size).mono ?_
        rintro e w2 ⟨rfl, hh2, ho2⟩
        have hb2 := Only.toBelow hbel ho2
        clear ho2 hh hbel c0 c1
        go_wp2_with fail
        refine (c2 _ k HM.out hh2 hb2.size).mono ?_
        rintro e w3 ⟨rfl, hh3, ho3⟩
        have hb3 := Only.toBelow hb2 ho3
        clear ho3 hh2 hb2 c2
        go_wp2_with fail
        refine (c3 _ k HM.out hh3).mono ?_
        rintro e w4 ⟨rfl, hh4, ho4⟩
        have hb4 := Only.toBelow hb3 ho4
        clear ho4 hh3 hb3 c3
        go_wp2_with fail
        refine (c4 _ k HM.out (hh4.below (below_alloc1 w4 _)) (Nat.le_trans hb4.size (by simp))).mono ?_
        rintro e w5 ⟨rfl, hh5, ho5⟩
        have hb5 := Only.toBelow (hb4.alloc hb4.size _) ho5
        clear ho5 hh4 hb4 c4 hmk hcv
        go_wp2_with fail
        refine (c5 _ k HM.out hh5 hb5.size).mono ?_
        rintro e w6 ⟨rfl, ho6⟩
        have hb6 := Only.toBelow hb5 ho6
        clear ho6 hh5 hb5 c5
        go_wp2
        go_ret
        exact ⟨rfl, hb6⟩
  · go_wp2
    go_loopw [5] (fun i wr => ∃ k : Nat, k ≤ 4096 ∧ i = .int .i64 k ∧ NHeld wr (above w) bn (fullS c k) ∧ Below w.heap.size w wr) (fun i _ => 4096 - (intOf i).toNat)
    case atStart => exact ⟨0, by omega, rfl, hh1', hbw⟩
    case round =>
      obtain ⟨k, hk, rfl, hh, hbel⟩ := hrel
      by_cases hlt : k < 4096
      · have hlt' : (k : Int) < 4096 := by omega
        have hne : ((k : Int) != (k : Int)) = false := by simp
        go_wp2_with (go_at_call 13; refine (c0 _ k hlt hh hbel.size).mono ?_; rintro e w2 ⟨rfl, hh2, ho2⟩)
        go_roundw
        case rel => exact ⟨k + 1, by omega, by go_num, hh2, Only.toBelow hbel ho2⟩
        case measure => simp [intOf]; omega
      · have hm : k = 4096 := by omega
        have HM := hide hm
        have hlt' : ¬ (k : Int) < 4096 := by omega
        have hge : (4096 : Int) ≤ (k : Int) := by omega
        clear hm
        go_wp2_with fail
        refine (c1 _ k HM.out hh hbel.size).mono ?_
        rintro e w2 ⟨rfl, hh2, ho2⟩
        have hb2 := Only.toBelow hbel ho2
        clear ho2 hh hbel c0 c1
        go_wp2_with fail
        refine (c2 _ k HM.out hh2 hb2.size).mono ?_
        rintro e w3 ⟨rfl, hh3, ho3⟩
        have hb3 := Only.toBelow hb2 ho3
        clear ho3 hh2 hb2 c2
        go_wp2_with fail
        refine (c3 _ k HM.out hh3).mono ?_
        rintro e w4 ⟨rfl, hh4, ho4⟩
        have hb4 := Only.toBelow hb3 ho4
        clear ho4 hh3 hb3 c3
        go_wp2_with fail
        refine (c4 _ k HM.out (hh4.below (below_alloc1 w4 _)) (Nat.le_trans hb4.size (by simp))).mono ?_
        rintro e w5 ⟨rfl, hh5, ho5⟩
        have hb5 := Only.toBelow (hb4.alloc hb4.size _) ho5
        clear ho5 hh4 hb4 c4 hmk hcv
        go_wp2_with fail
        refine (c5 _ k HM.out hh5 hb5.size).mono ?_
        rintro e w6 ⟨rfl, ho6⟩
        have hb6 := Only.toBelow hb5 ho6
        clear ho6 hh5 hb5 c5
        go_wp2
        go_ret
        exact ⟨rfl, hb6⟩

end Go.Proofs.Ytmdpkkipjdpopaa.Nk
