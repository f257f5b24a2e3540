/- DiskTurns: a name that goes from file to file comes back with the bytes it had; the number of bytes used stays. -/
import Derived.Test.YtmgamfenbbcfhabDAmong
namespace Go.Proofs.Ytmgamfenbbcfhab.Dk
open Go.RowKit Go.Maps Go.Joins

theorem nm_a : named [97] = true := by decide
theorem nm_b : named [98] = true := by decide
theorem nm_c : named [99] = true := by decide
/-- two files, a and b -/
def tu (x y : Bs) : St := ⟨4000, [([97], ⟨x, 0⟩), ([98], ⟨y, 0⟩)], -1, false⟩
theorem tu_1 (x : Bs) (h : x.length ≤ 1000) : (St.new 4000).append [97] x = (0, ⟨4000, [([97], ⟨x, 0⟩)], -1, false⟩) := by
  simp [St.append, St.new, nm_a, used, sumL, getL, putL, insL, delL, fileOr, St.do, St.take, taken]; omega
theorem tu_2 (x y : Bs) (h : x.length ≤ 1000) (h' : y.length ≤ 1000) : (St.mk 4000 [([97], ⟨x, 0⟩)] (-1) false).append [98] y = (0, tu x y) := by
  have hb : bytesBefore [98] [97] = false := by decide
  have hs : ¬ 4000 < x.length + y.length := by omega
  simp [St.append, tu, nm_b, used, sumL, getL, putL, insL, delL, fileOr, St.do, St.take, taken, hs, hb]
theorem tu_3 (x y : Bs) : (tu x y).rename [97] [99] = (0, ⟨4000, [([98], ⟨y, 0⟩), ([99], ⟨x, 0⟩)], -1, false⟩) := by
  have hb : bytesBefore [99] [98] = false := by decide
  simp [St.rename, tu, nm_a, nm_c, getL, putL, insL, delL, St.do, St.take, taken, hb]
theorem tu_4 (x y : Bs) : (St.mk 4000 [([98], ⟨y, 0⟩), ([99], ⟨x, 0⟩)] (-1) false).rename [98] [97] = (0, ⟨4000, [([97], ⟨y, 0⟩), ([99], ⟨x, 0⟩)], -1, false⟩) := by
  have hb : bytesBefore [97] [99] = true := by decide
  simp [St.rename, nm_a, nm_b, getL, putL, insL, delL, St.do, St.take, taken, hb]
theorem tu_5 (x y : Bs) : (St.mk 4000 [([97], ⟨y, 0⟩), ([99], ⟨x, 0⟩)] (-1) false).rename [99] [98] = (0, tu y x) := by
  have hb : bytesBefore [98] [97] = false := by decide
  simp [St.rename, tu, nm_b, nm_c, getL, putL, insL, delL, St.do, St.take, taken, hb]
theorem tu_6 (x y : Bs) : (tu x y).read [97] = (x, 0) := by simp [St.read, tu, nm_a, getL]
theorem tu_7 (x y : Bs) : (tu x y).read [98] = (y, 0) := by simp [St.read, tu, nm_b, getL]
theorem tu_8 (x y : Bs) : used (tu x y).files = x.length + y.length := by simp [used, sumL, tu]

def cur (a b : Bs) (k : Nat) : Bs × Bs := if k % 2 = 0 then (a, b) else (b, a)
/-- the disk behind so many turns -/
def tuK (a b : Bs) (k : Nat) : St := tu (cur a b k).1 (cur a b k).2
theorem tuK_next (a b : Bs) (k : Nat) : tuK a b (k + 1) = tu (cur a b k).2 (cur a b k).1 := by
  unfold tuK cur
  by_cases h : k % 2 = 0
  · rw [if_pos h, if_neg (by omega)]
  · rw [if_neg h, if_pos (by omega)]

set_option maxHeartbeats 6400000 in
set_option maxRecDepth 100000 in
theorem turns_law (a b : ByteArray) (n : Int) (w : World) (ha : a.size ≤ 140737488351232) (hb : b.size ≤ 140737488351232) (hn : (Lit.int .i64 n).wf = true) :
    Calls Try.prog 4 #[.string a, .string b, .int .i64 n] w fun e w' => e = .returned (.bool true) ∧ Below w.heap.size w w' := by
  obtain ⟨n0, n1⟩ := bounds_i64 hn
  have m0 := Int.emod_nonneg n (show (20 : Int) ≠ 0 by omega)
  have m1 := Int.emod_lt_of_pos n (show (0 : Int) < 20 by omega)
  have hal : a.data.toList.length = a.size := (Lib.size_eq a).symm
  have hbl : b.data.toList.length = b.size := (Lib.size_eq b).symm
  go_enter Try.func4, Try.ntmps4
  go_wp2_with fail
  refine (new_ok 4000 w (by omega)).mono ?_
  rintro e w1 ⟨bd, rfl, h1, hb1⟩
  have hz1 := hb1.size
  go_wp2_with fail
  refine (works_any w1).mono ?_
  rintro e w2 ⟨rfl, hb2⟩
  have hB2 := hb1.trans (hb2.mono hz1)
  have h2 : Held w2 (since w.heap.size) bd (St.new 4000) := h1.below hb2
  have hz2 := hB2.size
  clear hb1 hb2 h1
  by_cases hlong : 1000 < a.size ∨ 1000 < b.size
  · go_wp2
    all_goals
      go_ret
      exact ⟨rfl, hB2⟩
  · have g1 : (a.size : Int) ≤ 1000 := by omega
    have g2 : (b.size : Int) ≤ 1000 := by omega
    have hA := append_any w2 h2 (fresh_since hz2) ⟨#[97]⟩ a (by decide) ha
    rw [show (St.new 4000).append (ByteArray.mk #[97]).data.toList a.data.toList = _ from tu_1 _ (by omega)] at hA
    go_wp2_with fail
    refine hA.mono ?_
    rintro e w3 ⟨rfl, h3, hO⟩
    have hB3 := hB2.trans (hO.below hz2 fun _ h => h)
    have hz3 := hB3.size
    clear hA hO h2 hB2
    have hA := append_any w3 h3 (fresh_since hz3) ⟨#[98]⟩ b (by decide) hb
    rw [show (St.mk 4000 [([97], ⟨a.data.toList, 0⟩)] (-1) false).append (ByteArray.mk #[98]).data.toList b.data.toList = _ from tu_2 _ _ (by omega) (by omega)] at hA
    go_wp2_with fail
    refine hA.mono ?_
    rintro e w4 ⟨rfl, h4, hO⟩
    have hB4 := hB3.trans (hO.below hz3 fun _ h => h)
    have hz4 := hB4.size
    clear hA hO h3 hB3
    go_wp2_with fail
    refine (among_any n 20 w4 (by omega) (by omega) n0 n1).mono ?_
    rintro e w' ⟨rfl, rfl⟩
    obtain ⟨m, hm⟩ : ∃ m : Nat, n % 20 = m := ⟨(n % 20).toNat, by omega⟩
    rw [hm] at m0 m1 ⊢
    clear hm
    have h4' : Held w' (since w.heap.size) bd (tuK a.data.toList b.data.toList 0) := h4
    clear h4
    go_wp2
    go_loopw [47] (fun i wr => ∃ k : Nat, k ≤ m ∧ i = .int .i64 k ∧ Held wr (since w.heap.size) bd (tuK a.data.toList b.data.toList k) ∧ Below w.heap.size w wr) (fun i _ => m - (intOf i).toNat)
    case atStart => exact ⟨0, by omega, rfl, h4', hB4⟩
    case round =>
      obtain ⟨k, hk, rfl, hH, hB⟩ := hrel
      have hz := hB.size
      by_cases hlt : k < m
      · have HN := hide (tuK_next a.data.toList b.data.toList k)
        have hH' : Held wr (since w.heap.size) bd (tu (cur a.data.toList b.data.toList k).1 (cur a.data.toList b.data.toList k).2) := hH
        clear hH
        generalize (cur a.data.toList b.data.toList k).1 = x at *
        generalize (cur a.data.toList b.data.toList k).2 = y at *
        have i2 : (k : Int) < (m : Int) := by omega
        have hA := rename_any wr hH' ⟨#[97]⟩ ⟨#[99]⟩ (by decide) (by decide)
        rw [show (tu x y).rename (ByteArray.mk #[97]).data.toList (ByteArray.mk #[99]).data.toList = _ from tu_3 x y] at hA
        go_wp2_with fail
        refine hA.mono ?_
        rintro e w5 ⟨rfl, h5, hO⟩
        have hB5 := hB.trans (hO.below hz fun _ h => h)
        have hz5 := hB5.size
        clear hA hO hH' hB
        have hA := rename_any w5 h5 ⟨#[98]⟩ ⟨#[97]⟩ (by decide) (by decide)
        rw [show (St.mk 4000 [([98], ⟨y, 0⟩), ([99], ⟨x, 0⟩)] (-1) false).rename (ByteArray.mk #[98]).data.toList (ByteArray.mk #[97]).data.toList = _ from tu_4 x y] at hA
        go_wp2_with fail
        refine hA.mono ?_
        rintro e w6 ⟨rfl, h6, hO⟩
        have hB6 := hB5.trans (hO.below hz5 fun _ h => h)
        have hz6 := hB6.size
        clear hA hO h5 hB5
        have hA := rename_any w6 h6 ⟨#[99]⟩ ⟨#[98]⟩ (by decide) (by decide)
        rw [show (St.mk 4000 [([97], ⟨y, 0⟩), ([99], ⟨x, 0⟩)] (-1) false).rename (ByteArray.mk #[99]).data.toList (ByteArray.mk #[98]).data.toList = _ from tu_5 x y] at hA
        go_wp2_with fail
        refine hA.mono ?_
        rintro e w7 ⟨rfl, h7, hO⟩
        have hB7 := hB6.trans (hO.below hz6 fun _ h => h)
        clear hA hO h6 hB6
        go_wp2
        go_roundw
        case rel => exact ⟨k + 1, by omega, by go_num, by rw [HN.out]; exact h7, hB7⟩
        case measure => simp [intOf]; omega
      · obtain rfl : k = m := by omega
        by_cases hp : k % 2 = 1
        · have hH' : Held wr (since w.heap.size) bd (tu b.data.toList a.data.toList) := by unfold tuK cur at hH; rw [if_neg (by omega)] at hH; exact hH
          have p1 : ((k : Int) % 2 == 1) = true := by simp; omega
          have p2 : (k : Int) % 2 = 1 := by omega
          clear hH
          have hA := read_any wr hH' ⟨#[97]⟩ (by decide)
          rw [show (tu b.data.toList a.data.toList).read (ByteArray.mk #[97]).data.toList = _ from tu_6 _ _] at hA
          simp only [bytes_eta] at hA
          go_wp2_with fail
          refine hA.mono ?_
          rintro e w8 ⟨rfl, hb8⟩
          have hB8 := hB.trans (hb8.mono hz)
          have hz8 := hB8.size
          have h8 := hH'.below hb8
          clear hA hb8 hH' hB
          have hA := read_any w8 h8 ⟨#[98]⟩ (by decide)
          rw [show (tu b.data.toList a.data.toList).read (ByteArray.mk #[98]).data.toList = _ from tu_7 _ _] at hA
          simp only [bytes_eta] at hA
          go_wp2_with fail
          refine hA.mono ?_
          rintro e w9 ⟨rfl, hb9⟩
          have hB9 := hB8.trans (hb9.mono hz8)
          have hz9 := hB9.size
          have h9 := h8.below hb9
          clear hA hb9 h8 hB8
          have hA := used_held w9 h9
          rw [tu_8, hal, hbl] at hA
          have beq1 : (a.toList == a.toList) = true := by simp
          have beq2 : (b.toList == b.toList) = true := by simp
          go_wp2_with fail
          refine hA.mono ?_
          rintro e w10 ⟨rfl, hb10⟩
          have hB10 := hB9.trans (hb10.mono hz9)
          have hz10 := hB10.size
          have h10 := h9.below hb10
          clear hA hb10 h9 hB9
          have hA := names_held w10 h10
          have hl2 : (namesOf (tu b.data.toList a.data.toList).files).length = 2 := by simp [namesOf, tu]
          rw [hl2] at hA
          go_wp2_with fail
          refine hA.mono ?_
          rintro e w11 ⟨v, rfl, hown, hb11⟩
          obtain ⟨an, cn, rfl⟩ := own_slice hown
          have hB11 := hB10.trans (hb11.mono hz10)
          clear hA hown hb11
          go_wp2
          go_ret
          exact ⟨rfl, hB11⟩
        · have hH' : Held wr (since w.heap.size) bd (tu a.data.toList b.data.toList) := by unfold tuK cur at hH; rw [if_pos (by omega)] at hH; exact hH
          have p1 : ((k : Int) % 2 == 1) = false := by simp; omega
          have p2 : (k : Int) % 2 = 0 := by omega
          clear hH
          have hA := read_any wr hH' ⟨#[97]⟩ (by decide)
          rw [show (tu a.data.toList b.data.toList).read (ByteArray.mk #[97]).data.toList = _ from tu_6 _ _] at hA
          simp only [bytes_eta] at hA
          go_wp2_with fail
          refine hA.mono ?_
          rintro e w8 ⟨rfl, hb8⟩
          have hB8 := hB.trans (hb8.mono hz)
          have hz8 := hB8.size
          have h8 := hH'.below hb8
          clear hA hb8 hH' hB
          have hA := read_any w8 h8 ⟨#[98]⟩ (by decide)
          rw [show (tu a.data.toList b.data.toList).read (ByteArray.mk #[98]).data.toList = _ from tu_7 _ _] at hA
          simp only [bytes_eta] at hA
          go_wp2_with fail
          refine hA.mono ?_
          rintro e w9 ⟨rfl, hb9⟩
          have hB9 := hB8.trans (hb9.mono hz8)
          have hz9 := hB9.size
          have h9 := h8.below hb9
          clear hA hb9 h8 hB8
          have hA := used_held w9 h9
          rw [tu_8, hal, hbl] at hA
          have beq1 : (a.toList == a.toList) = true := by simp
          have beq2 : (b.toList == b.toList) = true := by simp
          go_wp2_with fail
          refine hA.mono ?_
          rintro e w10 ⟨rfl, hb10⟩
          have hB10 := hB9.trans (hb10.mono hz9)
          have hz10 := hB10.size
          have h10 := h9.below hb10
          clear hA hb10 h9 hB9
          have hA := names_held w10 h10
          have hl2 : (namesOf (tu a.data.toList b.data.toList).files).length = 2 := by simp [namesOf, tu]
          rw [hl2] at hA
          go_wp2_with fail
          refine hA.mono ?_
          rintro e w11 ⟨v, rfl, hown, hb11⟩
          obtain ⟨an, cn, rfl⟩ := own_slice hown
          have hB11 := hB10.trans (hb11.mono hz10)
          clear hA hown hb11
          go_wp2
          go_ret
          exact ⟨rfl, hB11⟩

end Go.Proofs.Ytmgamfenbbcfhab.Dk
