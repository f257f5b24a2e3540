/- works(), of the laws: the chapter's example. -/
import Derived.Test.YtokcknfbanpjjaaDCalls
namespace Go.Proofs.Ytokcknfbanpjjaa.Dk
open Go.RowKit Go.Maps Go.Joins

def wk0 : St := St.new 9
def wk1 : St := ⟨9, [([97], ⟨[120], 0⟩)], -1, false⟩
def wk2 : St := ⟨9, [([97], ⟨[120], 1⟩)], -1, false⟩
def wk3 : St := ⟨9, [([97], ⟨[120, 121, 122], 1⟩)], -1, false⟩
def wk4 : St := ⟨9, [([97], ⟨[120, 121, 122], 1⟩), ([98], ⟨[113], 0⟩)], -1, false⟩
def wk5 : St := ⟨9, [([97], ⟨[120, 121], 2⟩), ([98], ⟨[], 0⟩)], -1, false⟩
theorem wk_1 : wk0.append [97] [120] = (0, wk1) := by kernel_rfl
theorem wk_2 : wk1.sync = (0, wk2) := by kernel_rfl
theorem wk_3 : wk2.append [97] [121, 122] = (0, wk3) := by kernel_rfl
theorem wk_4 : wk3.append [98] [113] = (0, wk4) := by kernel_rfl
theorem wk_5 : wk4.crash [1, 0] = (0, wk5) := by kernel_rfl
theorem wk_6 : wk5.read [97] = ([120, 121], 0) := by kernel_rfl
theorem wk_7 : wk5.read [98] = ([], 0) := by kernel_rfl
theorem wk_8 : wk5.append [97] [49, 50, 51, 52, 53, 54, 55, 56] = (22, wk5) := by kernel_rfl
theorem wk_9 : used wk5.files = 2 := by kernel_rfl

set_option maxHeartbeats 3200000 in
set_option maxRecDepth 100000 in
theorem works_any (w : World) :
    Calls Try.prog 8 #[] w fun e w' => e = .returned (.bool true) ∧ Below w.heap.size w w' := by
  go_enter Try.func8, Try.ntmps8
  go_wp2_with fail
  refine (new_ok 9 w (by omega)).mono ?_
  rintro e w1 ⟨bd, rfl, h1, hb1⟩
  have hz1 := hb1.size
  have h1 : Held w1 (since w.heap.size) bd wk0 := h1
  have hA1 := append_any w1 h1 (fresh_since hz1) ⟨#[97]⟩ ⟨#[120]⟩ (by decide) (by decide)
  rw [show wk0.append (ByteArray.mk #[97]).data.toList (ByteArray.mk #[120]).data.toList = _ from wk_1] at hA1
  go_wp2_with fail
  refine hA1.mono ?_
  rintro e w2 ⟨rfl, h2, hO2⟩
  have hz2 := Nat.le_trans hz1 hO2.size
  have hb2 := hb1.trans (hO2.below hz1 fun _ h => h)
  have hA2 := sync_any w2 h2
  rw [wk_2] at hA2
  clear hA1 hO2 hb1 h1
  go_wp2_with fail
  refine hA2.mono ?_
  rintro e w3 ⟨rfl, h3, hO3⟩
  have hz3 := Nat.le_trans hz2 hO3.size
  have hb3 := hb2.trans (hO3.below hz2 fun _ h => h)
  have hA3 := append_any w3 h3 (fresh_since hz3) ⟨#[97]⟩ ⟨#[121, 122]⟩ (by decide) (by decide)
  rw [show wk2.append (ByteArray.mk #[97]).data.toList (ByteArray.mk #[121, 122]).data.toList = _ from wk_3] at hA3
  clear hA2 hO3 hb2 h2
  go_wp2_with fail
  refine hA3.mono ?_
  rintro e w4 ⟨rfl, h4, hO4⟩
  have hz4 := Nat.le_trans hz3 hO4.size
  have hb4 := hb3.trans (hO4.below hz3 fun _ h => h)
  have hA4 := append_any w4 h4 (fresh_since hz4) ⟨#[98]⟩ ⟨#[113]⟩ (by decide) (by decide)
  rw [show wk3.append (ByteArray.mk #[98]).data.toList (ByteArray.mk #[113]).data.toList = _ from wk_4] at hA4
  clear hA3 hO4 hb3 h3
  go_wp2_with fail
  refine hA4.mono ?_
  rintro e w5 ⟨rfl, h5, hO5⟩
  have hz5 := Nat.le_trans hz4 hO5.size
  have hb5 := hb4.trans (hO5.below hz4 fun _ h => h)
  clear hA4 hO5 hb4 h4
  go_wp2_with fail
  obtain ⟨W, hW⟩ : ∃ W, W = w5.alloc (.cells #[.int .i64 1, .int .i64 0] 3) := ⟨_, rfl⟩
  rw [← hW]
  have hbW : Below w5.heap.size w5 W := by rw [hW]; exact below_alloc1 _ _
  have hAW : W.heap[w5.heap.size]? = some (.cells #[.int .i64 1, .int .i64 0] 3 (0, 0)) := by rw [hW]; exact heap_alloc_new w5 _
  clear hW
  have hzW := (Array.getElem?_eq_some_iff.1 hAW).1
  have h6 := h5.now.below hbW
  have hld : LiesI W (fun b => since w.heap.size b ∧ b < w5.heap.size) (some ⟨w5.heap.size, 0, none⟩) [1, 0] := by
    refine Or.inr ⟨_, _, rfl, hzW, fun h => by omega, fun i hi => ?_⟩
    rw [Nat.zero_add, cell_of_block hAW]
    match i, hi with
    | 0, _ => rfl
    | 1, _ => rfl
  have hA5 := crash_any W h6 (some ⟨w5.heap.size, 0, none⟩) 2 [1, 0] hld (by simp) (by simp) (by omega) (by simp)
  rw [wk_5] at hA5
  clear hAW h5 hld
  refine hA5.mono ?_
  rintro e w6 ⟨rfl, h7, hO6⟩
  have hb6 := (hb5.trans (hbW.mono hz5)).trans (hO6.below (by omega) fun _ h => h.1)
  have hz6 := hb6.size
  have h7' : Held w6 (since w.heap.size) bd wk5 := h7.own fun _ _ h => h.1
  have hA6 := read_any w6 h7' ⟨#[97]⟩ (by decide)
  rw [show wk5.read (ByteArray.mk #[97]).data.toList = _ from wk_6] at hA6
  clear hA5 h6 h7 hO6 hb5 hbW
  go_wp2_with fail
  refine hA6.mono ?_
  rintro e w7 ⟨rfl, hb7⟩
  have hb7' := hb6.trans (hb7.mono hz6)
  have hz7 := hb7'.size
  have h8 := h7'.below hb7
  have hA7 := read_any w7 h8 ⟨#[98]⟩ (by decide)
  rw [show wk5.read (ByteArray.mk #[98]).data.toList = _ from wk_7] at hA7
  clear hA6 hb7 hb6 h7'
  go_wp2_with fail
  refine hA7.mono ?_
  rintro e w8 ⟨rfl, hb8⟩
  have hb8' := hb7'.trans (hb8.mono hz7)
  have hz8 := hb8'.size
  have h9 := h8.below hb8
  have hA8 := append_any w8 h9 (fresh_since hz8) ⟨#[97]⟩ ⟨#[49, 50, 51, 52, 53, 54, 55, 56]⟩ (by decide) (by decide)
  rw [show wk5.append (ByteArray.mk #[97]).data.toList (ByteArray.mk #[49, 50, 51, 52, 53, 54, 55, 56]).data.toList = _ from wk_8] at hA8
  clear hA7 hb8 hb7' h8
  go_wp2_with fail
  refine hA8.mono ?_
  rintro e w9 ⟨rfl, h10, hO9⟩
  have hb9 := hb8'.trans (hO9.below hz8 fun _ h => h)
  have hz9 := hb9.size
  have hA9 := used_held w9 h10
  rw [wk_9] at hA9
  clear hA8 h9 hb8' hO9
  go_wp2_with fail
  refine hA9.mono ?_
  rintro e w10 ⟨rfl, hb10⟩
  go_wp2
  go_ret
  exact ⟨rfl, hb9.trans (hb10.mono hz9)⟩

end Go.Proofs.Ytokcknfbanpjjaa.Dk
