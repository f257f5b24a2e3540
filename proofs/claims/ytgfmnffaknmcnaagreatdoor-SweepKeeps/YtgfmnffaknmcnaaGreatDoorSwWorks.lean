/- Layer 12: Live; the law's sameSizes; works() is true. -/
import Derived.Test.YtgfmnffaknmcnaaGreatDoorSwPlan
import Derived.Test.YtgfmnffaknmcnaaGreatDoorGQuiet
namespace Go.Proofs.YtgfmnffaknmcnaaGreatDoor.Sw
open Go.RowKit Go.Joins Go.Sort Gk

set_option maxRecDepth 100000 in
theorem sz_eq (x y : Sz) (w : World) : (Op.equalIn 10000 SzT (.agg #[.int .i64 x.1, .int .i64 x.2]) (.agg #[.int .i64 y.1, .int .i64 y.2])).run Tryz.prog w = .ok (decide (x = y)) w := by
  have hf : Tryz.prog.underlying SzT = some (.struct (Tryz.prog.fieldsOf SzT)) := by simp only [Program.fieldsOf, Tryz.underlying67]
  have e1 : ∀ (x y : Int) (W : World), (Op.equalIn 9999 3 (.int .i64 x) (.int .i64 y)).run Tryz.prog W = .ok (x == y) W := fun x y W => run_equalIn_int W 9998 3 .i64 .i64 x y Tryz.underlying3
  rw [show (10000 : Nat) = 9999 + 1 from rfl, run_equalIn_struct w 9999 SzT _ _ hf (by kernel_rfl)]
  simp only [Program.fieldsOf, Tryz.underlying67]
  obtain ⟨x1, x2⟩ := x
  obtain ⟨y1, y2⟩ := y
  by_cases h1 : x1 = y1 <;> by_cases h2 : x2 = y2 <;> simp [Op.eqFields, go_sem, e1, h1, h2]

set_option maxHeartbeats 1600000 in
set_option maxRecDepth 100000 in
theorem sameSizes_yes (a a' : Option Addr) (cap cap' : Nat) (l : List Sz) (w : World) (hl : Lies w szE a l) (hl' : Lies w szE a' l) (hn : l.length ≤ 9223372036854775807) :
    Calls Tryz.prog 33 #[.slice a l.length cap, .slice a' l.length cap'] w fun e w' => e = .returned (.bool true) ∧ Below w.heap.size w w' := by
  have mixed : Tryz.prog.follows .mixedOrders = true := by kernel_rfl
  go_enter Tryz.func33, Tryz.ntmps33
  go_wp2
  go_loopw [5] (fun iv wr => ∃ k : Nat, k ≤ l.length ∧ iv = .int .i64 k ∧ Below w.heap.size w wr) (fun iv _ => l.length - (intOf iv).toNat)
  case atStart => exact ⟨0, Nat.zero_le _, rfl, Below.refl _ _⟩
  case round =>
    obtain ⟨k, hk, rfl, hb⟩ := hrel
    by_cases hkl : k < l.length
    · have j1 : (k : Int) < (l.length : Int) := by omega
      have j0 : (0 : Int) ≤ (k : Int) := by omega
      obtain ⟨b1, o1, rfl, hb1, hc1⟩ := (hl.below hb).at szE_len k hkl
      obtain ⟨b2, o2, rfl, hb2, hc2⟩ := (hl'.below hb).at szE_len k hkl
      have d1 := hc1 0 _ rfl
      have d2 := hc2 0 _ rfl
      have d3 := hc1 1 _ rfl
      have d4 := hc2 1 _ rfl
      rw [Nat.add_zero] at d1 d2
      generalize l[k] = x at d1 d2 d3 d4
      have hpe : ∀ W, _ := fun W => sz_eq x x W
      simp only [decide_true] at hpe
      clear hc1 hc2
      go_wp2
      go_quiet (fail)
      go_wp2
      exact ⟨⟨k + 1, by omega, by go_num, hb.trans (below_draws _ _ _)⟩, by simp [intOf]; omega⟩
    · have j1 : ¬ (k : Int) < (l.length : Int) := by omega
      go_wp2
      go_ret
      exact ⟨rfl, hb⟩

set_option maxHeartbeats 800000 in
set_option maxRecDepth 100000 in
theorem Live_any (a : Option Addr) (cap : Nat) (l : List Pc) (w : World) (hl : Lies w penc a l) (hn : l.length ≤ 4096) :
    Calls Tryz.prog 32 #[.slice a l.length cap] w fun e w' => ∃ v, e = .returned (.tuple #[v, .int .i64 0]) ∧ ∃ L, Onc l L ∧ w'.ownsRow w.heap.size SzT 2 v (lbs L).length (rc szE (lbs L)) ∧ Below w.heap.size w w' := by
  have hT := many_any a l.length cap w
  rw [decide_eq_false (by omega)] at hT
  have hB := liveBytes_any a cap l w hl hn
  go_enter Tryz.func32, Tryz.ntmps32
  go_wp2_with fail
  refine hT.mono ?_
  rintro e w1 ⟨rfl, hw1⟩
  obtain rfl := hw1.symm
  clear hT
  go_wp2_with fail
  refine hB.mono ?_
  rintro e w2 ⟨v2, rfl, L, hO, hr, hb⟩
  clear hB
  go_wp2
  go_ret2
  exact ⟨_, rfl, L, hO, hr, hb⟩

abbrev wLv : List Pc := [(1, 0, 12), (2, 0, 52)]
abbrev wSz : List Sz := [(1, 100), (2, 100), (3, 10)]
abbrev wOut : List Sz := [(1, 20), (2, 60)]
set_option maxRecDepth 100000 in
theorem wLv_once {L : List Pc} (h : Onc wLv L) : L = wLv := Ord.unique h.ord (by simp [B4]) h.mem
set_option maxRecDepth 100000 in
theorem wLv_lbs : lbs wLv = wOut := by decide
set_option maxRecDepth 100000 in
theorem lies_block {α : Type} {enc : α → List Value} {w : World} {b : Nat} {T : TypeId} {l : List α} {cs : Array Value} (h : w.heap[b]? = some (.cells cs T (0, 0))) (hc : cs.toList = rc enc l) : Lies w enc (some ⟨b, 0, none⟩) l :=
  Or.inr ⟨b, 0, rfl, (Array.getElem?_eq_some_iff.1 h).1, fun j u hj => by rw [Nat.zero_add, cell_of_block h]; rw [← hc] at hj; simpa using hj⟩
set_option maxHeartbeats 1600000 in
set_option maxRecDepth 100000 in
theorem works_any (w : World) : Calls Tryz.prog 7 #[] w fun e w' => e = .returned (.bool true) ∧ Below w.heap.size w w' := by
  have mixed : Tryz.prog.follows .mixedOrders = true := by kernel_rfl
  obtain ⟨W1, hW1⟩ : ∃ W1, W1 = w.alloc (.cells #[.int .i64 1, .int .i64 0, .int .i64 12, .int .i64 2, .int .i64 0, .int .i64 52] plT) := ⟨_, rfl⟩
  have hb1 : Below w.heap.size w W1 := by rw [hW1]; exact below_alloc1 _ _
  have hB1 : W1.heap[w.heap.size]? = some (.cells #[.int .i64 1, .int .i64 0, .int .i64 12, .int .i64 2, .int .i64 0, .int .i64 52] plT (0, 0)) := by rw [hW1]; exact heap_alloc_new _ _
  have hl1 : Lies W1 penc (some ⟨w.heap.size, 0, none⟩) wLv := lies_block hB1 rfl
  have hL : Calls Tryz.prog 32 #[.slice (some ⟨w.heap.size, 0, none⟩) 2 2] W1 _ := Live_any _ 2 wLv W1 hl1 (by decide)
  go_enter Tryz.func7, Tryz.ntmps7
  go_wp2_with fail
  rw [← hW1]
  refine hL.mono ?_
  rintro e w2 ⟨v2, rfl, L, hO, hr2, hb2⟩
  rw [wLv_once hO, wLv_lbs] at hr2
  obtain ⟨W3, hW3⟩ : ∃ W3, W3 = w2.alloc (.cells #[.int .i64 1, .int .i64 100, .int .i64 2, .int .i64 100, .int .i64 3, .int .i64 10] SzT) := ⟨_, rfl⟩
  have hb3 : Below w2.heap.size w2 W3 := by rw [hW3]; exact below_alloc1 _ _
  have hB3 : W3.heap[w2.heap.size]? = some (.cells #[.int .i64 1, .int .i64 100, .int .i64 2, .int .i64 100, .int .i64 3, .int .i64 10] SzT (0, 0)) := by rw [hW3]; exact heap_alloc_new _ _
  have hs3 : Lies W3 szE (some ⟨w2.heap.size, 0, none⟩) wSz := lies_block hB3 rfl
  have hl3 := (hl1.below hb2).below hb3
  have hr3 := own_below hr2 hb3
  have hP : Calls Tryz.prog 28 #[.slice (some ⟨w2.heap.size, 0, none⟩) 3 3, .slice (some ⟨w.heap.size, 0, none⟩) 2 2, .int .i64 50] W3 _ := Plan_any _ 3 wSz _ 2 wLv 50 W3 hs3 (by decide) hl3 (by decide) (by decide)
  have hbw3 : Below w.heap.size w W3 := (hb1.trans (hb2.mono hb1.size)).trans (hb3.mono (Nat.le_trans hb1.size hb2.size))
  clear hL hW1 hb1 hB1 hl1 hb2 hr2 hb3 hB3 hs3 hl3
  go_wp2_with fail
  rw [← hW3]
  refine hP.mono ?_
  rintro e w4 ⟨v4, rfl, hp4, hb4⟩
  rcases hp4.out with ⟨h, _⟩ | ⟨_, h, _⟩ | ⟨_, _, h, _⟩ | ⟨-, -, -, L', f, hO', rfl, hf⟩
  · exact absurd h (by decide)
  · exact absurd h (by decide)
  · exact absurd h (by decide)
  rw [wLv_once hO', show planL wLv 50 wSz = [1] by decide] at hf
  have hr4 := own_below hr3 hb4
  obtain ⟨a4, c4, rfl⟩ := own_slice hr4
  obtain ⟨g5, c5, e5, hg5, hc5⟩ := Row.at (l := [1]) (own_mono hf (Nat.zero_le _)) nenc_len 0 (by decide)
  subst e5
  have q0 := hc5 0 _ rfl
  simp only [Nat.zero_mul, Nat.add_zero] at q0
  have hbw4 := hbw3.trans (hb4.mono hbw3.size)
  have q0' : w4.cell? ⟨g5, 0, none⟩ = some (.int .i64 1) := q0
  have hl4 : Lies w4 szE a4 wOut := Row.lies (k := 2) (e := SzT) (n := wOut.length) (cap := c4) (own_mono hr4 (Nat.zero_le _))
  have hb5 := below_alloc1 w4 (.cells #[.int .i64 1, .int .i64 20, .int .i64 2, .int .i64 60] SzT)
  have hS : Calls Tryz.prog 33 #[.slice a4 2 c4, .slice (some ⟨w4.heap.size, 0, none⟩) 2 2] (w4.alloc (.cells #[.int .i64 1, .int .i64 20, .int .i64 2, .int .i64 60] SzT)) _ :=
    sameSizes_yes a4 (some ⟨w4.heap.size, 0, none⟩) c4 2 wOut _ (hl4.below hb5) (lies_block (heap_alloc_new w4 _) rfl) (by decide)
  have HQ := hide (And.intro q0' (And.intro hg5 (And.intro hb5 hbw4)))
  clear hP hp4 hW3 hO hO' hf hr3 hb4 hbw3 hc5 q0 q0' hl4 hr4 hb5 hg5 hbw4
  go_wp2_with fail
  refine hS.mono ?_
  rintro e w6 ⟨rfl, hb6⟩
  obtain ⟨q0, hg5, hb5, hbw4⟩ := HQ.out
  have q6 : w6.cell? ⟨g5, 0, none⟩ = some (.int .i64 1) := ((hb5.trans (hb6.mono hb5.size)).cell (p := ⟨g5, 0, none⟩) hg5).trans q0
  have hend : Below w.heap.size w w6 := hbw4.trans ((hb5.trans (hb6.mono hb5.size)).mono hbw4.size)
  clear hS q0 HQ hb6 hbw4 hb5
  go_wp2
  go_ret
  exact ⟨rfl, hend⟩

end Go.Proofs.YtgfmnffaknmcnaaGreatDoor.Sw
