/- SweepSwings: for all arguments that can be read the law returns true, and all read as they did. -/
import Derived.Test.YtcaboefpdejlmaaSwWorks
import Derived.Test.YtcaboefpdejlmaaSwSwg
namespace Go.Proofs.Ytcaboefpdejlmaa.Sw
open Go.RowKit Go.Joins Go.Sort Go.Maps Gk

theorem pl_eq (x y : Pc) (w : World) : (Op.equalIn 10000 plT (plv x) (plv y)).run Try.prog w = .ok (decide (x = y)) w := by
  have hf : Try.prog.underlying plT = some (.struct (Try.prog.fieldsOf plT)) := by simp only [Program.fieldsOf, Try.underlying48]
  have e1 : ∀ (x y : Int) (W : World), (Op.equalIn 9999 3 (.int .i64 x) (.int .i64 y)).run Try.prog W = .ok (x == y) W := fun x y W => run_equalIn_int W 9998 3 .i64 .i64 x y Try.underlying3
  rw [show (10000 : Nat) = 9999 + 1 from rfl, run_equalIn_struct w 9999 plT _ _ hf (by kernel_rfl)]
  simp only [Program.fieldsOf, Try.underlying48]
  obtain ⟨x1, x2, x3⟩ := x
  obtain ⟨y1, y2, y3⟩ := y
  by_cases h1 : x1 = y1 <;> by_cases h2 : x2 = y2 <;> by_cases h3 : x3 = y3 <;> simp [Op.eqFields, go_sem, e1, h1, h2, h3]

set_option maxHeartbeats 1600000 in
set_option maxRecDepth 100000 in
theorem samePlaces_yes (a a' : Option Addr) (cap cap' : Nat) (l : List Pc) (w : World) (hl : Lies w penc a l) (hl' : Lies w penc a' l) (hn : l.length ≤ 9223372036854775807) :
    Calls Try.prog 13 #[.slice a l.length cap, .slice a' l.length cap'] w fun e w' => e = .returned (.bool true) ∧ Below w.heap.size w w' := by
  have mixed : Try.prog.follows .mixedOrders = true := by kernel_rfl
  go_enter Try.func13, Try.ntmps13
  go_wp2
  go_loopw [5] (fun iv wr => ∃ k : Nat, k ≤ l.length ∧ iv = .int .i64 k ∧ Below w.heap.size w wr) (fun iv _ => l.length - (intOf iv).toNat)
  case atStart => exact ⟨0, Nat.zero_le _, rfl, Below.refl _ _⟩
  case round =>
    obtain ⟨k, hk, rfl, hb⟩ := hrel
    by_cases hkl : k < l.length
    · have j1 : (k : Int) < (l.length : Int) := by omega
      have j0 : (0 : Int) ≤ (k : Int) := by omega
      obtain ⟨b1, o1, rfl, hb1, hc1⟩ := (hl.below hb).at penc_len k hkl
      obtain ⟨b2, o2, rfl, hb2, hc2⟩ := (hl'.below hb).at penc_len k hkl
      have d1 := hc1 0 _ rfl
      have d2 := hc2 0 _ rfl
      have d3 := hc1 1 _ rfl
      have d4 := hc2 1 _ rfl
      have d5 := hc1 2 _ rfl
      have d6 := hc2 2 _ rfl
      rw [Nat.add_zero] at d1 d2
      generalize l[k] = x at d1 d2 d3 d4 d5 d6
      have hpe : ∀ W, _ := fun W => pl_eq x x W
      simp only [decide_true] at hpe
      clear hc1 hc2
      go_wp2
      go_quiet (fail)
      go_wp2
      exact ⟨⟨k + 1, by omega, by go_num, hb.trans (below_draws _ _ _)⟩, by simp [intOf]; omega⟩
    · have j1 : ¬ (k : Int) < (l.length : Int) := by omega
      go_wp2
      go_ret
      exact ⟨rfl, hb⟩

/-- the law's map: where places that came swung -/
def toF (l : List Pc) (ms : List Mv) : Pc → Option Value := fun p => if p ∈ l then some (plv (sw ms p)) else none
theorem toF_snoc (l : List Pc) (ms : List Mv) (x : Pc) : toF (l ++ [x]) ms = updF (toF l ms) x (plv (sw ms x)) := by
  funext p
  by_cases e : p = x
  · subst e; rw [updF_same]; simp [toF]
  · rw [updF_other _ _ e]; simp [toF, e]
theorem sw_nil (p : Pc) : sw [] p = p := rfl
/-- is a place a move's -/
def nmd (ms : List Mv) (p : Pc) : Bool := ms.any fun m => decide (m.1 = p)
theorem nmd_snoc (ms : List Mv) (m : Mv) (p : Pc) : nmd (ms ++ [m]) p = (nmd ms p || decide (m.1 = p)) := by simp [nmd]
theorem nmd_no {ms : List Mv} {p : Pc} (h : nmd ms p = false) : sw ms p = p := by
  unfold sw
  cases hw : wayF ms p with
  | none => rfl
  | some q =>
    have := wayF_mem hw
    have h2 : nmd ms p = true := List.any_eq_true.2 ⟨_, this, by simp⟩
    rw [h] at h2; cases h2

set_option maxHeartbeats 6400000 in
set_option maxRecDepth 100000 in
theorem swings_law (a : Option Addr) (cap : Nat) (l : List Pc) (am : Option Addr) (cm : Nat) (ms : List Mv) (w : World) (hl : PcsAt w a cap l) (hm : MvsAt w am cm ms) :
    Calls Try.prog 5 #[.slice a l.length cap, .slice am ms.length cm] w fun e w' => e = .returned (.bool true) ∧ Below w.heap.size w w' := by
  have mixed : Try.prog.follows .mixedOrders = true := by kernel_rfl
  have hWk := works_any w
  have hll : l.length ≤ 9223372036854775807 := by have := hl.room; have := hl.max; omega
  have hml : ms.length ≤ 9223372036854775807 := by have := hm.room; have := hm.max; omega
  go_enter Try.func5, Try.ntmps5
  go_wp2_with fail
  refine hWk.mono ?_
  rintro e w2 ⟨rfl, hb2⟩
  clear hWk
  by_cases hlong : 300 < l.length ∨ 300 < ms.length
  · by_cases h1 : 300 < l.length
    · have j1 : (300 : Int) < (l.length : Int) := by omega
      go_wp2
      go_ret
      exact ⟨rfl, hb2⟩
    · have j1 : ¬ (300 : Int) < (l.length : Int) := by omega
      have j2 : (300 : Int) < (ms.length : Int) := by omega
      go_wp2
      go_ret
      exact ⟨rfl, hb2⟩
  · have j1 : ¬ (300 : Int) < (l.length : Int) := by omega
    have j2 : ¬ (300 : Int) < (ms.length : Int) := by omega
    have hS1 := Swing_any a cap l am cm ms w2 (hl.lies.below hb2) (by omega) (hm.lies.below hb2) (by omega) hl.each hm.each
    go_wp2_with fail
    refine hS1.mono ?_
    rintro e w3 ⟨f3, rfl, hr3, hb3⟩
    have hb03 := hb2.trans (hb3.mono hb2.size)
    have hS2 := Swing_any a cap l none 0 [] w3 (hl.lies.below hb03) (by omega) (Or.inl rfl) (by simp) hl.each (by simp)
    rw [show l.map (sw []) = l from (List.map_congr_left fun p _ => sw_nil p).trans (List.map_id l)] at hS2
    rw [List.length_map] at hr3
    obtain ⟨fa, fc, rfl⟩ := own_slice hr3
    clear hS1
    go_wp2_with fail
    refine hS2.mono ?_
    rintro e w4 ⟨f4, rfl, hr4, hb4⟩
    obtain ⟨ga, gc, rfl⟩ := own_slice hr4
    have hb04 := hb03.trans (hb4.mono hb03.size)
    have hSm := samePlaces_yes ga a gc cap l w4 (Row.lies (k := 3) (e := plT) (n := l.length) (cap := gc) (own_mono hr4 (Nat.zero_le _))) (hl.lies.below hb04) hll
    have hla : Lies w4 penc fa (l.map (sw ms)) := (Row.lies (k := 3) (e := plT) (n := l.length) (cap := fc) (l := l.map (sw ms)) (by show World.ownsRow _ _ _ _ _ (l.map (sw ms)).length _; rw [List.length_map]; exact own_mono hr3 (Nat.zero_le _))).below hb4
    have HB := hide (And.intro hb04 (And.intro hb3.size hb2.size))
    have HLA := hide hla
    clear hS2 hr3 hr4 hb3 hb4 hb2 hb03 hla hb04
    have hmk := @run_makeMap Try.prog
    go_wp2_with fail
    refine hSm.mono ?_
    rintro e w5 ⟨rfl, hb5⟩
    have h05 : Below w.heap.size w w5 := HB.out.1.trans (hb5.mono HB.out.1.size)
    have hla5 := HLA.out.below hb5
    have hMp := MapF.made plKs w5
    have hbx5 := below_alloc1 w5 (.map #[] 0)
    obtain ⟨bm, hbm⟩ : ∃ bm, bm = w5.heap.size := ⟨_, rfl⟩
    have HF6 : Hid (MapF plKs (w5.alloc (.map #[] 0)) bm 0 (fun _ => none) ∧ Below bm w5 (w5.alloc (.map #[] 0))) := by rw [hbm]; exact ⟨hMp, hbx5⟩
    have HBM := hide hbm
    clear hSm hbx5 hMp hb5 HLA HB
    go_wp2
    rw [← hbm]
    clear hbm
    generalize (decide ((300 : Int) < (l.length : Int)) || decide ((300 : Int) < (ms.length : Int))) = d0
    generalize decide ((300 : Int) < (l.length : Int)) = d1
    generalize decide ((300 : Int) < (ms.length : Int)) = d2
    go_loopw [60] (fun i wr => ∃ k : Nat, k ≤ l.length ∧ i = .int .i64 k ∧ MapF plKs wr bm k (toF (l.take k) ms) ∧ Below bm w5 wr) (fun i _ => l.length - (intOf i).toNat)
    case atStart => exact ⟨0, Nat.zero_le _, rfl, by rw [show toF (l.take 0) ms = fun _ => none from by funext p; simp [toF]]; exact HF6.out.1, HF6.out.2⟩
    case round =>
      clear HF6
      obtain ⟨k, hk, rfl, hM, hb⟩ := hrel
      generalize wr = WR at *
      have hb5 : Below w5.heap.size w5 WR := by rw [← HBM.out]; exact hb
      by_cases hkl : k < l.length
      · obtain ⟨b, off, rfl, hbl, hc⟩ := ((hl.lies.below h05).below hb5).at penc_len k hkl
        have i1 : (0 : Int) ≤ (k : Int) := by omega
        have i3 : (k : Int) < (l.length : Int) := by omega
        have c0 := hc 0 _ rfl
        have c1 := hc 1 _ rfl
        have c2 := hc 2 _ rfl
        rw [Nat.add_zero] at c0
        have hf := hl.each l[k] (List.getElem_mem hkl)
        have hnx : toF (l.take (k + 1)) ms = updF (toF (l.take k) ms) l[k] (plv (sw ms l[k])) := by rw [List.take_succ_eq_append_getElem hkl, toF_snoc]
        obtain ⟨ab, aoff, hab, halt, hac⟩ := (hla5.below hb5).at penc_len k (by rw [List.length_map]; exact hkl)
        rw [List.getElem_map] at hac
        subst hab
        generalize l[k] = x at c0 c1 c2 hf hnx hac
        obtain ⟨W1, hW1⟩ : ∃ W1, W1 = WR.alloc (.cells #[.int .i64 x.1, .int .i64 x.2.1, .int .i64 x.2.2] plT) := ⟨_, rfl⟩
        have hb1 : Below WR.heap.size WR W1 := by rw [hW1]; exact below_alloc1 _ _
        have hX1 : W1.heap[WR.heap.size]? = some (.cells #[.int .i64 x.1, .int .i64 x.2.1, .int .i64 x.2.2] plT (0, 0)) := by rw [hW1]; exact heap_alloc_new _ _
        have hz1 : W1.heap.size = WR.heap.size + 1 := by rw [hW1]; simp
        have HX1 := hide (And.intro hX1 hz1)
        have HMR := hide (And.intro hf (And.intro hM (And.intro hb (And.intro hb1 (And.intro hnx (And.intro hac halt))))))
        have HW1 := hide hW1
        clear hc hM hf hnx hac hX1 hz1 hW1
        go_wp2
        rw [← HW1.out]
        go_loopw [12, 67] (fun nv i wi => ∃ j : Nat, j ≤ ms.length ∧ i = .int .i64 j ∧ nv = .bool (nmd (ms.take j) x) ∧ Below W1.heap.size W1 wi) (fun _ i _ => ms.length - (intOf i).toNat)
        case atStart => exact ⟨0, Nat.zero_le _, rfl, rfl, Below.refl _ _⟩
        case round =>
          obtain ⟨j, hj, rfl, rfl, hbi⟩ := hrel
          by_cases hjl : j < ms.length
          · have hb5W : Below w5.heap.size w5 wr := (hb5.trans (hb1.mono hb5.size)).trans (hbi.mono (Nat.le_trans hb5.size hb1.size))
            obtain ⟨mb, moff, rfl, hmbl, hmc⟩ := ((hm.lies.below h05).below hb5W).at menc_len j hjl
            have j3 : (0 : Int) ≤ (j : Int) := by omega
            have j4 : (j : Int) < (ms.length : Int) := by omega
            have m0 := hmc 0 _ rfl
            have m1 := hmc 1 _ rfl
            have m2 := hmc 2 _ rfl
            have m3 := hmc 3 _ rfl
            have m4 := hmc 4 _ rfl
            have m5 := hmc 5 _ rfl
            rw [Nat.add_zero] at m0
            have hnn : nmd (ms.take (j + 1)) x = (nmd (ms.take j) x || decide (ms[j].1 = x)) := by rw [List.take_succ_eq_append_getElem hjl, nmd_snoc]
            generalize ms[j] = m at m0 m1 m2 m3 m4 m5 hnn
            have hXi := keepBlk hbi HX1.out.1
            have x0 : wr.cell? ⟨WR.heap.size, 0, none⟩ = some (.int .i64 x.1) := cell_of_block hXi 0
            have x1 : wr.cell? ⟨WR.heap.size, 1, none⟩ = some (.int .i64 x.2.1) := cell_of_block hXi 1
            have x2 : wr.cell? ⟨WR.heap.size, 2, none⟩ = some (.int .i64 x.2.2) := cell_of_block hXi 2
            have hltX : WR.heap.size < wr.heap.size := (Array.getElem?_eq_some_iff.1 hXi).1
            have hneX : ¬ WR.heap.size = wr.heap.size := by omega
            have hbm9 := hbi.trans ((below_alloc1 wr (.cells (mcells m) MvT)).mono hbi.size)
            have HBI := hide hbm9
            have hpe : ∀ W, _ := fun W => pl_eq m.1 x W
            clear hmc hXi hbi hb5W hbm9 c0 c1 c2
            cases hnd : nmd (ms.take j) x with
            | true =>
              rw [hnd, Bool.true_or] at hnn
              have HNN := hide hnn
              clear hnn hpe hnd
              go_wp2
              exact ⟨⟨j + 1, by omega, by go_num, by rw [HNN.out], HBI.out⟩, by simp [intOf]; omega⟩
            | false =>
              rw [hnd, Bool.false_or] at hnn
              have HNN := hide hnn
              clear hnn hnd
              generalize decide (m.1 = x) = d at hpe HNN
              go_wp2
              exact ⟨⟨j + 1, by omega, by go_num, by rw [HNN.out], HBI.out⟩, by simp [intOf]; omega⟩
          · obtain rfl : j = ms.length := by omega
            have j4 : ¬ (ms.length : Int) < (ms.length : Int) := by omega
            rw [List.take_length]
            have hbW : Below WR.heap.size WR wr := hb1.trans (hbi.mono hb1.size)
            have hXi := keepBlk hbi HX1.out.1
            have HPB : Hid (WR.heap.size < wr.heap.size) := (Array.getElem?_eq_some_iff.1 hXi).1
            have x0 : wr.cell? ⟨WR.heap.size, 0, none⟩ = some (.int .i64 x.1) := cell_of_block hXi 0
            have x1 : wr.cell? ⟨WR.heap.size, 1, none⟩ = some (.int .i64 x.2.1) := cell_of_block hXi 1
            have x2 : wr.cell? ⟨WR.heap.size, 2, none⟩ = some (.int .i64 x.2.2) := cell_of_block hXi 2
            have hac := HMR.out.2.2.2.2.2.1
            have halt := HMR.out.2.2.2.2.2.2
            have a0 : wr.cell? ⟨ab, aoff + k * 3, none⟩ = some (.int .i64 (sw ms x).1) := (hbW.cell (p := ⟨ab, aoff + k * 3, none⟩) halt).trans (by have := hac 0 _ rfl; rwa [Nat.add_zero] at this)
            have a1 : wr.cell? ⟨ab, aoff + k * 3 + 1, none⟩ = some (.int .i64 (sw ms x).2.1) := (hbW.cell (p := ⟨ab, aoff + k * 3 + 1, none⟩) halt).trans (hac 1 _ rfl)
            have a2 : wr.cell? ⟨ab, aoff + k * 3 + 2, none⟩ = some (.int .i64 (sw ms x).2.2) := (hbW.cell (p := ⟨ab, aoff + k * 3 + 2, none⟩) halt).trans (hac 2 _ rfl)
            have HXI := hide hXi
            clear hXi hbi hac halt c0 c1 c2
            cases hnd : nmd ms x with
            | true =>
              obtain ⟨y, hy⟩ : ∃ y, sw ms x = y := ⟨_, rfl⟩
              rw [hy] at a0 a1 a2
              clear hnd
              have HYY := hide hy
              clear hy
              go_wp2
              go_quiet (fail)
              have hy := HYY.out
              clear HYY
              have hbI : Below WR.heap.size WR (wr.drewN nq) := hbW.trans ((below_draws _ wr nq).mono hbW.size)
              have HXW := hide (keepBlk (below_draws _ wr nq) HXI.out)
              have HPI : Hid (WR.heap.size < (wr.drewN nq).heap.size) := HPB.out
              have x0 : (wr.drewN nq).cell? ⟨WR.heap.size, 0, none⟩ = some (.int .i64 x.1) := x0
              have x1 : (wr.drewN nq).cell? ⟨WR.heap.size, 1, none⟩ = some (.int .i64 x.2.1) := x1
              have x2 : (wr.drewN nq).cell? ⟨WR.heap.size, 2, none⟩ = some (.int .i64 x.2.2) := x2
              have a0 : (wr.drewN nq).cell? ⟨ab, aoff + k * 3, none⟩ = _ := a0
              have a1 : (wr.drewN nq).cell? ⟨ab, aoff + k * 3 + 1, none⟩ = _ := a1
              have a2 : (wr.drewN nq).cell? ⟨ab, aoff + k * 3 + 2, none⟩ = _ := a2
              clear hbW HXI HPB
              generalize wr.drewN nq = WI at *
              have hMW := HMR.out.2.1.below hbI
              have hlk := hMW.look_ok (t := WyT) (e := plT) Try.underlying46 (zero_pl _) HMR.out.1
              have hlk' : (Instr.lookup WyT (.map (some bm)) (plv x) true).run Try.prog WI = .ok (.tuple #[(toF (l.take k) ms x).getD (.agg #[.int .i64 0, .int .i64 0, .int .i64 0]), .bool (toF (l.take k) ms x).isSome]) WI := hlk
              have hae : ab < WI.heap.size := Nat.lt_of_lt_of_le HMR.out.2.2.2.2.2.2 hbI.size
              have hane : ¬ ab = WI.heap.size := by omega
              have hxne : ¬ WR.heap.size = WI.heap.size := by have := HPI.out; omega
              by_cases hin : x ∈ l.take k
              · have e1 : toF (l.take k) ms x = some (plv y) := by simp [toF, hin, hy]
                rw [e1] at hlk'
                have hpe2 : ∀ W, _ := fun W => pl_eq y y W
                simp only [decide_true] at hpe2
                have HY := hide hy
                have HI := hide (And.intro hMW hbI)
                clear hlk hy e1 hMW hbI hin
                go_wp2
                go_quiet (fail)
                go_wp2_with fail
                have hbE : Below WI.heap.size WI ((WI.alloc (.cells #[.int .i64 y.1, .int .i64 y.2.1, .int .i64 y.2.2] plT)).drewN nq) := (below_alloc1 WI _).trans (below_draws _ _ nq)
                have x0 := (hbE.cell (p := ⟨WR.heap.size, 0, none⟩) HPI.out).trans x0
                have x1 := (hbE.cell (p := ⟨WR.heap.size, 1, none⟩) HPI.out).trans x1
                have x2 := (hbE.cell (p := ⟨WR.heap.size, 2, none⟩) HPI.out).trans x2
                have a0 := (hbE.cell (p := ⟨ab, aoff + k * 3, none⟩) hae).trans a0
                have a1 := (hbE.cell (p := ⟨ab, aoff + k * 3 + 1, none⟩) hae).trans a1
                have a2 := (hbE.cell (p := ⟨ab, aoff + k * 3 + 2, none⟩) hae).trans a2
                have HBE : Hid (MapF plKs ((WI.alloc (.cells #[.int .i64 y.1, .int .i64 y.2.1, .int .i64 y.2.2] plT)).drewN nq) bm k (toF (l.take k) ms) ∧ Below WR.heap.size WR ((WI.alloc (.cells #[.int .i64 y.1, .int .i64 y.2.1, .int .i64 y.2.2] plT)).drewN nq)) := ⟨HI.out.1.below hbE, HI.out.2.trans (hbE.mono HI.out.2.size)⟩
                clear hbE HI hlk' hane hxne
                generalize (WI.alloc (.cells #[.int .i64 y.1, .int .i64 y.2.1, .int .i64 y.2.2] plT)).drewN nq = WE at *
                obtain ⟨w9, hrun, hM9, hg9⟩ := (show MapF plKs WE.drew bm k (toF (l.take k) ms) from HBE.out.1.below ((Below.refl _ _).drew)).put (t := WyT) (e := plT) Try.underlying46 (by omega) HMR.out.1 (plv y)
                have hrun' : (Instr.mapUpdate WyT (.map (some bm)) (plv x) (plv y)).run Try.prog WE.drew = .ok () w9 := hrun
                have hM9' : MapF plKs w9 bm (k + 1) (toF (l.take (k + 1)) ms) := by rw [HMR.out.2.2.2.2.1, HY.out]; exact hM9
                have hb9 : Below bm w5 w9 := (((HMR.out.2.2.1.trans (HBE.out.2.mono (by have := HMR.out.2.1.lt; omega))).drew)).grown hg9 (by have := HMR.out.2.1.lt; have := HBE.out.2.size; show bm ≤ WE.heap.size; omega) fun g e => by cases e; exact Nat.le_refl _
                have HF := hide (And.intro hM9' hb9)
                clear hrun hM9 hM9' hb9 hg9
                go_region_law (fail)
                go_wp2
                all_goals exact ⟨⟨k + 1, by omega, by go_num, HF.out.1, HF.out.2⟩, by simp [intOf]; omega⟩
              · have e1 : toF (l.take k) ms x = none := by simp [toF, hin]
                rw [e1] at hlk'
                have HY := hide hy
                have HI := hide (And.intro hMW hbI)
                clear hlk hy e1 hMW hbI hin
                go_wp2
                go_quiet (fail)
                go_wp2_with fail
                have hbE : Below WI.heap.size WI ((WI.alloc (.cells #[.int .i64 0, .int .i64 0, .int .i64 0] plT)).drewN nq) := (below_alloc1 WI _).trans (below_draws _ _ nq)
                have x0 := (hbE.cell (p := ⟨WR.heap.size, 0, none⟩) HPI.out).trans x0
                have x1 := (hbE.cell (p := ⟨WR.heap.size, 1, none⟩) HPI.out).trans x1
                have x2 := (hbE.cell (p := ⟨WR.heap.size, 2, none⟩) HPI.out).trans x2
                have a0 := (hbE.cell (p := ⟨ab, aoff + k * 3, none⟩) hae).trans a0
                have a1 := (hbE.cell (p := ⟨ab, aoff + k * 3 + 1, none⟩) hae).trans a1
                have a2 := (hbE.cell (p := ⟨ab, aoff + k * 3 + 2, none⟩) hae).trans a2
                have HBE : Hid (MapF plKs ((WI.alloc (.cells #[.int .i64 0, .int .i64 0, .int .i64 0] plT)).drewN nq) bm k (toF (l.take k) ms) ∧ Below WR.heap.size WR ((WI.alloc (.cells #[.int .i64 0, .int .i64 0, .int .i64 0] plT)).drewN nq)) := ⟨HI.out.1.below hbE, HI.out.2.trans (hbE.mono HI.out.2.size)⟩
                clear hbE HI hlk' hane hxne
                generalize (WI.alloc (.cells #[.int .i64 0, .int .i64 0, .int .i64 0] plT)).drewN nq = WE at *
                obtain ⟨w9, hrun, hM9, hg9⟩ := (show MapF plKs WE.drew bm k (toF (l.take k) ms) from HBE.out.1.below ((Below.refl _ _).drew)).put (t := WyT) (e := plT) Try.underlying46 (by omega) HMR.out.1 (plv y)
                have hrun' : (Instr.mapUpdate WyT (.map (some bm)) (plv x) (plv y)).run Try.prog WE.drew = .ok () w9 := hrun
                have hM9' : MapF plKs w9 bm (k + 1) (toF (l.take (k + 1)) ms) := by rw [HMR.out.2.2.2.2.1, HY.out]; exact hM9
                have hb9 : Below bm w5 w9 := (((HMR.out.2.2.1.trans (HBE.out.2.mono (by have := HMR.out.2.1.lt; omega))).drew)).grown hg9 (by have := HMR.out.2.1.lt; have := HBE.out.2.size; show bm ≤ WE.heap.size; omega) fun g e => by cases e; exact Nat.le_refl _
                have HF := hide (And.intro hM9' hb9)
                clear hrun hM9 hM9' hb9 hg9
                go_region_law (fail)
                go_wp2
                all_goals exact ⟨⟨k + 1, by omega, by go_num, HF.out.1, HF.out.2⟩, by simp [intOf]; omega⟩
            | false =>
              have e9 := nmd_no hnd
              have hpe : ∀ W, _ := fun W => pl_eq (sw ms x) x W
              simp only [e9, decide_true] at hpe
              rw [e9] at a0 a1 a2
              have HYY := hide e9
              clear e9 hnd
              go_wp2
              go_quiet (fail)
              have hy := HYY.out
              clear HYY hpe
              have hbI : Below WR.heap.size WR (wr.drewN nq) := hbW.trans ((below_draws _ wr nq).mono hbW.size)
              have HXW := hide (keepBlk (below_draws _ wr nq) HXI.out)
              have HPI : Hid (WR.heap.size < (wr.drewN nq).heap.size) := HPB.out
              have x0 : (wr.drewN nq).cell? ⟨WR.heap.size, 0, none⟩ = some (.int .i64 x.1) := x0
              have x1 : (wr.drewN nq).cell? ⟨WR.heap.size, 1, none⟩ = some (.int .i64 x.2.1) := x1
              have x2 : (wr.drewN nq).cell? ⟨WR.heap.size, 2, none⟩ = some (.int .i64 x.2.2) := x2
              have a0 : (wr.drewN nq).cell? ⟨ab, aoff + k * 3, none⟩ = _ := a0
              have a1 : (wr.drewN nq).cell? ⟨ab, aoff + k * 3 + 1, none⟩ = _ := a1
              have a2 : (wr.drewN nq).cell? ⟨ab, aoff + k * 3 + 2, none⟩ = _ := a2
              clear hbW HXI HPB
              generalize wr.drewN nq = WI at *
              have hMW := HMR.out.2.1.below hbI
              have hlk := hMW.look_ok (t := WyT) (e := plT) Try.underlying46 (zero_pl _) HMR.out.1
              have hlk' : (Instr.lookup WyT (.map (some bm)) (plv x) true).run Try.prog WI = .ok (.tuple #[(toF (l.take k) ms x).getD (.agg #[.int .i64 0, .int .i64 0, .int .i64 0]), .bool (toF (l.take k) ms x).isSome]) WI := hlk
              have hae : ab < WI.heap.size := Nat.lt_of_lt_of_le HMR.out.2.2.2.2.2.2 hbI.size
              have hane : ¬ ab = WI.heap.size := by omega
              have hxne : ¬ WR.heap.size = WI.heap.size := by have := HPI.out; omega
              by_cases hin : x ∈ l.take k
              · have e1 : toF (l.take k) ms x = some (plv x) := by simp [toF, hin, hy]
                rw [e1] at hlk'
                have hpe2 : ∀ W, _ := fun W => pl_eq x x W
                simp only [decide_true] at hpe2
                have HY := hide hy
                have HI := hide (And.intro hMW hbI)
                clear hlk hy e1 hMW hbI hin
                go_wp2
                go_quiet (fail)
                go_wp2_with fail
                have hbE : Below WI.heap.size WI ((WI.alloc (.cells #[.int .i64 x.1, .int .i64 x.2.1, .int .i64 x.2.2] plT)).drewN nq) := (below_alloc1 WI _).trans (below_draws _ _ nq)
                have x0 := (hbE.cell (p := ⟨WR.heap.size, 0, none⟩) HPI.out).trans x0
                have x1 := (hbE.cell (p := ⟨WR.heap.size, 1, none⟩) HPI.out).trans x1
                have x2 := (hbE.cell (p := ⟨WR.heap.size, 2, none⟩) HPI.out).trans x2
                have a0 := (hbE.cell (p := ⟨ab, aoff + k * 3, none⟩) hae).trans a0
                have a1 := (hbE.cell (p := ⟨ab, aoff + k * 3 + 1, none⟩) hae).trans a1
                have a2 := (hbE.cell (p := ⟨ab, aoff + k * 3 + 2, none⟩) hae).trans a2
                have HBE : Hid (MapF plKs ((WI.alloc (.cells #[.int .i64 x.1, .int .i64 x.2.1, .int .i64 x.2.2] plT)).drewN nq) bm k (toF (l.take k) ms) ∧ Below WR.heap.size WR ((WI.alloc (.cells #[.int .i64 x.1, .int .i64 x.2.1, .int .i64 x.2.2] plT)).drewN nq)) := ⟨HI.out.1.below hbE, HI.out.2.trans (hbE.mono HI.out.2.size)⟩
                clear hbE HI hlk' hane hxne
                generalize (WI.alloc (.cells #[.int .i64 x.1, .int .i64 x.2.1, .int .i64 x.2.2] plT)).drewN nq = WE at *
                obtain ⟨w9, hrun, hM9, hg9⟩ := (show MapF plKs WE.drew bm k (toF (l.take k) ms) from HBE.out.1.below ((Below.refl _ _).drew)).put (t := WyT) (e := plT) Try.underlying46 (by omega) HMR.out.1 (plv x)
                have hrun' : (Instr.mapUpdate WyT (.map (some bm)) (plv x) (plv x)).run Try.prog WE.drew = .ok () w9 := hrun
                have hM9' : MapF plKs w9 bm (k + 1) (toF (l.take (k + 1)) ms) := by rw [HMR.out.2.2.2.2.1, HY.out]; exact hM9
                have hb9 : Below bm w5 w9 := (((HMR.out.2.2.1.trans (HBE.out.2.mono (by have := HMR.out.2.1.lt; omega))).drew)).grown hg9 (by have := HMR.out.2.1.lt; have := HBE.out.2.size; show bm ≤ WE.heap.size; omega) fun g e => by cases e; exact Nat.le_refl _
                have HF := hide (And.intro hM9' hb9)
                clear hrun hM9 hM9' hb9 hg9
                go_region_law (fail)
                go_wp2
                all_goals exact ⟨⟨k + 1, by omega, by go_num, HF.out.1, HF.out.2⟩, by simp [intOf]; omega⟩
              · have e1 : toF (l.take k) ms x = none := by simp [toF, hin]
                rw [e1] at hlk'
                have HY := hide hy
                have HI := hide (And.intro hMW hbI)
                clear hlk hy e1 hMW hbI hin
                go_wp2
                go_quiet (fail)
                go_wp2_with fail
                have hbE : Below WI.heap.size WI ((WI.alloc (.cells #[.int .i64 0, .int .i64 0, .int .i64 0] plT)).drewN nq) := (below_alloc1 WI _).trans (below_draws _ _ nq)
                have x0 := (hbE.cell (p := ⟨WR.heap.size, 0, none⟩) HPI.out).trans x0
                have x1 := (hbE.cell (p := ⟨WR.heap.size, 1, none⟩) HPI.out).trans x1
                have x2 := (hbE.cell (p := ⟨WR.heap.size, 2, none⟩) HPI.out).trans x2
                have a0 := (hbE.cell (p := ⟨ab, aoff + k * 3, none⟩) hae).trans a0
                have a1 := (hbE.cell (p := ⟨ab, aoff + k * 3 + 1, none⟩) hae).trans a1
                have a2 := (hbE.cell (p := ⟨ab, aoff + k * 3 + 2, none⟩) hae).trans a2
                have HBE : Hid (MapF plKs ((WI.alloc (.cells #[.int .i64 0, .int .i64 0, .int .i64 0] plT)).drewN nq) bm k (toF (l.take k) ms) ∧ Below WR.heap.size WR ((WI.alloc (.cells #[.int .i64 0, .int .i64 0, .int .i64 0] plT)).drewN nq)) := ⟨HI.out.1.below hbE, HI.out.2.trans (hbE.mono HI.out.2.size)⟩
                clear hbE HI hlk' hane hxne
                generalize (WI.alloc (.cells #[.int .i64 0, .int .i64 0, .int .i64 0] plT)).drewN nq = WE at *
                obtain ⟨w9, hrun, hM9, hg9⟩ := (show MapF plKs WE.drew bm k (toF (l.take k) ms) from HBE.out.1.below ((Below.refl _ _).drew)).put (t := WyT) (e := plT) Try.underlying46 (by omega) HMR.out.1 (plv x)
                have hrun' : (Instr.mapUpdate WyT (.map (some bm)) (plv x) (plv x)).run Try.prog WE.drew = .ok () w9 := hrun
                have hM9' : MapF plKs w9 bm (k + 1) (toF (l.take (k + 1)) ms) := by rw [HMR.out.2.2.2.2.1, HY.out]; exact hM9
                have hb9 : Below bm w5 w9 := (((HMR.out.2.2.1.trans (HBE.out.2.mono (by have := HMR.out.2.1.lt; omega))).drew)).grown hg9 (by have := HMR.out.2.1.lt; have := HBE.out.2.size; show bm ≤ WE.heap.size; omega) fun g e => by cases e; exact Nat.le_refl _
                have HF := hide (And.intro hM9' hb9)
                clear hrun hM9 hM9' hb9 hg9
                go_region_law (fail)
                go_wp2
                all_goals exact ⟨⟨k + 1, by omega, by go_num, HF.out.1, HF.out.2⟩, by simp [intOf]; omega⟩
      · obtain rfl : k = l.length := by omega
        have i3 : ¬ (l.length : Int) < (l.length : Int) := by omega
        go_wp2
        go_ret
        exact ⟨rfl, h05.trans (hb5.mono h05.size)⟩

end Go.Proofs.Ytcaboefpdejlmaa.Sw
