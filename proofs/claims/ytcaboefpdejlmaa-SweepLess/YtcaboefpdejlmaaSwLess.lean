/- SweepLess: for all arguments that can be read the law returns true, and all read as they did. -/
import Derived.Test.YtcaboefpdejlmaaSwWorks
import Derived.Test.YtcaboefpdejlmaaSwArgs
import Derived.Test.YtcaboefpdejlmaaGAmong
namespace Go.Proofs.Ytcaboefpdejlmaa.Sw
open Go.RowKit Go.Joins Go.Sort Gk

theorem low_iff {L : List Pc} {pc : Int} {s : Sz} : low L pc s = true ↔ of L s.1 * 100 < pc * s.2 := by unfold low; exact decide_eq_true_iff
theorem low_nil {pc : Int} {s : Sz} : low [] pc s = true ↔ 0 < pc * s.2 := by rw [low_iff, of_nil, Int.zero_mul]
theorem low_more {L : List Pc} {pc pc' : Int} {s : Sz} (h : pc ≤ pc') (hs : 0 ≤ s.2) (hl : low L pc s = true) : low L pc' s = true := by
  rw [low_iff] at hl ⊢
  have := Int.mul_le_mul_of_nonneg_right h hs
  omega
theorem low_none {L : List Pc} {pc : Int} {s : Sz} (hl : low L pc s = true) : low [] pc s = true := by
  rw [low_iff] at hl
  rw [low_nil]
  have := (of_bound L s.1).1
  omega
theorem plan_mem {L : List Pc} {pc n : Int} {szs : List Sz} : n ∈ planL L pc szs ↔ ∃ s ∈ szs.dropLast, low L pc s = true ∧ s.1 = n := by
  simp only [planL, List.mem_map, List.mem_filter]
  constructor
  · rintro ⟨s, ⟨h1, h2⟩, h3⟩; exact ⟨s, h1, h2, h3⟩
  · rintro ⟨s, h1, h2, h3⟩; exact ⟨s, ⟨h1, h2⟩, h3⟩
theorem plan_more {L : List Pc} {pc pc' n : Int} {szs : List Sz} (h : pc ≤ pc') (hs : ∀ s ∈ szs, 0 ≤ s.2) (hn : n ∈ planL L pc szs) : n ∈ planL L pc' szs := by
  obtain ⟨s, h1, h2, h3⟩ := plan_mem.1 hn
  exact plan_mem.2 ⟨s, h1, low_more h (hs s (List.dropLast_subset _ h1)) h2, h3⟩
theorem plan_none {L : List Pc} {pc n : Int} {szs : List Sz} (hn : n ∈ planL L pc szs) : n ∈ planL [] pc szs := by
  obtain ⟨s, h1, h2, h3⟩ := plan_mem.1 hn
  exact plan_mem.2 ⟨s, h1, low_none h2, h3⟩
theorem plan_at {pc : Int} {szs : List Sz} (hp : 1 ≤ pc) (hr : szs.Pairwise fun a b => a.1 < b.1) (i : Nat) (hi : i < szs.length) : szs[i].1 ∈ planL [] pc szs ↔ i + 1 < szs.length ∧ 0 < szs[i].2 := by
  have hlow : ∀ s : Sz, low [] pc s = true ↔ 0 < s.2 := fun s => by
    rw [low_nil]
    constructor
    · intro h
      by_cases h0 : 0 < s.2
      · exact h0
      · have := Int.mul_le_mul_of_nonneg_left (show s.2 ≤ 0 by omega) (show 0 ≤ pc by omega)
        rw [Int.mul_zero] at this
        omega
    · exact fun h => Int.mul_pos (by omega) h
  rw [plan_mem]
  constructor
  · rintro ⟨s, h1, h2, h3⟩
    obtain ⟨j, hj, rfl⟩ := List.getElem_of_mem h1
    have hj' : j + 1 < szs.length := by rw [List.length_dropLast] at hj; omega
    rw [List.getElem_dropLast] at h2 h3
    have hji : j = i := by
      rcases Nat.lt_trichotomy j i with h | h | h
      · have := List.pairwise_iff_getElem.1 hr j i (by omega) hi h; omega
      · exact h
      · have := List.pairwise_iff_getElem.1 hr i j hi (by omega) h; omega
    subst hji
    exact ⟨hj', (hlow _).1 h2⟩
  · rintro ⟨h1, h2⟩
    refine ⟨szs[i], ?_, (hlow _).2 h2, rfl⟩
    have : i < szs.dropLast.length := by rw [List.length_dropLast]; omega
    rw [← List.getElem_dropLast (h := this)]
    exact List.getElem_mem this
theorem onc_nil {L : List Pc} (h : Onc [] L) : L = [] := List.eq_nil_iff_forall_not_mem.2 fun p hp => by have := (h.mem p).1 hp; simp at this

set_option maxHeartbeats 1600000 in
set_option maxRecDepth 100000 in
theorem in_any (a : Option Addr) (cap : Nat) (l : List Int) (n : Int) (w : World) (hl : Lies w nenc a l) (hn : l.length ≤ 9223372036854775807) :
    Calls Try.prog 18 #[.slice a l.length cap, .int .i64 n] w fun e w' => e = .returned (.bool (decide (n ∈ l))) ∧ w' = w := by
  obtain ⟨r, hr⟩ : ∃ r, r = decide (n ∈ l) := ⟨_, rfl⟩
  rw [← hr]
  have HR : Hid (r = decide (n ∈ l.drop 0)) := by rw [List.drop_zero]; exact hr
  clear hr
  go_enter Try.func18, Try.ntmps18
  go_wp2
  go_loop [9] (fun i => ∃ k : Nat, k ≤ l.length ∧ i = .int .i64 k ∧ Hid (r = decide (n ∈ l.drop k))) (fun i => l.length - (intOf i).toNat)
  case atStart => exact ⟨0, Nat.zero_le _, rfl, HR⟩
  case round =>
    obtain ⟨k, hk, rfl, hre⟩ := hrel
    by_cases hlt : k < l.length
    · obtain ⟨b, off, rfl, hbl, hc⟩ := hl.at nenc_len k hlt
      have i1 : (0 : Int) ≤ (k : Int) := by omega
      have i2 : (k : Int) < (l.length : Int) := by omega
      have c0 := hc 0 _ rfl
      rw [Nat.mul_one, Nat.add_zero] at c0
      have hre := hre.out
      rw [List.drop_eq_getElem_cons hlt] at hre
      generalize l[k] = x at c0 hre
      clear hc
      by_cases h : x = n
      · subst h
        simp at hre
        subst hre
        go_wp2
        go_ret
        exact ⟨rfl, rfl⟩
      · have HRE : Hid (r = decide (n ∈ l.drop (k + 1))) := by show _ = _; rw [hre]; simp [Ne.symm h]
        have h1 : (x == n) = false := by simp [h]
        clear hre
        go_wp2
        exact ⟨⟨k + 1, by omega, by go_num, HRE⟩, by simp [intOf]; omega⟩
    · obtain rfl : k = l.length := by omega
      have i2 : ¬ (l.length : Int) < (l.length : Int) := by omega
      have hre := hre.out
      simp at hre
      subst hre
      go_wp2
      go_ret
      exact ⟨rfl, rfl⟩

theorem PlanR.good {w0 w : World} {szs : List Sz} {l : List Pc} {pc : Int} {v : Value} (h : PlanR w0 w szs l pc v) (h1 : szOk 0 szs = true) (h2 : l.length ≤ 4096) (h3 : 1 ≤ pc ∧ pc ≤ 100) : ∃ L f, Onc l L ∧ v = .tuple #[f, .int .i64 0] ∧ w.ownsRow w0.heap.size NT 1 f (planL L pc szs).length (rc nenc (planL L pc szs)) := by
  rcases h.out with ⟨h, _⟩ | ⟨_, h, _⟩ | ⟨_, _, h, _⟩ | ⟨_, _, _, h⟩
  · rw [h1] at h; cases h
  · omega
  · exact absurd h3 h
  · exact h
theorem plan_len (L : List Pc) (pc : Int) (l : List Sz) : (planL L pc l).length ≤ l.length := by rw [← planK_end]; exact planK_len _ _ _ _
theorem min_first {P : Program} {w : World} (ts : Array TypeId) (t : TypeId) (k k' : IntKind) (x y : Int) (h : x ≤ y) : (Builtin.min_ ts t #[.int k x, .int k' y]).run P w = .ok (.int k x) w := by
  rw [run_min_int2, if_neg (by omega)]
theorem min_second {P : Program} {w : World} (ts : Array TypeId) (t : TypeId) (k k' : IntKind) (x y : Int) (h : y < x) : (Builtin.min_ ts t #[.int k x, .int k' y]).run P w = .ok (.int k y) w := by
  rw [run_min_int2, if_pos h]
attribute [local go_sem ↓] min_first min_second
/-- the law's box is there, and nothing that was there has turned -/
abbrev LsS (b : Nat) (v0 v1 v2 : Value) (w W : World) : Prop := W.cell? ⟨b, 0, none⟩ = some v0 ∧ W.cell? ⟨b, 1, none⟩ = some v1 ∧ W.cell? ⟨b, 2, none⟩ = some v2 ∧ Hid (b < W.heap.size ∧ Below w.heap.size w W)
section
variable {b : Nat} {v0 v1 v2 : Value} {w W W' : World}
theorem LsS.drew (h : LsS b v0 v1 v2 w W) : LsS b v0 v1 v2 w W.drew := ⟨h.1, h.2.1, h.2.2.1, h.2.2.2.out.1, h.2.2.2.out.2.drew⟩
theorem LsS.call (hb : Below W.heap.size W W') (h : LsS b v0 v1 v2 w W) : LsS b v0 v1 v2 w W' :=
  ⟨(hb.cell (p := ⟨b, 0, none⟩) h.2.2.2.out.1).trans h.1, (hb.cell (p := ⟨b, 1, none⟩) h.2.2.2.out.1).trans h.2.1, (hb.cell (p := ⟨b, 2, none⟩) h.2.2.2.out.1).trans h.2.2.1, Nat.lt_of_lt_of_le h.2.2.2.out.1 hb.size, h.2.2.2.out.2.trans (hb.mono h.2.2.2.out.2.size)⟩
theorem LsS.bel (h : LsS b v0 v1 v2 w W) : Below w.heap.size w W := h.2.2.2.out.2
end
abbrev PlnT : TypeId := 25

set_option maxHeartbeats 6400000 in
set_option maxRecDepth 100000 in
theorem less_law (x : PlnA) (mo : Int) (w : World) (hx : PlnAt w x) (hmo : (Lit.int .i64 mo).wf = true) :
    Calls Try.prog 4 #[x.v, .int .i64 mo] w fun e w' => e = .returned (.bool true) ∧ Below w.heap.size w w' := by
  have mixed : Try.prog.follows .mixedOrders = true := by kernel_rfl
  obtain ⟨m0, m1⟩ : -9223372036854775808 ≤ mo ∧ mo ≤ 9223372036854775807 := bounds_i64 hmo
  have hAm := fun W => among_any mo 50 W (by omega) (by omega) m0 m1
  obtain ⟨M, hM⟩ : ∃ M : Int, M = mo % 50 := ⟨_, rfl⟩
  have hMb : 0 ≤ M ∧ M < 50 := by omega
  simp only [← hM] at hAm
  clear hM hmo m0 m1
  obtain ⟨sa, sc, szs, la, lc, lv, pc⟩ := x
  obtain ⟨hS, hV, hpc⟩ := hx
  simp only at hS hV hpc
  obtain ⟨w1, hw1⟩ : ∃ w1, w1 = w.alloc (.cells #[.slice sa szs.length sc, .slice la lv.length lc, .int .i64 pc] PlnT) := ⟨_, rfl⟩
  have hb01 : Below w.heap.size w w1 := by rw [hw1]; exact below_alloc1 _ _
  have hX1 : w1.heap[w.heap.size]? = some (.cells #[.slice sa szs.length sc, .slice la lv.length lc, .int .i64 pc] PlnT (0, 0)) := by rw [hw1]; exact heap_alloc_new _ _
  have hWk := works_any w1
  have hsl : szs.length ≤ 9223372036854775807 := by have := hS.room; have := hS.max; omega
  have hvl : lv.length ≤ 9223372036854775807 := by have := hV.room; have := hV.max; omega
  go_enter Try.func4, Try.ntmps4
  go_wp2_with fail
  rw [← hw1]
  refine hWk.mono ?_
  rintro e w2 ⟨rfl, hb2⟩
  have hX2 := keepBlk hb2 hX1
  have hb02 := hb01.trans (hb2.mono hb01.size)
  have x0 : w2.cell? ⟨w.heap.size, 0, none⟩ = some (.slice sa szs.length sc) := cell_of_block hX2 0
  have x1 : w2.cell? ⟨w.heap.size, 1, none⟩ = some (.slice la lv.length lc) := cell_of_block hX2 1
  have x2 : w2.cell? ⟨w.heap.size, 2, none⟩ = some (.int .i64 pc) := cell_of_block hX2 2
  have HX2 := hide hX2
  clear hWk hw1 hb2 hX1 hb01 hX2
  by_cases hlong : 300 < lv.length ∨ 300 < szs.length
  · by_cases h1 : 300 < lv.length
    · have j1 : (300 : Int) < (lv.length : Int) := by omega
      go_wp2
      go_ret
      exact ⟨rfl, hb02⟩
    · have j1 : ¬ (300 : Int) < (lv.length : Int) := by omega
      have j2 : (300 : Int) < (szs.length : Int) := by omega
      go_wp2
      go_ret
      exact ⟨rfl, hb02⟩
  · have j1 : ¬ (300 : Int) < (lv.length : Int) := by omega
    have j2 : ¬ (300 : Int) < (szs.length : Int) := by omega
    have hP := Plan_any sa sc szs la lc lv pc w2 (hS.lies.below hb02) (by omega) (hV.lies.below hb02) (fun s hs => (hS.each s hs).1) (fun p hp => (hV.each p hp).1)
    go_wp2_with fail
    refine hP.mono ?_
    rintro e w3 ⟨v3, rfl, hp3, hb3⟩
    clear hP x0 x1 x2
    have hb03 := hb02.trans (hb3.mono hb02.size)
    rcases hp3.out with ⟨-, rfl⟩ | ⟨-, -, rfl⟩ | ⟨-, -, -, rfl⟩ | ⟨hok, -, hpp, L, f, hO, rfl, hf⟩
    · go_wp2
      go_ret
      exact ⟨rfl, hb03⟩
    · go_wp2
      go_ret
      exact ⟨rfl, hb03⟩
    · go_wp2
      go_ret
      exact ⟨rfl, hb03⟩
    · have hX3 := keepBlk hb3 HX2.out
      have x0 : w3.cell? ⟨w.heap.size, 0, none⟩ = some (.slice sa szs.length sc) := cell_of_block hX3 0
      have x1 : w3.cell? ⟨w.heap.size, 1, none⟩ = some (.slice la lv.length lc) := cell_of_block hX3 1
      have x2 : w3.cell? ⟨w.heap.size, 2, none⟩ = some (.int .i64 pc) := cell_of_block hX3 2
      obtain ⟨fa, fc, rfl⟩ := own_slice hf
      have HX3 := hide hX3
      have HF3 := hide (And.intro hf (And.intro hO (And.intro hb03 hp3)))
      obtain ⟨q, hq⟩ : ∃ q, pc + M = q := ⟨_, rfl⟩
      have hqw : IntKind.i64.wrap q = q := wrap_small (by omega) (by omega)
      have hlt3 : w.heap.size < w3.heap.size := (Array.getElem?_eq_some_iff.1 hX3).1
      have hLS : LsS w.heap.size (.slice sa szs.length sc) (.slice la lv.length lc) (.int .i64 pc) w3 w3 := ⟨x0, x1, x2, hlt3, Below.refl _ _⟩
      have hP2 : ∀ W z, Below w3.heap.size w3 W → (1 ≤ z ∧ z ≤ 100) → Calls Try.prog 9 #[.slice sa szs.length sc, .slice la lv.length lc, .int .i64 z] W fun e w' => ∃ f, e = .returned (.tuple #[f, .int .i64 0]) ∧ w'.ownsRow W.heap.size NT 1 f (planL L z szs).length (rc nenc (planL L z szs)) ∧ Below W.heap.size W w' := fun W z hb hz => by
        have hbW := hb03.trans (hb.mono hb03.size)
        refine (Plan_any sa sc szs la lc lv z W (hS.lies.below hbW) (by omega) (hV.lies.below hbW) (fun s hs => (hS.each s hs).1) (fun p hp => (hV.each p hp).1)).mono ?_
        rintro e w' ⟨v, rfl, hp, hb'⟩
        obtain ⟨L', f', hO', rfl, hr'⟩ := hp.good hok (by omega) hz
        have e1 : L' = L := Ord.unique hO'.ord hO.ord fun p => (hO'.mem p).trans (hO.mem p).symm
        rw [e1] at hr'
        exact ⟨f', rfl, hr', hb'⟩
      have hP3 : ∀ W, Below w3.heap.size w3 W → Calls Try.prog 9 #[.slice sa szs.length sc, .slice none 0 0, .int .i64 pc] W fun e w' => ∃ f, e = .returned (.tuple #[f, .int .i64 0]) ∧ w'.ownsRow W.heap.size NT 1 f (planL [] pc szs).length (rc nenc (planL [] pc szs)) ∧ Below W.heap.size W w' := fun W hb => by
        have hbW := hb03.trans (hb.mono hb03.size)
        refine (Plan_any sa sc szs none 0 [] pc W (hS.lies.below hbW) (by omega) (Or.inl rfl) (fun s hs => (hS.each s hs).1) (by simp)).mono ?_
        rintro e w' ⟨v, rfl, hp, hb'⟩
        obtain ⟨L', f', hO', rfl, hr'⟩ := hp.good hok (by simp) hpp
        rw [onc_nil hO'] at hr'
        exact ⟨f', rfl, hr', hb'⟩
      have hal : (planL L pc szs).length ≤ 300 := Nat.le_trans (plan_len _ _ _) (by omega)
      have HOK := hide hok
      clear hX3 hf hO hb3 hp3 hb02 hb03 hok hpc
      by_cases hq1 : q < 100
      · have hzb : 1 ≤ q ∧ q ≤ 100 := by omega
        have hP2 := fun W hb => hP2 W q hb hzb
        go_wp2_with fail
        go_region_held3 (LsS w.heap.size (.slice sa szs.length sc) (.slice la lv.length lc) (.int .i64 pc) w3) (first | with_reducible exact LsS.drew (by assumption) | with_reducible exact LsS.call (by assumption) (by assumption) | with_reducible assumption)
          (first | (go_at_call 17; refine (hAm _).mono ?_; rintro e w4 ⟨rfl, hw4⟩; obtain rfl := hw4) | (go_at_call 9; refine (hP2 _ (LsS.bel (by assumption))).mono ?_; rintro e w5 ⟨f5, rfl, hr5, hb5⟩))
        have hS5 : LsS w.heap.size (.slice sa szs.length sc) (.slice la lv.length lc) (.int .i64 pc) w3 w5 := by assumption
        have y0 := hS5.1
        have y2 := hS5.2.2.1
        have hP4 := hP3 w5 hS5.bel
        have HS5 := hide hS5
        have hbl : (planL L q szs).length ≤ 300 := Nat.le_trans (plan_len _ _ _) (by omega)
        have hcl : (planL [] pc szs).length ≤ 300 := Nat.le_trans (plan_len _ _ _) (by omega)
        obtain ⟨ba, bc, rfl⟩ := own_slice hr5
        have HR5 := hide hr5
        clear hP2 hP3 hS5 hr5 hb5 x0 x1 x2 hLS
        go_wp2_with fail
        refine hP4.mono ?_
        rintro e w6 ⟨f6, rfl, hr6, hb6⟩
        obtain ⟨ca, cc, rfl⟩ := own_slice hr6
        have hB6 : Below w.heap.size w w6 := (HF3.out.2.2.1.trans (HS5.out.bel.mono HF3.out.2.2.1.size)).trans (hb6.mono (Nat.le_trans HF3.out.2.2.1.size HS5.out.bel.size))
        have hla : Lies w6 nenc fa (planL L pc szs) := ((Row.lies (k := 1) (e := NT) (n := (planL L pc szs).length) (cap := fc) (own_mono HF3.out.1 (Nat.zero_le _))).below HS5.out.bel).below hb6
        have hlb : Lies w6 nenc ba (planL L q szs) := (Row.lies (k := 1) (e := NT) (n := (planL L q szs).length) (cap := bc) (own_mono HR5.out (Nat.zero_le _))).below hb6
        have hlc : Lies w6 nenc ca (planL [] pc szs) := Row.lies (k := 1) (e := NT) (n := (planL [] pc szs).length) (cap := cc) (own_mono hr6 (Nat.zero_le _))
        have z0 : w6.cell? ⟨w.heap.size, 0, none⟩ = some (.slice sa szs.length sc) := (hb6.cell (p := ⟨w.heap.size, 0, none⟩) HS5.out.2.2.2.out.1).trans y0
        have m1 : ∀ n ∈ planL L pc szs, n ∈ planL L q szs := fun n hn => plan_more (by omega) (fun s hs => (szOk_each HOK.out s hs).2.1) hn
        have m2 : ∀ n ∈ planL L pc szs, n ∈ planL [] pc szs := fun n hn => plan_none hn
        have m3 := fun i hi => plan_at hpp.1 (szOk_rise HOK.out) (szs := szs) i hi
        have HZ0 := hide z0
        generalize planL L pc szs = PA at *
        generalize planL L q szs = PB at *
        generalize planL [] pc szs = PC at *
        have hIB := fun n => in_any ba bc PB n w6 hlb (by omega)
        have hIC0 := fun n => in_any ca cc PC n w6 hlc (by omega)
        have hIC := fun W (hw : Below w6.heap.size w6 W) n => in_any ca cc PC n W (hlc.below hw) (by omega)
        have HM := hide (And.intro m1 (And.intro m2 m3))
        clear hP4 hr6 hb6 y0 y2 z0 m1 m2 m3
        go_wp2_with fail
        generalize (decide ((300 : Int) < (lv.length : Int)) || decide ((300 : Int) < (szs.length : Int))) = d0
        generalize decide ((300 : Int) < (lv.length : Int)) = d1
        generalize decide ((300 : Int) < (szs.length : Int)) = d2
        go_loop [73] (fun i => ∃ k : Nat, k ≤ PA.length ∧ i = .int .i64 k) (fun i => PA.length - (intOf i).toNat)
        case atStart => exact ⟨0, Nat.zero_le _, rfl⟩
        case round =>
          obtain ⟨k, hk, rfl⟩ := hrel
          by_cases hlt : k < PA.length
          · obtain ⟨b, off, rfl, hbl', hc⟩ := hla.at nenc_len k hlt
            have i1 : (0 : Int) ≤ (k : Int) := by omega
            have i2 : (k : Int) < (PA.length : Int) := by omega
            have c0 := hc 0 _ rfl
            rw [Nat.mul_one, Nat.add_zero] at c0
            have hmem := List.getElem_mem hlt
            have hB1 := hIB PA[k]
            have hC1 := hIC0 PA[k]
            rw [decide_eq_true (HM.out.1 _ hmem)] at hB1
            rw [decide_eq_true (HM.out.2.1 _ hmem)] at hC1
            generalize PA[k] = n at c0 hB1 hC1
            clear hc hmem hIB hIC hIC0
            go_wp2_with fail
            refine hB1.mono ?_
            rintro e w7 ⟨rfl, hw7⟩
            obtain rfl := hw7.symm
            clear hB1
            go_wp2_with fail
            refine hC1.mono ?_
            rintro e w7 ⟨rfl, hw7⟩
            obtain rfl := hw7.symm
            clear hC1
            go_wp2
            exact ⟨⟨k + 1, by omega, by go_num⟩, by simp [intOf]; omega⟩
          · obtain rfl : k = PA.length := by omega
            have i2 : ¬ (PA.length : Int) < (PA.length : Int) := by omega
            have z0 := HZ0.out
            clear hIB hIC0
            go_wp2
            go_loopw [93] (fun i wr => ∃ j : Nat, j ≤ szs.length ∧ i = .int .i64 j ∧ Below w.heap.size w wr ∧ Below w6.heap.size w6 wr) (fun i _ => szs.length - (intOf i).toNat)
            case atStart => exact ⟨0, Nat.zero_le _, rfl, hB6, Below.refl _ _⟩
            case round =>
              clear z0 hB6
              obtain ⟨j, hj, rfl, hb, hb'⟩ := hrel
              by_cases hjl : j < szs.length
              · obtain ⟨b, off, rfl, hbl', hc⟩ := (hS.lies.below hb).at szE_len j hjl
                have i1 : (0 : Int) ≤ (j : Int) := by omega
                have i3 : (j : Int) < (szs.length : Int) := by omega
                have c0 := hc 0 _ rfl
                have c1 := hc 1 _ rfl
                rw [Nat.add_zero] at c0
                have hm3 := HM.out.2.2 j hjl
                generalize szs[j] = x at c0 c1 hm3
                have hbx := below_alloc1 wr (.cells #[.int .i64 x.1, .int .i64 x.2] SzT)
                have hlt6 : w.heap.size < w6.heap.size := World.block_lt_of_cell? w6 _ HZ0.out
                have z0 := (hb'.cell (p := ⟨w.heap.size, 0, none⟩) hlt6).trans HZ0.out
                have hltr : w.heap.size < wr.heap.size := Nat.lt_of_lt_of_le hlt6 hb'.size
                have hner : ¬ w.heap.size = wr.heap.size := by omega
                have hCn : ∀ n, _ := fun n => hIC ((wr.alloc (.cells #[.int .i64 x.1, .int .i64 x.2] SzT)).drewN n) ((hb'.trans (hbx.mono hb'.size)).trans ((below_draws _ _ n).mono (Nat.le_trans hb'.size hbx.size))) x.1
                have HBX : Hid (Below w.heap.size w (wr.alloc (.cells #[.int .i64 x.1, .int .i64 x.2] SzT)) ∧ Below w6.heap.size w6 (wr.alloc (.cells #[.int .i64 x.1, .int .i64 x.2] SzT))) := ⟨hb.trans (hbx.mono hb.size), hb'.trans (hbx.mono hb'.size)⟩
                clear hc hIC hbx hb hb'
                obtain ⟨j', hj'⟩ : ∃ j' : Int, (j : Int) + 1 = j' := ⟨_, rfl⟩
                have hjw : IntKind.i64.wrap j' = j' := wrap_small (by omega) (by omega)
                by_cases h1 : j + 1 < szs.length
                · have j3 : j' < (szs.length : Int) := by omega
                  by_cases h2 : 0 < x.2
                  · rw [decide_eq_true (hm3.2 ⟨h1, h2⟩)] at hCn
                    clear hm3
                    go_wp2
                    go_quiet (first | (go_at_call 18; exact Calls.quiet_of_same (hCn _)))
                    go_wp2
                    exact ⟨⟨j + 1, by omega, by go_num, HBX.out.1.trans (below_draws _ _ _), HBX.out.2.trans (below_draws _ _ _)⟩, by simp [intOf]; omega⟩
                  · rw [decide_eq_false (fun h => h2 (hm3.1 h).2)] at hCn
                    clear hm3
                    go_wp2
                    go_quiet (first | (go_at_call 18; exact Calls.quiet_of_same (hCn _)))
                    go_wp2
                    exact ⟨⟨j + 1, by omega, by go_num, HBX.out.1.trans (below_draws _ _ _), HBX.out.2.trans (below_draws _ _ _)⟩, by simp [intOf]; omega⟩
                · have j3 : ¬ j' < (szs.length : Int) := by omega
                  have j4 : decide (j' < (szs.length : Int)) = false := decide_eq_false j3
                  rw [decide_eq_false (fun h => h1 (hm3.1 h).1)] at hCn
                  clear hm3
                  go_wp2
                  go_quiet (first | (go_at_call 18; exact Calls.quiet_of_same (hCn _)))
                  go_wp2
                  exact ⟨⟨j + 1, by omega, by go_num, HBX.out.1.trans (below_draws _ _ _), HBX.out.2.trans (below_draws _ _ _)⟩, by simp [intOf]; omega⟩
              · obtain rfl : j = szs.length := by omega
                have i3 : ¬ (szs.length : Int) < (szs.length : Int) := by omega
                go_wp2
                go_ret
                exact ⟨rfl, hb⟩
      · have hq2 : 100 ≤ q := by omega
        have hP2 := fun W hb => hP2 W 100 hb (by omega)
        go_wp2_with fail
        go_region_held3 (LsS w.heap.size (.slice sa szs.length sc) (.slice la lv.length lc) (.int .i64 pc) w3) (first | with_reducible exact LsS.drew (by assumption) | with_reducible exact LsS.call (by assumption) (by assumption) | with_reducible assumption)
          (first | (go_at_call 17; refine (hAm _).mono ?_; rintro e w4 ⟨rfl, hw4⟩; obtain rfl := hw4) | (go_at_call 9; refine (hP2 _ (LsS.bel (by assumption))).mono ?_; rintro e w5 ⟨f5, rfl, hr5, hb5⟩))
        have hS5 : LsS w.heap.size (.slice sa szs.length sc) (.slice la lv.length lc) (.int .i64 pc) w3 w5 := by assumption
        have y0 := hS5.1
        have y2 := hS5.2.2.1
        have hP4 := hP3 w5 hS5.bel
        have HS5 := hide hS5
        have hbl : (planL L 100 szs).length ≤ 300 := Nat.le_trans (plan_len _ _ _) (by omega)
        have hcl : (planL [] pc szs).length ≤ 300 := Nat.le_trans (plan_len _ _ _) (by omega)
        obtain ⟨ba, bc, rfl⟩ := own_slice hr5
        have HR5 := hide hr5
        clear hP2 hP3 hS5 hr5 hb5 x0 x1 x2 hLS
        go_wp2_with fail
        refine hP4.mono ?_
        rintro e w6 ⟨f6, rfl, hr6, hb6⟩
        obtain ⟨ca, cc, rfl⟩ := own_slice hr6
        have hB6 : Below w.heap.size w w6 := (HF3.out.2.2.1.trans (HS5.out.bel.mono HF3.out.2.2.1.size)).trans (hb6.mono (Nat.le_trans HF3.out.2.2.1.size HS5.out.bel.size))
        have hla : Lies w6 nenc fa (planL L pc szs) := ((Row.lies (k := 1) (e := NT) (n := (planL L pc szs).length) (cap := fc) (own_mono HF3.out.1 (Nat.zero_le _))).below HS5.out.bel).below hb6
        have hlb : Lies w6 nenc ba (planL L 100 szs) := (Row.lies (k := 1) (e := NT) (n := (planL L 100 szs).length) (cap := bc) (own_mono HR5.out (Nat.zero_le _))).below hb6
        have hlc : Lies w6 nenc ca (planL [] pc szs) := Row.lies (k := 1) (e := NT) (n := (planL [] pc szs).length) (cap := cc) (own_mono hr6 (Nat.zero_le _))
        have z0 : w6.cell? ⟨w.heap.size, 0, none⟩ = some (.slice sa szs.length sc) := (hb6.cell (p := ⟨w.heap.size, 0, none⟩) HS5.out.2.2.2.out.1).trans y0
        have m1 : ∀ n ∈ planL L pc szs, n ∈ planL L 100 szs := fun n hn => plan_more (by omega) (fun s hs => (szOk_each HOK.out s hs).2.1) hn
        have m2 : ∀ n ∈ planL L pc szs, n ∈ planL [] pc szs := fun n hn => plan_none hn
        have m3 := fun i hi => plan_at hpp.1 (szOk_rise HOK.out) (szs := szs) i hi
        have HZ0 := hide z0
        generalize planL L pc szs = PA at *
        generalize planL L 100 szs = PB at *
        generalize planL [] pc szs = PC at *
        have hIB := fun n => in_any ba bc PB n w6 hlb (by omega)
        have hIC0 := fun n => in_any ca cc PC n w6 hlc (by omega)
        have hIC := fun W (hw : Below w6.heap.size w6 W) n => in_any ca cc PC n W (hlc.below hw) (by omega)
        have HM := hide (And.intro m1 (And.intro m2 m3))
        clear hP4 hr6 hb6 y0 y2 z0 m1 m2 m3
        go_wp2_with fail
        generalize (decide ((300 : Int) < (lv.length : Int)) || decide ((300 : Int) < (szs.length : Int))) = d0
        generalize decide ((300 : Int) < (lv.length : Int)) = d1
        generalize decide ((300 : Int) < (szs.length : Int)) = d2
        go_loop [73] (fun i => ∃ k : Nat, k ≤ PA.length ∧ i = .int .i64 k) (fun i => PA.length - (intOf i).toNat)
        case atStart => exact ⟨0, Nat.zero_le _, rfl⟩
        case round =>
          obtain ⟨k, hk, rfl⟩ := hrel
          by_cases hlt : k < PA.length
          · obtain ⟨b, off, rfl, hbl', hc⟩ := hla.at nenc_len k hlt
            have i1 : (0 : Int) ≤ (k : Int) := by omega
            have i2 : (k : Int) < (PA.length : Int) := by omega
            have c0 := hc 0 _ rfl
            rw [Nat.mul_one, Nat.add_zero] at c0
            have hmem := List.getElem_mem hlt
            have hB1 := hIB PA[k]
            have hC1 := hIC0 PA[k]
            rw [decide_eq_true (HM.out.1 _ hmem)] at hB1
            rw [decide_eq_true (HM.out.2.1 _ hmem)] at hC1
            generalize PA[k] = n at c0 hB1 hC1
            clear hc hmem hIB hIC hIC0
            go_wp2_with fail
            refine hB1.mono ?_
            rintro e w7 ⟨rfl, hw7⟩
            obtain rfl := hw7.symm
            clear hB1
            go_wp2_with fail
            refine hC1.mono ?_
            rintro e w7 ⟨rfl, hw7⟩
            obtain rfl := hw7.symm
            clear hC1
            go_wp2
            exact ⟨⟨k + 1, by omega, by go_num⟩, by simp [intOf]; omega⟩
          · obtain rfl : k = PA.length := by omega
            have i2 : ¬ (PA.length : Int) < (PA.length : Int) := by omega
            have z0 := HZ0.out
            clear hIB hIC0
            go_wp2
            go_loopw [93] (fun i wr => ∃ j : Nat, j ≤ szs.length ∧ i = .int .i64 j ∧ Below w.heap.size w wr ∧ Below w6.heap.size w6 wr) (fun i _ => szs.length - (intOf i).toNat)
            case atStart => exact ⟨0, Nat.zero_le _, rfl, hB6, Below.refl _ _⟩
            case round =>
              clear z0 hB6
              obtain ⟨j, hj, rfl, hb, hb'⟩ := hrel
              by_cases hjl : j < szs.length
              · obtain ⟨b, off, rfl, hbl', hc⟩ := (hS.lies.below hb).at szE_len j hjl
                have i1 : (0 : Int) ≤ (j : Int) := by omega
                have i3 : (j : Int) < (szs.length : Int) := by omega
                have c0 := hc 0 _ rfl
                have c1 := hc 1 _ rfl
                rw [Nat.add_zero] at c0
                have hm3 := HM.out.2.2 j hjl
                generalize szs[j] = x at c0 c1 hm3
                have hbx := below_alloc1 wr (.cells #[.int .i64 x.1, .int .i64 x.2] SzT)
                have hlt6 : w.heap.size < w6.heap.size := World.block_lt_of_cell? w6 _ HZ0.out
                have z0 := (hb'.cell (p := ⟨w.heap.size, 0, none⟩) hlt6).trans HZ0.out
                have hltr : w.heap.size < wr.heap.size := Nat.lt_of_lt_of_le hlt6 hb'.size
                have hner : ¬ w.heap.size = wr.heap.size := by omega
                have hCn : ∀ n, _ := fun n => hIC ((wr.alloc (.cells #[.int .i64 x.1, .int .i64 x.2] SzT)).drewN n) ((hb'.trans (hbx.mono hb'.size)).trans ((below_draws _ _ n).mono (Nat.le_trans hb'.size hbx.size))) x.1
                have HBX : Hid (Below w.heap.size w (wr.alloc (.cells #[.int .i64 x.1, .int .i64 x.2] SzT)) ∧ Below w6.heap.size w6 (wr.alloc (.cells #[.int .i64 x.1, .int .i64 x.2] SzT))) := ⟨hb.trans (hbx.mono hb.size), hb'.trans (hbx.mono hb'.size)⟩
                clear hc hIC hbx hb hb'
                obtain ⟨j', hj'⟩ : ∃ j' : Int, (j : Int) + 1 = j' := ⟨_, rfl⟩
                have hjw : IntKind.i64.wrap j' = j' := wrap_small (by omega) (by omega)
                by_cases h1 : j + 1 < szs.length
                · have j3 : j' < (szs.length : Int) := by omega
                  by_cases h2 : 0 < x.2
                  · rw [decide_eq_true (hm3.2 ⟨h1, h2⟩)] at hCn
                    clear hm3
                    go_wp2
                    go_quiet (first | (go_at_call 18; exact Calls.quiet_of_same (hCn _)))
                    go_wp2
                    exact ⟨⟨j + 1, by omega, by go_num, HBX.out.1.trans (below_draws _ _ _), HBX.out.2.trans (below_draws _ _ _)⟩, by simp [intOf]; omega⟩
                  · rw [decide_eq_false (fun h => h2 (hm3.1 h).2)] at hCn
                    clear hm3
                    go_wp2
                    go_quiet (first | (go_at_call 18; exact Calls.quiet_of_same (hCn _)))
                    go_wp2
                    exact ⟨⟨j + 1, by omega, by go_num, HBX.out.1.trans (below_draws _ _ _), HBX.out.2.trans (below_draws _ _ _)⟩, by simp [intOf]; omega⟩
                · have j3 : ¬ j' < (szs.length : Int) := by omega
                  have j4 : decide (j' < (szs.length : Int)) = false := decide_eq_false j3
                  rw [decide_eq_false (fun h => h1 (hm3.1 h).1)] at hCn
                  clear hm3
                  go_wp2
                  go_quiet (first | (go_at_call 18; exact Calls.quiet_of_same (hCn _)))
                  go_wp2
                  exact ⟨⟨j + 1, by omega, by go_num, HBX.out.1.trans (below_draws _ _ _), HBX.out.2.trans (below_draws _ _ _)⟩, by simp [intOf]; omega⟩
              · obtain rfl : j = szs.length := by omega
                have i3 : ¬ (szs.length : Int) < (szs.length : Int) := by omega
                go_wp2
                go_ret
                exact ⟨rfl, hb⟩

end Go.Proofs.Ytcaboefpdejlmaa.Sw
