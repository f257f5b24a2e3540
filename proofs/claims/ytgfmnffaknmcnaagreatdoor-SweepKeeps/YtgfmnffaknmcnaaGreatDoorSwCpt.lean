/- Layer 12: slices.Compact at places. -/
import Derived.Test.YtgfmnffaknmcnaaGreatDoorSwCmp
import Derived.Laws.StructEq
namespace Go.Proofs.YtgfmnffaknmcnaaGreatDoor.Sw
open Go.RowKit Go.Joins Go.Sort Gk

set_option maxRecDepth 100000 in
theorem p_eq (x y : Pc) (w : World) : (Op.equalIn 10000 PT (pval x) (pval y)).run Tryz.prog w = .ok (decide (x = y)) w := by
  have hf : Tryz.prog.underlying PT = some (.struct (Tryz.prog.fieldsOf PT)) := by simp only [Program.fieldsOf, Tryz.underlying110]
  have e1 : ∀ (x y : Int) (W : World), (Op.equalIn 9999 3 (.int .i64 x) (.int .i64 y)).run Tryz.prog W = .ok (x == y) W := fun x y W => run_equalIn_int W 9998 3 .i64 .i64 x y Tryz.underlying3
  rw [show (10000 : Nat) = 9999 + 1 from rfl, run_equalIn_struct w 9999 PT _ _ hf (by kernel_rfl)]
  simp only [Program.fieldsOf, Tryz.underlying110]
  obtain ⟨x1, x2, x3⟩ := x
  obtain ⟨y1, y2, y3⟩ := y
  by_cases h1 : x1 = y1 <;> by_cases h2 : x2 = y2 <;> by_cases h3 : x3 = y3 <;> simp [Op.eqFields, go_sem, e1, h1, h2, h3]

theorem own_base {w : World} {B e size n : Nat} {v : Value} {l : List Value} (h : w.ownsRow 0 e size v n l) (hb : ∀ g, v.ownBlock = some g → B ≤ g) : w.ownsRow B e size v n l := by
  refine ⟨h.1, ?_⟩
  rcases h.2 with hn | ⟨g, cap, cur, rfl, h1, rest⟩
  · exact .inl hn
  · exact .inr ⟨g, cap, cur, rfl, hb g rfl, rest⟩
theorem size_setCells (g : Nat) : ∀ (vs : List Value) (o : Nat) (w : World), (w.setCells g o vs).heap.size = w.heap.size
  | [], _, _ => rfl
  | v :: r, o, w => by rw [World.setCells, size_setCells g r]; simp
theorem below_setCells {B g : Nat} (hg : B ≤ g) (w : World) (o : Nat) (vs : List Value) : Below B w (w.setCells g o vs) := by
  have h := grown_setCells g vs o w
  exact ⟨h.os, h.tape, h.output, h.size, fun k hk => by
    rcases Nat.lt_or_ge k w.heap.size with hlt | hge
    · exact h.block k hlt fun e => by cases e; omega
    · rw [Array.getElem?_eq_none (by rw [size_setCells]; exact hge), Array.getElem?_eq_none hge]⟩
/-- a slice of the places of a list, alike neighbours once -/
structure CptR (B : Nat) (w : World) (l : List Pc) (v : Value) : Prop where
  out : ∃ a cap, v = .slice a (cpt l).length cap ∧ Lies w penc a (cpt l) ∧ ∀ b off, a = some ⟨b, off, none⟩ → B ≤ b
set_option maxHeartbeats 1600000 in
set_option maxRecDepth 100000 in
theorem compact_any {B : Nat} (w : World) {v : Value} {l : List Pc} (h : w.ownsRow B PT 3 v l.length (rc penc l)) (hl : l.length ≤ 1000000) :
    Calls Tryz.prog 96 #[v] w fun e w' => ∃ v', e = .returned v' ∧ CptR B w' l v' ∧ Below B w w' := by
  have mixed : Tryz.prog.follows .mixedOrders = true := by kernel_rfl
  by_cases h2 : l.length < 2
  · have hc : cpt l = l := by
      rcases l with _ | ⟨x, _ | ⟨y, r⟩⟩
      · rfl
      · rfl
      · simp at h2; omega
    obtain ⟨a, cap, rfl⟩ := own_slice h
    have j1 : (l.length : Int) < 2 := by omega
    have hli : Lies w penc a l := Row.lies (k := 3) (e := PT) (n := l.length) (cap := cap) (own_mono h (Nat.zero_le _))
    go_enter Tryz.func96, Tryz.ntmps96
    go_wp2
    go_ret
    exact ⟨_, rfl, ⟨a, cap, by rw [hc]; rfl, by rw [hc]; exact hli, fun b off e => by subst e; exact (h.lt b rfl).1⟩, Below.refl _ _⟩
  · obtain ⟨g, cap, cur, rfl, hg, hnc, hcm, hcs, htk⟩ := own_form h (by omega)
    have hgB : B ≤ g := (h.lt g rfl).1
    have j1 : ¬ (l.length : Int) < 2 := by omega
    go_enter Tryz.func96, Tryz.ntmps96
    go_wp2
    go_loopw [3] (fun kv wr => ∃ k : Nat, 1 ≤ k ∧ k ≤ l.length ∧ kv = .int .i64 k ∧ cpt (l.take k) = l.take k ∧ Below B w wr ∧ wr.ownsRow B PT 3 (.slice (some ⟨g, 0, none⟩) l.length cap) l.length (rc penc l)) (fun kv _ => l.length - (intOf kv).toNat)
    case atStart => exact ⟨1, Nat.le_refl _, by omega, rfl, by rcases l with _ | ⟨x, r⟩ <;> rfl, Below.refl _ _, h⟩
    case round =>
      clear h hg htk
      obtain ⟨k, hk1, hkl, rfl, hcp, hb, hr⟩ := hrel
      by_cases hlt : k < l.length
      · have hcel := fun i hi => (Row.celled (own_mono hr (Nat.zero_le _)) penc_len i hi).2
        obtain ⟨k', hk'⟩ : ∃ k', k' = k - 1 := ⟨_, rfl⟩
        have hce := cpt_eq (l := l) k hlt (by omega)
        simp only [← hk'] at hce
        have j2 : (k : Int) < (l.length : Int) := by omega
        have j3 : (0 : Int) ≤ (k : Int) := by omega
        have j4 : (k : Int) - 1 = (k' : Int) := by omega
        have j5 : (0 : Int) ≤ (k' : Int) := by omega
        have j6 : (k' : Int) < (l.length : Int) := by omega
        have c1 := hcel k hlt
        have c0 := hcel k' (by omega)
        clear hcel
        obtain ⟨x, hx⟩ : ∃ x, x = l[k] := ⟨_, rfl⟩
        obtain ⟨y, hy⟩ : ∃ y, y = l[k'] := ⟨_, rfl⟩
        rw [← hx] at c1
        rw [← hy] at c0
        rw [← hx, ← hy] at hce
        have a0 := c1 0 _ rfl
        have a1 := c1 1 _ rfl
        have a2 := c1 2 _ rfl
        have b0 := c0 0 _ rfl
        have b1 := c0 1 _ rfl
        have b2 := c0 2 _ rfl
        simp only [Nat.add_zero] at a0 b0
        have hpe : ∀ W, _ := fun W => p_eq x y W
        have HK := hide hk'
        have HX : Hid (l[k]? = some x ∧ l[k']? = some y) := ⟨by rw [hx]; exact List.getElem?_eq_getElem hlt, by rw [hy]; exact List.getElem?_eq_getElem _⟩
        clear hk' hx hy c0 c1
        by_cases hxy : x = y
        · have hd : decide (x = y) = true := by simp [hxy]
          simp only [hd] at hpe
          go_wp2
          go_quiet (fail)
          go_wp2
          have HJ := hide (And.intro j1 j2)
          obtain ⟨R, hR⟩ : ∃ R, l.length - k = R := ⟨_, rfl⟩
          obtain ⟨C, hC⟩ : ∃ C, cap - k = C := ⟨_, rfl⟩
          rw [hR, hC]
          rw [if_pos hxy] at hce
          have HC := hide (And.intro hR (And.intro hC (And.intro hce hcp)))
          clear a0 a1 a2 b0 b1 b2 hpe hd hxy HK HX j2 j3 j4 j5 j6 hR hC hce hcp
          go_loopw [3, 5] (fun kv jv wi => ∃ (K j : Nat) (M : List Pc), 1 ≤ j ∧ j ≤ R ∧ kv = .int .i64 K ∧ jv = .int .i64 j ∧ M.length = l.length ∧ K = (cpt (l.take (k + j))).length ∧ M.take K = cpt (l.take (k + j)) ∧ M.drop (k + j - 1) = l.drop (k + j - 1) ∧ K + 1 ≤ k + j ∧ 1 ≤ K ∧ Below B w wi ∧ wi.ownsRow B PT 3 (.slice (some ⟨g, 0, none⟩) l.length cap) l.length (rc penc M)) (fun _ jv _ => R - (intOf jv).toNat)
          case atStart =>
            obtain ⟨hR, hC, hce, hcp⟩ := HC.out
            have hkk : (cpt (l.take (k + 1))).length = k := by rw [hce, hcp, List.length_take]; omega
            exact ⟨k, 1, l, Nat.le_refl _, by omega, rfl, rfl, rfl, hkk.symm, by rw [hce, hcp], rfl, Nat.le_refl _, hk1, hb.trans (below_draws _ _ _), own_below hr (below_draws _ _ _)⟩
          case round =>
            clear hb hr
            obtain ⟨K, j, M, hj1, hjR, rfl, rfl, hML, hKl, hKt, hMd, hKk, hK1, hb, hr⟩ := hrel
            by_cases hjlt : j < R
            · have hkj : k + j < l.length := by have := HC.out.1; omega
              have hr' : wr.ownsRow 0 PT 3 (.slice (some ⟨g, 0, none⟩) l.length cap) M.length (rc penc M) := by rw [hML]; exact own_mono hr (Nat.zero_le _)
              have hcel := fun i hi => (Row.celled hr' penc_len i hi).2
              have hfr := fun i hi => Row.there hr' i hi
              clear hr'
              obtain ⟨j', hj'⟩ : ∃ j', j' = j - 1 := ⟨_, rfl⟩
              have hce := cpt_eq (l := l) (k + j) hkj (by omega)
              have hMg : ∀ i (h : k + j - 1 ≤ i) (h1 : i < M.length) (h2 : i < l.length), M[i] = l[i] := fun i h h1 h2 => by
                have e1 := congrArg (fun z => z[i - (k + j - 1)]?) hMd
                simp only [List.getElem?_drop] at e1
                rw [show k + j - 1 + (i - (k + j - 1)) = i by omega, List.getElem?_eq_getElem h1, List.getElem?_eq_getElem h2] at e1
                exact Option.some.inj e1
              have c1 := hcel (k + j) (by omega)
              have c0 := hcel (k + j') (by omega)
              rw [hMg (k + j) (by omega) (by omega) hkj] at c1
              rw [hMg (k + j') (by omega) (by omega) (by omega)] at c0
              have e2 : l[k + j - 1] = l[k + j'] := by congr 1; omega
              rw [e2] at hce
              obtain ⟨x, hx⟩ : ∃ x, x = l[k + j] := ⟨_, rfl⟩
              obtain ⟨y, hy⟩ : ∃ y, y = l[k + j'] := ⟨_, rfl⟩
              rw [← hx] at c1
              rw [← hy] at c0
              rw [← hx, ← hy] at hce
              rw [Nat.add_mul] at c1 c0
              have a0 := c1 0 _ rfl
              have a1 := c1 1 _ rfl
              have a2 := c1 2 _ rfl
              have b0 := c0 0 _ rfl
              have b1 := c0 1 _ rfl
              have b2 := c0 2 _ rfl
              simp only [Nat.add_zero] at a0 b0
              have hpe : ∀ W, _ := fun W => p_eq x y W
              have i1 : (j : Int) < (R : Int) := by omega
              have i2 : (0 : Int) ≤ (j : Int) := by omega
              have i3 : (j : Int) - 1 = (j' : Int) := by omega
              have i4 : (0 : Int) ≤ (j' : Int) := by omega
              have i5 : (j' : Int) < (R : Int) := by omega
              have i6 : (0 : Int) ≤ (K : Int) := by omega
              have i7 : (K : Int) < (l.length : Int) := by omega
              have c9 := hcel K (by omega)
              generalize M[K] = z at c9
              have d0 := c9 0 _ rfl
              have d1 := c9 1 _ rfl
              have d2 := c9 2 _ rfl
              simp only [Nat.add_zero] at d0
              have f0 : wr.frozen? ⟨g, K * 3, none⟩ = false := (hfr (K * 3) (by omega)).2
              have f1 : wr.frozen? ⟨g, K * 3 + 1, none⟩ = false := (hfr (K * 3 + 1) (by omega)).2
              have f2 : wr.frozen? ⟨g, K * 3 + 2, none⟩ = false := (hfr (K * 3 + 2) (by omega)).2
              have HH := hide (And.intro hML (And.intro hKl (And.intro hKt (And.intro hMd hKk))))
              have HR := hide (And.intro hb hr)
              clear hj' hx hy c0 c1 c9 hfr hcel hMg e2 hML hKl hKt hMd hKk hb hr
              by_cases hxy : x = y
              · have hd : decide (x = y) = true := by simp [hxy]
                simp only [hd] at hpe
                rw [if_pos hxy] at hce
                have HCE := hide hce
                clear hce
                go_wp2
                go_quiet (fail)
                go_wp2
                obtain ⟨hML, hKl, hKt, hMd, hKk⟩ := HH.out
                obtain ⟨hb, hr⟩ := HR.out
                refine ⟨⟨K, j + 1, M, by omega, by omega, rfl, by go_num, hML, by rw [← Nat.add_assoc, HCE.out]; exact hKl, by rw [← Nat.add_assoc, HCE.out]; exact hKt, ?_, by omega, hK1, hb.trans (below_draws _ _ _), own_below hr (below_draws _ _ _)⟩, by simp [intOf]; omega⟩
                have e := congrArg (List.drop 1) hMd
                rw [List.drop_drop, List.drop_drop] at e
                rw [show k + (j + 1) - 1 = k + j - 1 + 1 by omega]; exact e
              · have hd : decide (x = y) = false := by simp [hxy]
                simp only [hd] at hpe
                rw [if_neg hxy] at hce
                have HCE := hide hce
                clear hce
                go_wp2
                go_quiet (fail)
                go_wp2
                obtain ⟨hML, hKl, hKt, hMd, hKk⟩ := HH.out
                obtain ⟨hb, hr⟩ := HR.out
                have hr0 : Row (wr.drewN nq) penc PT 3 (.slice (some ⟨g, 0, none⟩) l.length cap) M := by
                  show World.ownsRow _ 0 PT 3 _ M.length _
                  rw [hML]; exact own_mono (own_below hr (below_draws _ _ _)) (Nat.zero_le _)
                have hr1 := hr0.set penc_len K (by omega) x
                have hr2 : ((wr.drewN nq).setCells g (K * 3) (penc x)).ownsRow B PT 3 (.slice (some ⟨g, 0, none⟩) l.length cap) l.length (rc penc (M.set K x)) := by
                  have h9 : ((wr.drewN nq).setCells g (K * 3) (penc x)).ownsRow 0 PT 3 (.slice (some ⟨g, 0, none⟩) l.length cap) (M.set K x).length (rc penc (M.set K x)) := hr1
                  rw [List.length_set, hML] at h9
                  exact own_base h9 fun g' e => by cases e; exact hgB
                refine ⟨⟨K + 1, j + 1, M.set K x, by omega, by omega, by go_num, by go_num, by rw [List.length_set]; exact hML, by rw [← Nat.add_assoc, HCE.out, List.length_append, ← hKl]; rfl, ?_, ?_, by omega, by omega, (hb.trans (below_draws _ _ _)).trans (below_setCells hgB _ (K * 3) (penc x)), hr2⟩, by simp [intOf]; omega⟩
                · rw [← Nat.add_assoc, HCE.out, ← hKt, List.take_add_one, List.getElem?_set_self (by omega)]
                  rw [List.take_set_of_le (Nat.le_refl _)]; rfl
                · have e := congrArg (List.drop 1) hMd
                  rw [List.drop_drop, List.drop_drop] at e
                  rw [show k + (j + 1) - 1 = k + j - 1 + 1 by omega, List.drop_set_of_lt (by omega)]; exact e
            · obtain rfl : j = R := by omega
              have i1 : ¬ (j : Int) < (j : Int) := by omega
              obtain ⟨hR, hC, -, -⟩ := HC.out
              rw [show k + j = l.length by omega, List.take_length] at hKl hKt
              have i2 : (K : Int) ≤ (l.length : Int) := by omega
              have i3 : (0 : Int) ≤ (K : Int) := by omega
              have i4 : (K : Int) ≤ (cap : Int) := by omega
              have i5 : K < l.length := by omega
              have i6 : K < cap := by omega
              have hr0 : Row wr penc PT 3 (.slice (some ⟨g, 0, none⟩) l.length cap) M := by
                show World.ownsRow _ 0 PT 3 _ M.length _
                rw [hML]; exact own_mono hr (Nat.zero_le _)
              have hz : ∀ w, (zeroValue PT).run Tryz.prog w = .ok (.agg #[.int .i64 0, .int .i64 0, .int .i64 0]) w := fun w => by kernel_rfl
              have hclr := run_clear_row (P := Tryz.prog) wr 108 PT 0 _ Tryz.underlying108 hz (by simp [Value.cells]; decide) g (K * 3) (l.length - K) (cap - K) (by omega) (fun i hi => hr0.there _ (by simp [Value.cells] at hi; omega))
              obtain ⟨ZL, hZL⟩ : ∃ ZL, ZL = (Builtin.zeroCells (Value.agg #[.int .i64 0, .int .i64 0, .int .i64 0]).cells (l.length - K)).toList := ⟨_, rfl⟩
              have hZ : ZL.length = (l.length - K) * 3 := by rw [hZL, Array.length_toList, size_zeroCells]; rfl
              rw [← hZL] at hclr
              have hr1 : Row (wr.setCells g (K * 3) ZL) penc PT 3 (.slice (some ⟨g, 0, none⟩) K cap) (M.take K) := by
                have h1 := hr0.take penc_len K (by omega)
                refine h1.tail (K * 3) ZL (by rw [List.length_take]; omega) (by rw [hZ, ← Nat.add_mul]; exact Nat.mul_le_mul_right 3 (by omega))
              have HF := hide (And.intro hKl (And.intro hKt (And.intro hr1 (hb.trans (below_setCells hgB wr (K * 3) ZL)))))
              clear hKl hKt hr1 hb hr hr0 hz hZL hZ hMd hML hR hC HC HJ hKk hjR hjlt
              go_wp2
              go_ret
              obtain ⟨hKl, hKt, hr1, hb⟩ := HF.out
              exact ⟨_, rfl, ⟨_, cap, by rw [← hKl]; rfl, by rw [← hKt]; exact hr1.lies, fun b off e => by cases e; exact hgB⟩, hb⟩
        · have hd : decide (x = y) = false := by simp [hxy]
          simp only [hd] at hpe
          go_wp2
          go_quiet (fail)
          go_wp2
          rw [if_neg hxy] at hce
          refine ⟨⟨k + 1, by omega, hlt, by go_num, ?_, hb.trans (below_draws _ _ _), own_below hr (below_draws _ _ _)⟩, by simp [intOf]; omega⟩
          rw [hce, hcp, List.take_add_one, HX.out.1]; rfl
      · have j2 : ¬ (k : Int) < (l.length : Int) := by omega
        obtain rfl : k = l.length := by omega
        rw [List.take_length] at hcp
        have HCP := hide hcp
        clear hcp
        have hli : Lies wr penc (some ⟨g, 0, none⟩) l := Row.lies (k := 3) (e := PT) (n := l.length) (cap := cap) (own_mono hr (Nat.zero_le _))
        go_wp2
        go_ret
        exact ⟨_, rfl, ⟨_, _, by rw [HCP.out]; rfl, by rw [HCP.out]; exact hli, fun b off e => by cases e; exact hgB⟩, hb⟩

end Go.Proofs.YtgfmnffaknmcnaaGreatDoor.Sw
