/- Layer 12: walks over place.go: counts, liveBytes. -/
import Derived.Test.YtgfmnffaknmcnaaGreatDoorSwOrd
import Derived.Test.YtgfmnffaknmcnaaGreatDoorSwLivP
namespace Go.Proofs.YtgfmnffaknmcnaaGreatDoor.Sw
open Go.RowKit Go.Joins Go.Sort Gk

set_option maxHeartbeats 800000 in
set_option maxRecDepth 100000 in
theorem counts_any (x : Pc) (w : World) : Calls Tryz.prog 108 #[pval x] w fun e w' => e = .returned (.bool (cnt x)) ∧ Below w.heap.size w w' := by
  have hb := below_alloc1 w (.cells #[.int .i64 x.1, .int .i64 x.2.1, .int .i64 x.2.2] PT)
  by_cases h1 : 0 ≤ x.2.2
  · by_cases h2 : x.2.2 ≤ 65536
    · have hc : cnt x = true := cnt_iff.2 ⟨h1, h2⟩
      rw [hc]
      go_enter Tryz.func108, Tryz.ntmps108
      go_wp2
      go_ret
      exact ⟨rfl, hb⟩
    · have hc : cnt x = false := by rw [← Bool.not_eq_true, cnt_iff]; omega
      rw [hc]
      go_enter Tryz.func108, Tryz.ntmps108
      go_wp2
      go_ret
      exact ⟨rfl, hb⟩
  · have hc : cnt x = false := by rw [← Bool.not_eq_true, cnt_iff]; omega
    rw [hc]
    go_enter Tryz.func108, Tryz.ntmps108
    go_wp2
    go_ret
    exact ⟨rfl, hb⟩

set_option maxRecDepth 100000 in
theorem wrap_small {x : Int} (h0 : -9223372036854775808 ≤ x) (h1 : x ≤ 9223372036854775807) : IntKind.i64.wrap x = x := by
  simp only [IntKind.wrap, IntKind.bits, IntKind.signed]
  simp
  omega
set_option maxRecDepth 100000 in
theorem keepBlk {w w' : World} {b : Nat} {o : Obj} (h : Below w.heap.size w w') (hb : w.heap[b]? = some o) : w'.heap[b]? = some o := (h.block b (Array.getElem?_eq_some_iff.1 hb).1).trans hb
def szE (x : Sz) : List Value := [.int .i64 x.1, .int .i64 x.2]
set_option maxRecDepth 100000 in
theorem szE_len (x : Sz) : (szE x).length = 2 := rfl
set_option maxRecDepth 100000 in
theorem szE_one (x : Sz) : ∀ u ∈ szE x, u.oneCell' = true := by intro u hu; simp [szE] at hu; rcases hu with rfl | rfl <;> rfl
abbrev SzT : TypeId := 67
set_option maxRecDepth 100000 in
theorem sz_info : (Tryz.prog.info? SzT).map (fun i => (i.zero, i.size, i.bytes)) = some (some (.agg #[.int .i64 0, .int .i64 0]), 2, 16) := by kernel_rfl

/-- one cell of a row is another one -/
theorem own_setCell {w : World} {B e size n m cap g j : Nat} {xs : List Value} (h : w.ownsRow B e size (.slice (some ⟨g, 0, none⟩) n cap) m xs) (u : Value) : (w.setCell ⟨g, j, none⟩ u).ownsRow B e size (.slice (some ⟨g, 0, none⟩) n cap) m (xs.set j u) := by
  refine ⟨by rw [List.length_set]; exact h.1, ?_⟩
  rcases h.2 with ⟨h0, _⟩ | ⟨g', cap', cur, e1, hb, hg, k1, k2, k3, k4⟩
  · cases h0
  · cases e1
    refine Or.inr ⟨g, cap, cur.setIfInBounds j u, rfl, hb, block_setCell hg u, k1, k2, by rw [Array.size_setIfInBounds]; exact k3, ?_⟩
    rw [Array.toList_setIfInBounds, List.take_set, k4]
set_option maxRecDepth 100000 in
theorem rc_last (B : List Sz) (f y z : Int) : (rc szE (B ++ [(f, y)])).set (B.length * 2 + 1) (.int .i64 z) = rc szE (B ++ [(f, z)]) := by
  rw [rc_append, rc_append, rc_one, rc_one, List.set_append_right _ _ (by rw [rc_length szE_len]; omega), rc_length szE_len, show B.length * 2 + 1 - B.length * 2 = 1 by omega]
  rfl

set_option maxHeartbeats 3200000 in
set_option maxRecDepth 100000 in
theorem liveBytes_any (a : Option Addr) (cap : Nat) (l : List Pc) (w : World) (hl : Lies w penc a l) (hn : l.length ≤ 4096) :
    Calls Tryz.prog 70 #[.slice a l.length cap] w fun e w' => ∃ v', e = .returned v' ∧ ∃ L, Onc l L ∧ w'.ownsRow w.heap.size SzT 2 v' (lbs L).length (rc szE (lbs L)) ∧ Below w.heap.size w w' := by
  have hI := inOrder_any a cap l w hl hn
  go_enter Tryz.func70, Tryz.ntmps70
  go_wp2_with fail
  refine hI.mono ?_
  rintro e w1 ⟨v1, rfl, hr1, hb1⟩
  obtain ⟨L, a1, cap1, hO, rfl, hL, -⟩ := hr1.out
  have hLn : L.length ≤ 4096 := Nat.le_trans hO.len hn
  clear hI
  have HO := hide hO
  clear hO hr1 hl
  go_wp2
  go_loopw [3, 10] (fun v' i wr => ∃ k : Nat, k ≤ L.length ∧ i = .int .i64 k ∧ wr.ownsRow w1.heap.size SzT 2 v' (lbs (L.take k)).length (rc szE (lbs (L.take k))) ∧ Below w1.heap.size w1 wr) (fun _ i _ => L.length - (intOf i).toNat)
  case atStart => exact ⟨0, Nat.zero_le _, rfl, World.ownsRow_nil _ _ _ _, Below.refl _ _⟩
  case round =>
    obtain ⟨k, hk, rfl, hrow, hb⟩ := hrel
    by_cases hlt : k < L.length
    · obtain ⟨b, off, rfl, hbl, hc⟩ := (hL.below hb).at penc_len k hlt
      have i1 : (0 : Int) ≤ (k : Int) := by omega
      have i2 : (k : Int) < (L.length : Int) := by omega
      have c0 := hc 0 _ rfl
      have c1 := hc 1 _ rfl
      have c2 := hc 2 _ rfl
      rw [Nat.add_zero] at c0
      have hnx : lbs (L.take (k + 1)) = lstep (lbs (L.take k)) L[k] := by rw [List.take_succ_eq_append_getElem hlt, lbs_snoc]
      have hlen := lbs_len (L.take k)
      rw [List.length_take] at hlen
      have hbd := lbs_bound (L.take k)
      rw [List.length_take, Nat.min_eq_left hk] at hbd
      generalize L[k] = x at c0 c1 c2 hnx
      obtain ⟨A, hA⟩ : ∃ A, lbs (L.take k) = A := ⟨_, rfl⟩
      rw [hA] at hrow hnx hlen hbd
      have HZ := hide hb.size
      have HLEN : Hid (A.length ≤ 4096) := by show A.length ≤ 4096; omega
      clear hc hA hlen
      have hbx := below_alloc1 wr (.cells #[.int .i64 x.1, .int .i64 x.2.1, .int .i64 x.2.2] PT)
      have hcC := counts_any x (wr.alloc (.cells #[.int .i64 x.1, .int .i64 x.2.1, .int .i64 x.2.2] PT))
      have hX := heap_alloc_new wr (.cells #[.int .i64 x.1, .int .i64 x.2.1, .int .i64 x.2.2] PT)
      cases hcx : cnt x with
      | false =>
        rw [hcx] at hcC
        rw [lstep_no hcx] at hnx
        have HR := hide (And.intro hrow (And.intro hb hnx))
        clear hrow hb hnx
        go_wp2_with fail
        refine hcC.mono ?_
        rintro e w4 ⟨rfl, hb4⟩
        clear hcC
        have hb9 := hbx.trans (hb4.mono hbx.size)
        clear hbx hb4 hX c0 c1 c2
        go_wp2
        go_roundw
        case rel =>
          obtain ⟨hrow, hb, hnx⟩ := HR.out
          exact ⟨k + 1, by omega, by go_num, by rw [hnx]; exact own_below hrow hb9, hb.trans (hb9.mono hb.size)⟩
        case measure => simp [intOf]; omega
      | true =>
        rw [hcx] at hcC
        have hcn := cnt_iff.1 hcx
        obtain ⟨av, cv, rfl⟩ := own_slice hrow
        go_wp2_with fail
        refine hcC.mono ?_
        rintro e w4 ⟨rfl, hb4⟩
        have hXW := keepBlk hb4 hX
        have hb9 := hbx.trans (hb4.mono hbx.size)
        have hr4 := own_below hrow hb9
        clear hcC hb4 hX hbx c0 c1 c2 hrow
        obtain ⟨t, ht⟩ : ∃ t, x.2.2 + 8 = t := ⟨_, rfl⟩
        have tb : 0 ≤ t ∧ t ≤ 65544 := by omega
        rcases List.eq_nil_or_concat A with hA | ⟨B, q, hA⟩
        · have HNX : Hid (lbs (L.take (k + 1)) = A ++ [(x.1, t)]) := by show _ = _; rw [hnx, hA, lstep_nil hcx, ht]; rfl
          have j1 : ((A.length : Int) == 0) = true := by rw [hA]; rfl
          clear hnx hA hbd
          go_wp2
          go_quiet (fail)
          have hb5 := hb9.trans ((below_draws _ w4 nq).mono hb9.size)
          have hr5 := own_below hr4 (below_draws _ w4 nq)
          have hX5 := keepBlk (below_draws _ w4 nq) hXW
          clear hb9 hr4 hXW
          generalize w4.drewN nq = w5 at *
          have x0 : w5.cell? ⟨wr.heap.size, 0, none⟩ = some (.int .i64 x.1) := cell_of_block hX5 0
          have hlt5 : wr.heap.size < w5.heap.size := (Array.getElem?_eq_some_iff.1 hX5).1
          have HR5 := hide hr5
          have HZ5 := hide (And.intro hb5 hX5)
          clear hr5 hb5 hX5 j1
          go_wp2_with (at_builtin; refine wpList_push (enc := szE) (k := 2) rfl (.tmp 32) (.tmp 36) 64 rfl SzT (.agg #[.int .i64 0, .int .i64 0]) 16 Tryz.underlying64 sz_info rfl (by decide) szE_len szE_one w1.heap.size _ A rfl (own_below HR5.out (below_alloc1 w5 _)) w5.heap.size (x.1, 0) rfl (heap_alloc_new w5 _) ?c1 ?c2 ?c3 ?_)
          case c1 => have := HLEN.out; omega
          case c2 => have := HLEN.out; omega
          case c3 => have := HZ.out; simp; omega
          intro v6 W ho6 hg6 hat6
          have hXW : W.heap[wr.heap.size]? = some (.cells #[.int .i64 x.1, .int .i64 x.2.1, .int .i64 x.2.2] PT (0, 0)) := by
            refine (hg6.block _ (by simp; omega) fun e => ?_).trans (keepBlk (below_alloc1 w5 _) HZ5.out.2)
            exact own_ne HR5.out HZ5.out.2 (by decide) e.symm rfl
          have hbWr : Below w1.heap.size w1 W := ((hb.trans (HZ5.out.1.mono hb.size)).trans ((below_alloc1 w5 _).mono (by have := HZ.out; omega))).grown hg6 (by have := HZ.out; simp; omega) fun g hg => (HR5.out.lt g hg).1
          obtain ⟨N, hN⟩ : ∃ N, N = A.length + 1 := ⟨_, rfl⟩
          have ho7 : W.ownsRow w1.heap.size SzT 2 v6 N (rc szE (A ++ [(x.1, 0)])) := by rw [hN]; exact ho6
          obtain ⟨g, cg, cur6, hv6, -, hcN, -, -, -⟩ := own_form ho7 (by omega)
          subst hv6
          have hrW : W.ownsRow w1.heap.size SzT 2 (.slice (some ⟨g, 0, none⟩) N cg) (A ++ [((x.1, 0) : Sz)]).length (rc szE (A ++ [(x.1, 0)])) := by rw [List.length_append]; exact ho6
          obtain ⟨m, hm⟩ : ∃ m, m = A.length := ⟨_, rfl⟩
          have n1 : ((N : Nat) : Int) - 1 = (m : Int) := by omega
          have n2 : (0 : Int) ≤ (m : Int) := by omega
          have n3 : (m : Int) < (N : Int) := by omega
          have n4 : IntKind.i64.wrap (m : Int) = (m : Int) := wrap_small (by omega) (by have := HLEN.out; omega)
          have hz : (0 : Int) + t = t := by omega
          have n5 : IntKind.i64.wrap t = t := wrap_small (by omega) (by omega)
          have HM := hide (And.intro hm hN)
          clear ho6 hg6 hat6 ho7
          have HXW := hide hXW
          have x2 : W.cell? ⟨wr.heap.size, 2, none⟩ = some (.int .i64 x.2.2) := cell_of_block hXW 2
          have hyc := (Row.celled (own_mono hrW (Nat.zero_le _)) szE_len A.length (by simp)).2
          have y1 := hyc 1 (.int .i64 0) (by simp [szE])
          have fz : W.frozen? ⟨g, A.length * 2 + 1, none⟩ = false := (Row.there (own_mono hrW (Nat.zero_le _)) _ (by omega)).2
          have hgx : g ≠ wr.heap.size := fun e => own_ne hrW hXW (by decide) rfl e
          have hrN := own_setCell (j := A.length * 2 + 1) hrW (.int .i64 t)
          rw [rc_last] at hrN
          have HR9 := hide (And.intro hrN (And.intro hbWr (hrW.lt g rfl).1))
          rw [← hm] at y1 fz
          clear hXW hyc hrW hbWr hrN hm hN hcx hcn
          go_wp2
          go_region_law (fail)
          go_wp2
          all_goals
            obtain ⟨hrN, hbN, hgg⟩ := HR9.out
            obtain ⟨hmm, hNN⟩ := HM.out
            rw [← hmm] at hrN
            refine ⟨⟨k + 1, by omega, by go_num, ?_, ?_⟩, by simp [intOf]; omega⟩
            · rw [HNX.out, List.length_append]
              rw [List.length_append] at hrN
              exact own_below hrN ((Below.refl _ _).drew)
            · exact ((hbN.setCell (p := ⟨g, m * 2 + 1, none⟩) hgg _).drew)
        · rw [List.concat_eq_append] at hA
          have hqb := hbd q (by rw [hA]; simp)
          have hAl : A.length = B.length + 1 := by rw [hA]; simp
          obtain ⟨g, cg, cur6, hv6, -, hcN, -, -, -⟩ := own_form hr4 (by omega)
          cases hv6
          obtain ⟨m, hm⟩ : ∃ m, m = B.length := ⟨_, rfl⟩
          have hqc := (Row.celled (l := A) (own_mono hr4 (Nat.zero_le _)) szE_len m (by omega)).2
          have hAq : A[m]'(by omega) = q := by simp [hA, hm]
          rw [hAq] at hqc
          have q0 := hqc 0 _ rfl
          rw [Nat.add_zero] at q0
          have x0 : w4.cell? ⟨wr.heap.size, 0, none⟩ = some (.int .i64 x.1) := cell_of_block hXW 0
          have j1 : ((A.length : Int) == 0) = false := by rw [beq_eq_false_iff_ne]; omega
          have n1 : ((A.length : Nat) : Int) - 1 = (m : Int) := by omega
          have n2 : (0 : Int) ≤ (m : Int) := by omega
          have n3 : (m : Int) < (A.length : Int) := by omega
          have n4 : IntKind.i64.wrap (m : Int) = (m : Int) := wrap_small (by omega) (by have := HLEN.out; omega)
          have HM : Hid (m = B.length ∧ A.length = B.length + 1) := ⟨hm, hAl⟩
          have HRA : Hid (A = B ++ [q]) := hA
          clear hqc hAq hbd hAl
          by_cases hq : q.1 = x.1
          · have j2 : (q.1 == x.1) = true := by simp [hq]
            obtain ⟨z, hz⟩ : ∃ z, q.2 + t = z := ⟨_, rfl⟩
            have HNX : Hid (lbs (L.take (k + 1)) = B ++ [(q.1, z)]) := by show _ = _; rw [hnx, hA, lstep_old hcx hq, ht, hz]
            have zb : 0 ≤ z ∧ z ≤ 9223372036854775807 := by omega
            clear hnx hA
            have HHM := hide hm
            clear hm
            go_wp2
            go_quiet (fail)
            have hb5 := hb9.trans ((below_draws _ w4 nq).mono hb9.size)
            have hr5 := own_below hr4 (below_draws _ w4 nq)
            have hXW := keepBlk (below_draws _ w4 nq) hXW
            have hbWr : Below w1.heap.size w1 (w4.drewN nq) := hb.trans (hb5.mono hb.size)
            clear hb9 hr4 hb5 q0 x0
            generalize w4.drewN nq = W at *
            have hm := HHM.out
            have hrW : W.ownsRow w1.heap.size SzT 2 (.slice (some ⟨g, 0, none⟩) A.length cv) (B ++ [(q.1, q.2)]).length (rc szE (B ++ [(q.1, q.2)])) := by
              have := hr5
              rw [HRA.out] at this ⊢
              exact this
            have hcN' : B.length + 1 ≤ cv := by have := HM.out.2; omega
            have n5 : IntKind.i64.wrap z = z := wrap_small (by omega) (by omega)
            have n6 : IntKind.i64.wrap t = t := wrap_small (by omega) (by omega)
            clear hr5
            have HXW := hide hXW
            have x2 : W.cell? ⟨wr.heap.size, 2, none⟩ = some (.int .i64 x.2.2) := cell_of_block hXW 2
            have hyc := (Row.celled (own_mono hrW (Nat.zero_le _)) szE_len B.length (by simp)).2
            have y1 := hyc 1 (.int .i64 q.2) (by simp [szE])
            have fz : W.frozen? ⟨g, B.length * 2 + 1, none⟩ = false := (Row.there (own_mono hrW (Nat.zero_le _)) _ (by omega)).2
            have hgx : g ≠ wr.heap.size := fun e => own_ne hrW hXW (by decide) rfl e
            have hrN := own_setCell (j := B.length * 2 + 1) hrW (.int .i64 z)
            rw [rc_last] at hrN
            have HR9 := hide (And.intro hrN (And.intro hbWr (hrW.lt g rfl).1))
            rw [← hm] at y1 fz
            clear hXW hyc hrW hbWr hrN hm 
            go_wp2
            go_region_law (fail)
            go_wp2
            all_goals
              obtain ⟨hrN, hbN, hgg⟩ := HR9.out
              obtain ⟨hmm, hNN⟩ := HM.out
              rw [← hmm] at hrN
              refine ⟨⟨k + 1, by omega, by go_num, ?_, ?_⟩, by simp [intOf]; omega⟩
              · rw [HNX.out, List.length_append]
                rw [List.length_append] at hrN
                exact own_below hrN ((Below.refl _ _).drew)
              · exact ((hbN.setCell (p := ⟨g, m * 2 + 1, none⟩) hgg _).drew)
          · have j2 : (q.1 == x.1) = false := by simp [hq]
            have HNX : Hid (lbs (L.take (k + 1)) = A ++ [(x.1, t)]) := by show _ = _; rw [hnx, hA, lstep_new hcx hq, ht]
            have j3 : (q.1 != x.1) = true := by simp [hq]
            clear hnx hA hm HM HRA
            go_wp2
            go_quiet (fail)
            clear q0 x0 n1 n2 n3 n4 hcN
            have hb5 := hb9.trans ((below_draws _ w4 nq).mono hb9.size)
            have hr5 := own_below hr4 (below_draws _ w4 nq)
            have hX5 := keepBlk (below_draws _ w4 nq) hXW
            clear hb9 hr4 hXW
            generalize w4.drewN nq = w5 at *
            have x0 : w5.cell? ⟨wr.heap.size, 0, none⟩ = some (.int .i64 x.1) := cell_of_block hX5 0
            have hlt5 : wr.heap.size < w5.heap.size := (Array.getElem?_eq_some_iff.1 hX5).1
            have HR5 := hide hr5
            have HZ5 := hide (And.intro hb5 hX5)
            clear hr5 hb5 hX5 j1 j2 j3
            go_wp2_with (at_builtin; refine wpList_push (enc := szE) (k := 2) rfl (.tmp 32) (.tmp 36) 64 rfl SzT (.agg #[.int .i64 0, .int .i64 0]) 16 Tryz.underlying64 sz_info rfl (by decide) szE_len szE_one w1.heap.size _ A rfl (own_below HR5.out (below_alloc1 w5 _)) w5.heap.size (x.1, 0) rfl (heap_alloc_new w5 _) ?c1 ?c2 ?c3 ?_)
            case c1 => have := HLEN.out; omega
            case c2 => have := HLEN.out; omega
            case c3 => have := HZ.out; simp; omega
            intro v6 W ho6 hg6 hat6
            have hXW : W.heap[wr.heap.size]? = some (.cells #[.int .i64 x.1, .int .i64 x.2.1, .int .i64 x.2.2] PT (0, 0)) := by
              refine (hg6.block _ (by simp; omega) fun e => ?_).trans (keepBlk (below_alloc1 w5 _) HZ5.out.2)
              exact own_ne HR5.out HZ5.out.2 (by decide) e.symm rfl
            have hbWr : Below w1.heap.size w1 W := ((hb.trans (HZ5.out.1.mono hb.size)).trans ((below_alloc1 w5 _).mono (by have := HZ.out; omega))).grown hg6 (by have := HZ.out; simp; omega) fun g hg => (HR5.out.lt g hg).1
            obtain ⟨N, hN⟩ : ∃ N, N = A.length + 1 := ⟨_, rfl⟩
            have ho7 : W.ownsRow w1.heap.size SzT 2 v6 N (rc szE (A ++ [(x.1, 0)])) := by rw [hN]; exact ho6
            obtain ⟨g, cg, cur6, hv6, -, hcN, -, -, -⟩ := own_form ho7 (by omega)
            subst hv6
            have hrW : W.ownsRow w1.heap.size SzT 2 (.slice (some ⟨g, 0, none⟩) N cg) (A ++ [((x.1, 0) : Sz)]).length (rc szE (A ++ [(x.1, 0)])) := by rw [List.length_append]; exact ho6
            obtain ⟨m, hm⟩ : ∃ m, m = A.length := ⟨_, rfl⟩
            have n1 : ((N : Nat) : Int) - 1 = (m : Int) := by omega
            have n2 : (0 : Int) ≤ (m : Int) := by omega
            have n3 : (m : Int) < (N : Int) := by omega
            have n4 : IntKind.i64.wrap (m : Int) = (m : Int) := wrap_small (by omega) (by have := HLEN.out; omega)
            have hz : (0 : Int) + t = t := by omega
            have n5 : IntKind.i64.wrap t = t := wrap_small (by omega) (by omega)
            have HM := hide (And.intro hm hN)
            clear ho6 hg6 hat6 ho7
            have HXW := hide hXW
            have x2 : W.cell? ⟨wr.heap.size, 2, none⟩ = some (.int .i64 x.2.2) := cell_of_block hXW 2
            have hyc := (Row.celled (own_mono hrW (Nat.zero_le _)) szE_len A.length (by simp)).2
            have y1 := hyc 1 (.int .i64 0) (by simp [szE])
            have fz : W.frozen? ⟨g, A.length * 2 + 1, none⟩ = false := (Row.there (own_mono hrW (Nat.zero_le _)) _ (by omega)).2
            have hgx : g ≠ wr.heap.size := fun e => own_ne hrW hXW (by decide) rfl e
            have hrN := own_setCell (j := A.length * 2 + 1) hrW (.int .i64 t)
            rw [rc_last] at hrN
            have HR9 := hide (And.intro hrN (And.intro hbWr (hrW.lt g rfl).1))
            rw [← hm] at y1 fz
            clear hXW hyc hrW hbWr hrN hm hN hcn
            go_wp2
            go_region_law (fail)
            go_wp2
            all_goals
              obtain ⟨hrN, hbN, hgg⟩ := HR9.out
              obtain ⟨hmm, hNN⟩ := HM.out
              rw [← hmm] at hrN
              refine ⟨⟨k + 1, by omega, by go_num, ?_, ?_⟩, by simp [intOf]; omega⟩
              · rw [HNX.out, List.length_append]
                rw [List.length_append] at hrN
                exact own_below hrN ((Below.refl _ _).drew)
              · exact ((hbN.setCell (p := ⟨g, m * 2 + 1, none⟩) hgg _).drew)
    · obtain rfl : k = L.length := by omega
      have i2 : ¬ (L.length : Int) < (L.length : Int) := by omega
      rw [List.take_length] at hrow
      go_wp2
      go_ret
      exact ⟨_, rfl, L, HO.out, own_mono hrow hb1.size, hb1.trans (hb.mono hb1.size)⟩

end Go.Proofs.YtgfmnffaknmcnaaGreatDoor.Sw
