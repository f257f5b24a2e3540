/- Layer 9, the document's answer: Do. -/
import Derived.Test.YthdempdiibjabaaTrOne
import Derived.Test.YthdempdiibjabaaOrMayT
import Derived.Test.YthdempdiibjabaaTbDoL
namespace Go.Proofs.Ythdempdiibjabaa.Tr
open Go.RowKit Go.Joins Go.Proofs.Ythdempdiibjabaa.Gk Go.Proofs.Ythdempdiibjabaa.Oq Go.Proofs.Ythdempdiibjabaa.Sp Go.Proofs.Ythdempdiibjabaa.Tb

theorem One_ref (l : List Rw) (x : Opn) (hok0 : Tok l) (hm : x.may = true) : OneR 53 l x (one l x) := by
  have hk := may_kind hm
  by_cases h1 : x.kind = 1 ∨ x.kind = 2 ∨ x.kind = 3
  · exact One_write l x hok0 hm h1
  · by_cases h2 : x.kind = 4 ∨ x.kind = 5
    · exact One_read l x hok0 h2
    · have h6 : x.kind = 6 := by omega
      refine One_many l x h6 ?_
      unfold Opn.may at hm
      rw [if_neg (by omega), if_neg (by omega), if_neg (by omega), if_pos h6] at hm
      simp only [Bool.and_eq_true] at hm
      exact Tb.within_iff hm.1.1.1.2
set_option maxRecDepth 100000 in
set_option maxHeartbeats 800000 in
theorem Fault_ref (a e : Int) (w : World) :
    Calls Try.prog 51 #[.int .i64 a, .int .i64 e] w fun r w' => r = .returned (.agg #[.int .i64 a, .int .i64 e]) ∧ Below w.heap.size w w' := by
  go_enter Try.func51, Try.ntmps51
  go_wp2
  exact bodyPost_ret (v := .agg #[.int .i64 a, .int .i64 e]) (by simp [results, Try.results51, go_sem]) rfl ⟨rfl, (Below.refl _ _).alloc (Nat.le_refl _) _⟩

theorem Turn.more {br : Nat} {w w2 w3 : World} (h : Turn br w w2) (hb : Below w.heap.size w2 w3) : Turn br w w3 :=
  ⟨hb.os.trans h.os, hb.tape.trans h.tape, hb.output.trans h.output, Nat.le_trans h.size hb.size, fun k hk hn => (hb.block k hk).trans (h.block k hk hn)⟩
theorem RH.other {W W' : World} {bt : Nat} {l : List Rw} (h : RH W bt l) {b : Nat} {cs : Array Value} {T : TypeId} (hb : W.heap[b]? = some (.cells cs T (0, 0))) (hT : T ≠ RowT) (hT' : T ≠ RTabT) (hs : ∀ k, k ≠ b → W'.heap[k]? = W.heap[k]?) : RH W' bt l := by
  obtain ⟨hok, a, cap, hg, hr⟩ := h
  refine ⟨hok, a, cap, (hs bt ?_).trans hg, hr.other hb hT hs⟩
  rintro rfl
  rw [hb] at hg
  simp only [Option.some.injEq, Obj.cells.injEq] at hg
  exact hT' hg.2.1

/-- what the document's Do leaves -/
structure RDo (br : Nat) (w : World) (an : Ans × List Rw) (ra : Option Addr) (rl : List RsA) (w' : World) : Prop where
  eqs : rl.map RsA.r = an.1.res
  res : ResL w' ra rl
  tab : RH w' br an.2
  turn : Turn br w w'
  own : ∀ g, tabBlk w' br = some g → tabBlk w br = some g ∨ w.heap.size ≤ g

/-- between two operations of one micro-transaction -/
structure DI (w : World) (br : Nat) (a0 : Option Addr) (c0 : Nat) (l l' : List Rw) (rs' : List Rs) (v : Value) (rl : List RsA) (wr : World) : Prop where
  tab : RH wr br l'
  row : wr.ownsRow w.heap.size ResT 4 v rl.length (rc rsenc rl)
  eqs : rl.map RsA.r = rs'
  rows : ∀ x ∈ rl, RL wr x.a x.cap x.r.rows
  turn : Turn br w wr
  box : wr.heap[w.heap.size]? = some (.cells #[.int .i64 0, .int .i64 0] FltT (0, 0))
  was : RL wr a0 c0 l
  own : ∀ g, tabBlk wr br = some g → tabBlk w br = some g ∨ w.heap.size ≤ g
section
variable {w wr w2 : World} {br : Nat} {a0 : Option Addr} {c0 : Nat} {l l' : List Rw} {rs' : List Rs} {v v' : Value} {rl : List RsA} {R : RsA} {res : Rs × List Rw}
theorem DI.call (h : DI w br a0 c0 l l' rs' v rl wr) (hb : Below wr.heap.size wr w2) : DI w br a0 c0 l l' rs' v rl w2 :=
  ⟨h.tab.below hb, Gk.own_below h.row hb, h.eqs, fun x hx => (h.rows x hx).below hb, h.turn.trans (Only.of_below hb), (hb.block _ (Array.getElem?_eq_some_iff.1 h.box).1).trans h.box, h.was.below hb, fun g hg => h.own g (by rw [← hg]; exact (tabBlk_same (hb.block br h.tab.lt)).symm)⟩
theorem DI.one (h : DI w br a0 c0 l l' rs' v rl wr) (hlt : br < w.heap.size) (hP : RsP br wr res R w2) : DI w br a0 c0 l res.2 rs' v rl w2 := by
  obtain ⟨_, a, cap, hg, _⟩ := id h.tab
  refine ⟨hP.tab, own_stay h.row fun g hg2 => hP.turn.block g (h.row.lt g hg2).2 (own_ne h.row hg (by decide) hg2), h.eqs, fun y hy => RL.turnR (h.rows y hy) h.tab hP.turn, h.turn.trans hP.turn, (hP.turn.block _ (Array.getElem?_eq_some_iff.1 h.box).1 (by show w.heap.size ≠ br; omega)).trans h.box, RL.turnR h.was h.tab hP.turn, fun g hg => (hP.own g hg).elim (h.own g) (fun h1 => Or.inr (Nat.le_trans h.turn.size h1))⟩
theorem DI.push (h : DI w br a0 c0 l l' rs' v rl wr) (hR : RL wr R.a R.cap R.r.rows) (hown : w2.ownsRow w.heap.size ResT 4 v' (rl ++ [R]).length (rc rsenc (rl ++ [R]))) (hg : wr.grownBy w2 v.ownBlock) : DI w br a0 c0 l l' (rs' ++ [R.r]) v' (rl ++ [R]) w2 := by
  have hRL : ∀ {a : Option Addr} {cap : Nat} {m : List Rw}, RL wr a cap m → RL w2 a cap m := fun hr => hr.stay fun g hgb => by
    obtain ⟨cur, hc⟩ := hr.lt hgb
    exact hg.block g (Array.getElem?_eq_some_iff.1 hc).1 fun e => own_ne h.row hc (by decide) e.symm rfl
  obtain ⟨hok, a, cap, hgt, hr⟩ := id h.tab
  refine ⟨⟨hok, a, cap, (hg.block br (Array.getElem?_eq_some_iff.1 hgt).1 fun e => own_ne h.row hgt (by decide) e.symm rfl).trans hgt, hRL hr⟩, hown, by rw [List.map_append, h.eqs]; rfl, fun x hx => ?_, ?_, (hg.block _ (Array.getElem?_eq_some_iff.1 h.box).1 fun e => own_ne h.row h.box (by decide) e.symm rfl).trans h.box, hRL h.was, fun g hg' => h.own g (by rw [← hg']; exact (tabBlk_same (hg.block br (Array.getElem?_eq_some_iff.1 hgt).1 fun e => own_ne h.row hgt (by decide) e.symm rfl)).symm)⟩
  · rcases List.mem_append.1 hx with h1 | h1
    · exact hRL (h.rows x h1)
    · rw [List.mem_singleton.1 h1]; exact hRL hR
  · exact Turn.more h.turn ((Below.refl _ _).grown hg h.turn.size (fun k hk => (h.row.lt k hk).1))
end

set_option maxRecDepth 100000 in
set_option maxHeartbeats 1600000 in
theorem Do_ref (br : Nat) (l : List Rw) (a : Option Addr) (cap : Nat) (ops : List Opn) (w : World) (hR : RH w br l) (hl : Lies w oenc a ops) :
    Calls Try.prog 30 #[ptr br, .slice a ops.length cap] w fun e w' => ∃ ra rcap rl, e = .returned (DoV (dos l ops).1 ra rl.length rcap) ∧ RDo br w (dos l ops) ra rl w' := by
  have hlt := hR.lt
  have hb0 := below_a1 w (.cells #[.int .i64 0, .int .i64 0] FltT)
  have h0 := heap_alloc_new w (.cells #[.int .i64 0, .int .i64 0] FltT)
  by_cases hn : ops.length < 1 ∨ 32 < ops.length
  · have hd : dos l ops = (⟨[], 0, 80⟩, l) := by unfold dos; rw [if_pos hn]
    rw [hd]
    rcases hn with hn | hn
    case' inl => have i1 : (ops.length : Int) < 1 := by omega
    case' inr => have i1 : (32 : Int) < (ops.length : Int) := by omega
    all_goals
      go_enter Try.func30, Try.ntmps30
      go_wp2_with fail
      refine (Fault_ref 0 80 _).mono ?_
      rintro e w1 ⟨rfl, hb1⟩
      have hb2 := hide (hb0.trans (hb1.mono hb0.size))
      have hR1 := (hb1.block _ (Array.getElem?_eq_some_iff.1 h0).1).trans h0
      have r0 : w1.cell? ⟨w.heap.size, 0, none⟩ = some (.int .i64 0) := cellB hR1 0 rfl
      have r1 : w1.cell? ⟨w.heap.size, 1, none⟩ = some (.int .i64 0) := cellB hR1 1 rfl
      have f0 := unfrozen_of_block hR1 0
      have f1 := unfrozen_of_block hR1 1
      clear hb1 hR1 h0 hb0
      go_wp2
      refine bodyPost_ret (v := DoV ⟨[], 0, 80⟩ none 0 0) (by simp [results, Try.results30, go_sem, r0, r1]) rfl ?_
      have hfin := set2_below hb2.out (Nat.le_refl _) (.int .i64 0) (.int .i64 80)
      exact ⟨none, 0, [], rfl, rfl, ⟨Or.inl rfl, by simp⟩, hR.below hfin, Only.of_below hfin, fun g hg => Or.inl (by rw [← hg]; exact (tabBlk_same (hfin.block br hlt)).symm)⟩
  · have hn1 : 1 ≤ ops.length := by omega
    have hn2 : ops.length ≤ 32 := by omega
    have i1 : ¬ (ops.length : Int) < 1 := by omega
    have i2 : ¬ (32 : Int) < (ops.length : Int) := by omega
    clear hn
    go_enter Try.func30, Try.ntmps30
    go_wp2
    go_loopw [6] (fun i wr => ∃ k : Nat, k ≤ ops.length ∧ i = .int .i64 k ∧ Hid (∀ x ∈ ops.take k, x.may = true) ∧ wr.heap[w.heap.size]? = some (.cells #[.int .i64 0, .int .i64 0] FltT (0, 0)) ∧ Below w.heap.size w wr) (fun i _ => ops.length - (intOf i).toNat)
    case atStart => exact ⟨0, Nat.zero_le _, rfl, hide (by simp), h0, hb0⟩
    case round =>
      clear h0 hb0
      obtain ⟨k, hk, rfl, HMay, hR1, hbel⟩ := hrel
      have hwr := hbel.size
      by_cases hlt2 : k < ops.length
      · obtain ⟨b, off, rfl, hbl, hc⟩ := (hl.below hbel).at (k := 6) oenc_len k hlt2
        have c0 := hc 0 _ rfl
        have c1 := hc 1 _ rfl
        have c2 := hc 2 _ rfl
        have c3 := hc 3 _ rfl
        have c4 := hc 4 _ rfl
        have c5 := hc 5 _ rfl
        rw [Nat.add_zero] at c0
        clear hc
        have j1 : (0 : Int) ≤ (k : Int) := by omega
        have j2 : (k : Int) < (ops.length : Int) := by omega
        have HBad : Hid (ops[k].may = false → dos l ops = (⟨[], k, 80⟩, l)) := fun h => by
          unfold dos
          rw [if_neg (by omega), badAt_at hlt2 HMay.out h]
        have HGo : Hid (ops[k].may = true → ∀ x ∈ ops.take (k + 1), x.may = true) := fun h x hx => by
          rw [List.take_succ_eq_append_getElem hlt2] at hx
          rcases List.mem_append.1 hx with h1 | h1
          · exact HMay.out x h1
          · rw [List.mem_singleton.1 h1]; exact h
        generalize ops[k] = x at *
        have hMy := fun W => May_ref x W
        cases hm : x.may
        · rw [hm] at hMy
          have HD := hide (HBad.out hm)
          clear HBad HGo
          go_wp2_with fail
          refine (hMy _).mono ?_
          rintro e w1 ⟨rfl, hb1⟩
          have hb2 := hbel.trans (hb1.mono hbel.size)
          have hR2 := (hb1.block _ (Array.getElem?_eq_some_iff.1 hR1).1).trans hR1
          clear hb1 c0 c1 c2 c3 c4 c5
          go_wp2_with fail
          refine (Fault_ref k 80 _).mono ?_
          rintro e w2 ⟨rfl, hb3⟩
          have hb4 := hide (hb2.trans (hb3.mono hb2.size))
          have hR3 := (hb3.block _ (Array.getElem?_eq_some_iff.1 hR2).1).trans hR2
          have r0 : w2.cell? ⟨w.heap.size, 0, none⟩ = some (.int .i64 0) := cellB hR3 0 rfl
          have r1 : w2.cell? ⟨w.heap.size, 1, none⟩ = some (.int .i64 0) := cellB hR3 1 rfl
          have f0 := unfrozen_of_block hR3 0
          have f1 := unfrozen_of_block hR3 1
          clear hb3 hR3 hR2 hb2
          go_wp2
          refine bodyPost_ret (v := DoV ⟨[], k, 80⟩ none 0 0) (by simp [results, Try.results30, go_sem, r0, r1]) rfl ?_
          have hfin := set2_below hb4.out (Nat.le_refl _) (.int .i64 k) (.int .i64 80)
          rw [HD.out]
          exact ⟨none, 0, [], rfl, rfl, ⟨Or.inl rfl, by simp⟩, hR.below hfin, Only.of_below hfin, fun g hg => Or.inl (by rw [← hg]; exact (tabBlk_same (hfin.block br hlt)).symm)⟩
        · rw [hm] at hMy
          have HG := hide (HGo.out hm)
          clear HBad HGo
          go_wp2_with fail
          refine (hMy _).mono ?_
          rintro e w1 ⟨rfl, hb1⟩
          have hb2 := hbel.trans (hb1.mono hbel.size)
          have hR2 := (hb1.block _ (Array.getElem?_eq_some_iff.1 hR1).1).trans hR1
          clear hb1 c0 c1 c2 c3 c4 c5
          go_wp2
          exact ⟨⟨k + 1, by omega, by go_num, HG, hR2, hb2⟩, by simp [intOf]; omega⟩
      · have hkl : k = ops.length := by omega
        have HAll : Hid (∀ x ∈ ops, x.may = true) := by have := HMay.out; rw [hkl, List.take_length] at this; exact this
        have j2 : ¬ (k : Int) < (ops.length : Int) := by omega
        clear HMay hkl
        by_cases h1 : ops.length = 1
        · have hlt0 : 0 < ops.length := by omega
          obtain ⟨b, off, rfl, hbl, hc⟩ := (hl.below hbel).at (k := 6) oenc_len 0 hlt0
          have c0 := hc 0 _ rfl
          have c1 := hc 1 _ rfl
          have c2 := hc 2 _ rfl
          have c3 := hc 3 _ rfl
          have c4 := hc 4 _ rfl
          have c5 := hc 5 _ rfl
          simp only [Nat.zero_mul, Nat.add_zero] at c0 c1 c2 c3 c4 c5
          clear hc
          have HX : Hid (ops = [ops[0]]) := by
            show _ = _
            match ops, h1 with
            | [y], _ => rfl
          have hmx := HAll.out _ (List.getElem_mem hlt0)
          generalize ops[0] = x at *
          have HD : Hid (dos l ops = (⟨[(one l x).1], 0, 0⟩, (one l x).2)) := by
            show _ = _
            rw [HX.out, dos_ok (ops := [x]) (fun y hy => by rw [List.mem_singleton.1 hy]; exact hmx) (by simp) (by simp) (fun h => by simp at h)]
            rfl
          have e1 : ((ops.length : Int) == 1) = true := by rw [h1]; rfl
          have e2 : (0 : Int) < (ops.length : Int) := by omega
          have hOne := One_ref l x hR.1 hmx br wr (hR.below hbel)
          clear HX HAll h1
          go_wp2_with fail
          refine hOne.mono ?_
          rintro e w2 ⟨R, rfl, hP⟩
          have hR2 := (hP.turn.block _ (Array.getElem?_eq_some_iff.1 hR1).1 (by show w.heap.size ≠ br; omega)).trans hR1
          have hz2 := (Array.getElem?_eq_some_iff.1 hR2).1
          have r0 : w2.cell? ⟨w.heap.size, 0, none⟩ = some (.int .i64 0) := cellB hR2 0 rfl
          have r1 : w2.cell? ⟨w.heap.size, 1, none⟩ = some (.int .i64 0) := cellB hR2 1 rfl
          have f0 := unfrozen_of_block hR2 0
          have f1 := unfrozen_of_block hR2 1
          obtain ⟨⟨rc, rst, rv, rr⟩, ra, rcap⟩ := R
          clear hOne c0 c1 c2 c3 c4 c5
          go_wp2
          refine bodyPost_ret (v := DoV ⟨[⟨rc, rst, rv, rr⟩], 0, 0⟩ (some ⟨w2.heap.size + 1, 0, none⟩) 1 1) (by simp [results, Try.results30, go_sem, r0, r1, hz2]) rfl ?_
          have hs2 := set2_other w2 w.heap.size
          have hb3 := set2_below (Below.refl w.heap.size w2) (Nat.le_refl _) (.int .i64 0) (.int .i64 0)
          have hz3 : (set2 w2 w.heap.size (.int .i64 0) (.int .i64 0)).heap.size = w2.heap.size := by simp
          have hb4 := below_a2 (set2 w2 w.heap.size (.int .i64 0) (.int .i64 0)) (.cells #[.int .i64 rc, .int .i64 rst, .string rv, .slice ra rr.length rcap] ResT) (.cells #[.int .i64 rc, .int .i64 rst, .string rv, .slice ra rr.length rcap] ResT)
          have hn4 := heap_alloc_new ((set2 w2 w.heap.size (.int .i64 0) (.int .i64 0)).alloc (.cells #[.int .i64 rc, .int .i64 rst, .string rv, .slice ra rr.length rcap] ResT)) (.cells #[.int .i64 rc, .int .i64 rst, .string rv, .slice ra rr.length rcap] ResT)
          rw [show ((set2 w2 w.heap.size (.int .i64 0) (.int .i64 0)).alloc (.cells #[.int .i64 rc, .int .i64 rst, .string rv, .slice ra rr.length rcap] ResT)).heap.size = w2.heap.size + 1 by simp] at hn4
          rw [HD.out]
          have hRq : (⟨rc, rst, rv, rr⟩ : Rs) = (one l x).1 := hP.eq
          refine ⟨some ⟨w2.heap.size + 1, 0, none⟩, 1, [⟨⟨rc, rst, rv, rr⟩, ra, rcap⟩], rfl, by rw [← hRq]; rfl, ⟨Or.inr ⟨_, 0, rfl, (Array.getElem?_eq_some_iff.1 hn4).1, fun j u hj => ?_⟩, fun y hy => ?_⟩, ?_, ?_, fun g hg => ?_⟩
          · rw [rc_one] at hj
            rw [cell_of_block hn4]
            simpa [rsenc] using hj
          · rw [List.mem_singleton.1 hy]
            exact (hP.rows.other hR2 (by decide) (fun k hk => hs2 k hk _ _)).below hb4
          · exact (hP.tab.other hR2 (by decide) (by decide) (fun k hk => hs2 k hk _ _)).below hb4
          · exact Turn.more ((Only.of_below hbel).trans hP.turn) (hb3.trans (hb4.mono (by rw [hz3]; exact Nat.le_of_lt hz2)))
          · have hb5 := hb3.trans (hb4.mono (by rw [hz3]; exact Nat.le_of_lt hz2))
            rw [tabBlk_same (hb5.block br hlt)] at hg
            rcases hP.own g hg with h1 | h1
            · exact Or.inl (by rw [← h1]; exact (tabBlk_same (hbel.block br hlt)).symm)
            · exact Or.inr (Nat.le_trans hbel.size h1)
        · have e1 : ((ops.length : Int) == 1) = false := by rw [beq_eq_false_iff_ne]; omega
          have hmore : 1 < ops.length := by omega
          obtain ⟨hok, a0, cp0, hg, hl0⟩ := id hR
          have hIs : DI w br a0 cp0 l l [] (.slice none 0 0) [] wr := ⟨hR.below hbel, World.ownsRow_nil _ _ _ _, rfl, by simp, Only.of_below hbel, hR1, hl0.below hbel, fun g hg => Or.inl (by rw [← hg]; exact (tabBlk_same (hbel.block br hlt)).symm)⟩
          have t0 : wr.cell? ⟨br, 0, none⟩ = some (.slice a0 l.length cp0) := cellB ((hbel.block br hlt).trans hg) 0 rfl
          clear h1 hR1 hbel hwr hlt2
          go_wp2
          clear t0
          go_loopw [9, 10] (fun v i wq => ∃ (j : Nat) (rl : List RsA), j ≤ ops.length ∧ i = .int .i64 j ∧ Hid (∀ r ∈ (runs l (ops.take j)).1, r.code = 0) ∧ DI w br a0 cp0 l (runs l (ops.take j)).2 (runs l (ops.take j)).1 v rl wq) (fun _ i _ => ops.length - (intOf i).toNat)
          case atStart => exact ⟨0, [], Nat.zero_le _, rfl, hide (fun r hr => by simp [runs] at hr), hIs⟩
          case round =>
            clear hIs
            obtain ⟨j, rl, hj, rfl, HZ, hI⟩ := hrel
            obtain ⟨av, cv, rfl⟩ := Gk.own_slice hI.row
            have hrk : Hid (rl.length = j) := by
              have h1 := congrArg List.length hI.eqs
              rw [List.length_map, runs_len, List.length_take] at h1
              show _ = _
              omega
            by_cases hlt2 : j < ops.length
            · obtain ⟨b, off, rfl, hbl, hc⟩ := hl.at (k := 6) oenc_len j hlt2
              have hne : b ≠ br := by
                rintro rfl
                have h1 := hc 1 _ rfl
                rw [cell_of_block hg] at h1
                simp at h1
              have hcc : ∀ t u, (oenc ops[j])[t]? = some u → wr.cell? ⟨b, off + j * 6 + t, none⟩ = some u := fun t u ht => (World.cell?_of_block (a := ⟨b, off + j * 6 + t, none⟩) (hI.turn.block b hbl hne)).trans (hc t u ht)
              have c0 := hcc 0 _ rfl
              have c1 := hcc 1 _ rfl
              have c2 := hcc 2 _ rfl
              have c3 := hcc 3 _ rfl
              have c4 := hcc 4 _ rfl
              have c5 := hcc 5 _ rfl
              rw [Nat.add_zero] at c0
              have HT := hide (List.take_succ_eq_append_getElem hlt2)
              have hmx := HAll.out _ (List.getElem_mem hlt2)
              have HFA : Hid ((one (runs l (ops.take j)).2 ops[j]).1.code ≠ 0 → dos l ops = (⟨[], j, (one (runs l (ops.take j)).2 ops[j]).1.code⟩, l)) := fun h2 => dos_fail HAll.out hmore hn2 hlt2 HZ.out h2
              clear hc hcc
              generalize ops[j] = x at *
              have HRS := hide (runs_snoc (ops.take j) l x)
              have hOne := One_ref _ x hI.tab.1 hmx br wr hI.tab
              have q1 : (0 : Int) ≤ (j : Int) := by omega
              have q2 : (j : Int) < (ops.length : Int) := by omega
              go_wp2_with fail
              refine hOne.mono ?_
              rintro e w2 ⟨R, rfl, hP⟩
              have hI2 := hI.one hlt hP
              have hRe := hP.eq
              have hRr := hP.rows
              obtain ⟨⟨rc, rst, rv, rr⟩, ra, rcap⟩ := R
              simp only at hRe hRr
              have HRE := hide hRe
              clear hRe
              clear hOne hP hI c0 c1 c2 c3 c4 c5
              by_cases hcz : rc = 0
              · have bcz : (rc != 0) = false := by simp [hcz]
                have HCZ := hide hcz
                clear hcz
                have hI3 := hI2.call (below_a1 w2 (.cells #[.int .i64 rc, .int .i64 rst, .string rv, .slice ra rr.length rcap] ResT))
                have hI4 := hI3.call (below_a1 _ (.cells (rsenc ⟨⟨rc, rst, rv, rr⟩, ra, rcap⟩).toArray ResT))
                have hRr4 := (hRr.below (below_a1 w2 (.cells #[.int .i64 rc, .int .i64 rst, .string rv, .slice ra rr.length rcap] ResT))).below (below_a1 _ (.cells (rsenc ⟨⟨rc, rst, rv, rr⟩, ra, rcap⟩).toArray ResT))
                have hn4 := heap_alloc_new (w2.alloc (.cells #[.int .i64 rc, .int .i64 rst, .string rv, .slice ra rr.length rcap] ResT)) (.cells (rsenc ⟨⟨rc, rst, rv, rr⟩, ra, rcap⟩).toArray ResT)
                rw [show (w2.alloc (.cells #[.int .i64 rc, .int .i64 rst, .string rv, .slice ra rr.length rcap] ResT)).heap.size = w2.heap.size + 1 by simp] at hn4
                have H4 := hide hI4
                have HR4 := hide hRr4
                have HN4 := hide hn4
                clear hI3 hI4 hRr4 hn4 hI2 hRr
                go_wp2_with (at_builtin; refine wpList_push (enc := rsenc) (k := 4) rfl (.tmp 73) (.tmp 75) RessT rfl ResT noRs 56 Try.underlying38 res_info rfl (by decide) rsenc_len rsenc_one w.heap.size _ rl rfl H4.out.row (w2.heap.size + 1) ⟨⟨rc, rst, rv, rr⟩, ra, rcap⟩ rfl HN4.out (by have := hrk.out; omega) (by have := hrk.out; omega) (Nat.le_trans H4.out.turn.size (Nat.le_refl _)) ?_; intro v5 w5 hown5 hg5 hat5; have H5 := hide (H4.out.push HR4.out hown5 hg5); clear hown5 hg5 hat5)
                have hC0 : Hid (∀ r ∈ (runs l (ops.take (j + 1))).1, r.code = 0) := by
                  intro r hr
                  rw [HT.out, HRS.out] at hr
                  rcases List.mem_append.1 hr with h1 | h1
                  · exact HZ.out r h1
                  · rw [List.mem_singleton.1 h1, ← HRE.out]; exact HCZ.out
                have H6 : Hid (DI w br a0 cp0 l (runs l (ops.take (j + 1))).2 (runs l (ops.take (j + 1))).1 v5 (rl ++ [⟨⟨rc, rst, rv, rr⟩, ra, rcap⟩]) w5) := by
                  rw [HT.out, HRS.out, ← HRE.out]
                  exact H5.out
                exact ⟨⟨j + 1, rl ++ [⟨⟨rc, rst, rv, rr⟩, ra, rcap⟩], by omega, by go_num, hC0, H6.out⟩, by simp [intOf]; omega⟩
              · have bcz : (rc != 0) = true := by simp [hcz]
                have HFD : Hid (dos l ops = (⟨[], j, rc⟩, l)) := by
                  have h1 : (one (runs l (ops.take j)).2 x).1.code = rc := by rw [← HRE.out]
                  have h2 := HFA.out (by rw [h1]; exact hcz)
                  rw [h1] at h2
                  exact h2
                obtain ⟨_, a2, cp2, hg2, _⟩ := id hI2.tab
                have t2 : w2.cell? ⟨br, 0, none⟩ = some (.slice a2 (one (runs l (ops.take j)).2 x).2.length cp2) := cellB hg2 0 rfl
                have ft2 := unfrozen_of_block hg2 0
                have hbr2 := (Array.getElem?_eq_some_iff.1 hg2).1
                have HR3 := hide (RH.put hg2 hI2.was hok)
                have HT3 : Hid (Turn br w (w2.setCell ⟨br, 0, none⟩ (.slice a0 l.length cp0))) := hI2.turn.trans (Only.of_set (own := fun b => b = br) _ rfl _)
                have HB3 : Hid ((w2.setCell ⟨br, 0, none⟩ (.slice a0 l.length cp0)).heap[w.heap.size]? = some (.cells #[.int .i64 0, .int .i64 0] FltT (0, 0))) := (Below.heap_setCell _ _ _ _ (by show w.heap.size ≠ br; omega)).trans hI2.box
                clear hI2 hRr HFA HZ HT HRS HRE hcz
                go_wp2_with fail
                refine (Fault_ref j rc _).mono ?_
                rintro e w3 ⟨rfl, hb3⟩
                have hba := below_a1 (w2.setCell ⟨br, 0, none⟩ (.slice a0 l.length cp0)) (.cells #[.int .i64 rc, .int .i64 rst, .string rv, .slice ra rr.length rcap] ResT)
                have hb4 := hba.trans (hb3.mono hba.size)
                have hR5 := (hb4.block _ (Array.getElem?_eq_some_iff.1 HB3.out).1).trans HB3.out
                have r0 : w3.cell? ⟨w.heap.size, 0, none⟩ = some (.int .i64 0) := cellB hR5 0 rfl
                have r1 : w3.cell? ⟨w.heap.size, 1, none⟩ = some (.int .i64 0) := cellB hR5 1 rfl
                have f0 := unfrozen_of_block hR5 0
                have f1 := unfrozen_of_block hR5 1
                have HR6 := hide (HR3.out.below hb4)
                have HW6 : Hid (∀ g, tabBlk w3 br = some g → tabBlk w br = some g) := fun g hgb => by
                  rw [tabBlk_same (hb4.block br HR3.out.lt), tabBlk_isR (block_setCell hg2 _)] at hgb
                  rw [tabBlk_isR hg]; exact hgb
                have HT6 : Hid (Turn br w w3) := HT3.out.trans (Only.of_below hb4)
                have H5 := hide hR5
                clear hba hb4 hb3 hR5 t2 ft2 hbr2 HR3 HT3 HB3 hg2
                go_wp2
                refine bodyPost_ret (v := DoV ⟨[], j, rc⟩ none 0 0) (by simp [results, Try.results30, go_sem, r0, r1]) rfl ?_
                have hs2 := set2_other w3 w.heap.size
                have hb3 := set2_below (Below.refl w.heap.size w3) (Nat.le_refl _) (.int .i64 j) (.int .i64 rc)
                rw [HFD.out]
                exact ⟨none, 0, [], rfl, rfl, ⟨Or.inl rfl, by simp⟩, HR6.out.other H5.out (by decide) (by decide) (fun k hk => hs2 k hk _ _), Turn.more HT6.out hb3, fun g hg => Or.inl (HW6.out g (by rw [← hg]; exact (tabBlk_same (hb3.block br hlt)).symm))⟩
            · have q2 : ¬ (j : Int) < (ops.length : Int) := by omega
              have hje : j = ops.length := by omega
              have HE : Hid (dos l ops = (⟨(runs l ops).1, 0, 0⟩, (runs l ops).2)) := by
                have := HZ.out
                rw [hje, List.take_length] at this
                exact dos_ok HAll.out (by omega) hn2 (fun _ => this)
              rw [hje, List.take_length] at hI
              have r0 : wr.cell? ⟨w.heap.size, 0, none⟩ = some (.int .i64 0) := cellB hI.box 0 rfl
              have r1 : wr.cell? ⟨w.heap.size, 1, none⟩ = some (.int .i64 0) := cellB hI.box 1 rfl
              have f0 := unfrozen_of_block hI.box 0
              have f1 := unfrozen_of_block hI.box 1
              have HI := hide hI
              clear HZ hrk hje hI
              go_wp2
              refine bodyPost_ret (v := DoV ⟨(runs l ops).1, 0, 0⟩ av rl.length cv) (by simp [results, Try.results30, go_sem, r0, r1]) rfl ?_
              have hs2 := set2_other wr w.heap.size
              have hb3 := set2_below (Below.refl w.heap.size wr) (Nat.le_refl _) (.int .i64 0) (.int .i64 0)
              have hI := HI.out
              rw [HE.out]
              refine ⟨av, cv, rl, rfl, hI.eqs, ⟨(Row.lies (enc := rsenc) (k := 4) (own_mono (own_stay hI.row fun g hgg => hs2 g (own_ne hI.row hI.box (by decide) hgg) _ _) (Nat.zero_le _))), fun y hy => (hI.rows y hy).other hI.box (by decide) (fun k hk => hs2 k hk _ _)⟩, hI.tab.other hI.box (by decide) (by decide) (fun k hk => hs2 k hk _ _), Turn.more hI.turn hb3, fun g hg => hI.own g (by rw [← hg]; exact (tabBlk_same (hb3.block br hlt)).symm)⟩

end Go.Proofs.Ythdempdiibjabaa.Tr
