/- Layer 9: walks over table.go: Do. -/
import Derived.Test.YthdempdiibjabaaTbDo
namespace Go.Proofs.Ythdempdiibjabaa.Tb
open Go.RowKit Go.Joins Go.Proofs.Ythdempdiibjabaa.Gk Go.Proofs.Ythdempdiibjabaa.Oq Go.Proofs.Ythdempdiibjabaa.Sp

theorem runs_snoc : ∀ (a : List Opn) (l : List Rw) (x : Opn), runs l (a ++ [x]) = ((runs l a).1 ++ [(one (runs l a).2 x).1], (one (runs l a).2 x).2)
  | [], l, x => rfl
  | y :: a, l, x => by
    show runs l (y :: (a ++ [x])) = _
    rw [runs, runs_snoc a]
    rfl
theorem runs_len : ∀ (a : List Opn) (l : List Rw), (runs l a).1.length = a.length
  | [], _ => rfl
  | y :: a, l => by rw [runs]; simp [runs_len a]
theorem runs_take : ∀ (a : List Opn) (l : List Rw) (k : Nat), (runs l (a.take k)).1 = (runs l a).1.take k
  | [], _, k => by simp [runs]
  | y :: a, l, 0 => by simp [runs]
  | y :: a, l, k + 1 => by rw [List.take_succ_cons, runs, runs, List.take_succ_cons, runs_take a]

theorem RL.other {W W' : World} {a : Option Addr} {cap : Nat} {l : List Rw} (h : RL W a cap l) {b : Nat} {cs : Array Value} {T : TypeId} (hb : W.heap[b]? = some (.cells cs T (0, 0))) (hT : T ≠ RowT) (hs : ∀ k, k ≠ b → W'.heap[k]? = W.heap[k]?) : RL W' a cap l := by
  refine h.stay fun g hg => hs g ?_
  rintro rfl
  obtain ⟨cur, hc⟩ := h.lt hg
  rw [hb] at hc
  simp only [Option.some.injEq, Obj.cells.injEq] at hc
  exact hT hc.2.1
theorem TH.other {W W' : World} {bt : Nat} {l : List Rw} (h : TH W bt l) {b : Nat} {cs : Array Value} {T : TypeId} (hb : W.heap[b]? = some (.cells cs T (0, 0))) (hT : T ≠ RowT) (hT' : T ≠ TabT) (hs : ∀ k, k ≠ b → W'.heap[k]? = W.heap[k]?) : TH W' bt l := by
  obtain ⟨hok, a, cap, hg, hr⟩ := h
  refine ⟨hok, a, cap, (hs bt ?_).trans hg, hr.other hb hT hs⟩
  rintro rfl
  rw [hb] at hg
  simp only [Option.some.injEq, Obj.cells.injEq] at hg
  exact hT' hg.2.1

/-- how far a micro-transaction has come -/
structure DoI (w : World) (ob : Option Nat) (bd : Nat) (l : List Rw) (ops : List Opn) (v : Value) (rl : List RsA) (wr : World) : Prop where
  tab : TH wr bd (runs l ops).2
  row : wr.ownsRow w.heap.size ResT 4 v rl.length (rc rsenc rl)
  eqs : rl.map RsA.r = (runs l ops).1
  rows : ∀ x ∈ rl, RL wr x.a x.cap x.r.rows
  new : ∀ x ∈ rl, ∀ g, blk x.a = some g → w.heap.size ≤ g
  bel : Below w.heap.size w wr
  low : w.heap.size < bd
  own : ∀ g, tabBlk wr bd = some g → ob = some g ∨ w.heap.size ≤ g
  apart : ∀ x ∈ rl, ∀ g, blk x.a = some g → tabBlk wr bd ≠ some g
section
variable {w wr w2 : World} {ob : Option Nat} {bd : Nat} {l : List Rw} {ops : List Opn} {v : Value} {rl : List RsA} {R : RsA}
theorem DoI.call (h : DoI w ob bd l ops v rl wr) (hb : Below wr.heap.size wr w2) : DoI w ob bd l ops v rl w2 :=
  ⟨h.tab.below hb, Gk.own_below h.row hb, h.eqs, fun x hx => (h.rows x hx).below hb, h.new, h.bel.trans (hb.mono h.bel.size), h.low, fun g hg => h.own g (by rw [← hg]; exact (tabBlk_same (hb.block bd h.tab.lt)).symm), fun x hx g hg => by rw [tabBlk_same (hb.block bd h.tab.lt)]; exact h.apart x hx g hg⟩
theorem turn_below {bd : Nat} (h : Below w.heap.size w wr) (hl : w.heap.size ≤ bd) (ht : Turn bd wr w2) : Below w.heap.size w w2 :=
  h.trans (Only.below ht h.size (fun b hb => by rw [hb]; exact hl))
/-- one operation more, its result not yet put in -/
structure DoJ (w : World) (ob : Option Nat) (bd : Nat) (l : List Rw) (ops : List Opn) (v : Value) (rl : List RsA) (x : Opn) (R : RsA) (wr : World) : Prop where
  tab : TH wr bd (one (runs l ops).2 x).2
  row : wr.ownsRow w.heap.size ResT 4 v rl.length (rc rsenc rl)
  eqs : rl.map RsA.r = (runs l ops).1
  rows : ∀ x ∈ rl, RL wr x.a x.cap x.r.rows
  new : ∀ x ∈ rl, ∀ g, blk x.a = some g → w.heap.size ≤ g
  bel : Below w.heap.size w wr
  low : w.heap.size < bd
  own : ∀ g, tabBlk wr bd = some g → ob = some g ∨ w.heap.size ≤ g
  eq : R.r = (one (runs l ops).2 x).1
  rr : RL wr R.a R.cap R.r.rows
  rn : ∀ g, blk R.a = some g → w.heap.size ≤ g
  apart : ∀ x ∈ rl, ∀ g, blk x.a = some g → tabBlk wr bd ≠ some g
  rp : ∀ g, blk R.a = some g → tabBlk wr bd ≠ some g
theorem DoI.one (h : DoI w ob bd l ops v rl wr) {x : Opn} (hP : ResP bd wr (one (runs l ops).2 x) R w2) : DoJ w ob bd l ops v rl x R w2 := by
  obtain ⟨hok, a, cap, hg, _⟩ := id h.tab
  refine ⟨hP.tab, own_stay h.row fun g hg2 => hP.turn.block g (h.row.lt g hg2).2 ?_, h.eqs, fun y hy => (h.rows y hy).turn h.tab hP.turn, h.new, turn_below h.bel (Nat.le_of_lt h.low) hP.turn, h.low, fun g hg => (hP.own g hg).elim (h.own g) (fun h1 => Or.inr (Nat.le_trans h.bel.size h1)), hP.eq, hP.rows, fun g hg => Nat.le_trans h.bel.size (hP.new g hg), fun y hy g hgy hq => ?_, hP.apart⟩
  · exact own_ne h.row hg (by decide) hg2
  · rcases hP.own g hq with h1 | h1
    · exact h.apart y hy g hgy h1
    · obtain ⟨cur, hc⟩ := (h.rows y hy).lt hgy
      have := (Array.getElem?_eq_some_iff.1 hc).1
      omega
theorem DoJ.call {x : Opn} (h : DoJ w ob bd l ops v rl x R wr) (hb : Below wr.heap.size wr w2) : DoJ w ob bd l ops v rl x R w2 :=
  ⟨h.tab.below hb, Gk.own_below h.row hb, h.eqs, fun x hx => (h.rows x hx).below hb, h.new, h.bel.trans (hb.mono h.bel.size), h.low, fun g hg => h.own g (by rw [← hg]; exact (tabBlk_same (hb.block bd h.tab.lt)).symm), h.eq, h.rr.below hb, h.rn, fun x hx g hg => by rw [tabBlk_same (hb.block bd h.tab.lt)]; exact h.apart x hx g hg, fun g hg => by rw [tabBlk_same (hb.block bd h.tab.lt)]; exact h.rp g hg⟩
/-- .. and put in -/
theorem DoJ.push {x : Opn} {v' : Value} (h : DoJ w ob bd l ops v rl x R wr) (hown : w2.ownsRow w.heap.size ResT 4 v' (rl ++ [R]).length (rc rsenc (rl ++ [R]))) (hg : wr.grownBy w2 v.ownBlock) : DoI w ob bd l (ops ++ [x]) v' (rl ++ [R]) w2 := by
  have hRL : ∀ {a : Option Addr} {cap : Nat} {m : List Rw}, RL wr a cap m → RL w2 a cap m := fun hr => hr.stay fun g hgb => by
    obtain ⟨cur, hc⟩ := hr.lt hgb
    exact hg.block g (Array.getElem?_eq_some_iff.1 hc).1 fun e => own_ne h.row hc (by decide) e.symm rfl
  obtain ⟨hok, a, cap, hgt, hr⟩ := id h.tab
  refine ⟨?_, hown, by rw [List.map_append, h.eqs, runs_snoc, List.map_singleton, h.eq], fun y hy => ?_, fun y hy => ?_, h.bel.grown hg h.bel.size (fun k hk => (h.row.lt k hk).1), h.low, fun q hq => h.own q (by rw [← hq]; exact (tabBlk_same (hg.block bd (Array.getElem?_eq_some_iff.1 hgt).1 fun e => own_ne h.row hgt (by decide) e.symm rfl)).symm), fun y hy q hq => ?_⟩
  · rw [runs_snoc]
    exact ⟨hok, a, cap, (hg.block bd (Array.getElem?_eq_some_iff.1 hgt).1 fun e => own_ne h.row hgt (by decide) e.symm rfl).trans hgt, hRL hr⟩
  · rcases List.mem_append.1 hy with hy | hy
    · exact hRL (h.rows y hy)
    · rw [List.mem_singleton.1 hy]; exact hRL h.rr
  · rcases List.mem_append.1 hy with hy | hy
    · exact h.new y hy
    · rw [List.mem_singleton.1 hy]; exact h.rn
  · rw [tabBlk_same (hg.block bd (Array.getElem?_eq_some_iff.1 hgt).1 fun e => own_ne h.row hgt (by decide) e.symm rfl)]
    rcases List.mem_append.1 hy with hy | hy
    · exact h.apart y hy q hq
    · rw [List.mem_singleton.1 hy] at hq; exact h.rp q hq
end

theorem failAt_at {rl : List Rs} {k : Nat} (hk : k < rl.length) (hb : ∀ r ∈ rl.take k, r.code = 0) (hx : rl[k].code ≠ 0) : failAt rl = some k := by
  unfold failAt
  rw [List.findIdx?_eq_some_iff_getElem]
  refine ⟨hk, by simp [hx], fun j hj => ?_⟩
  have h1 : rl[j] ∈ rl.take k := by
    rw [List.mem_take_iff_getElem]; exact ⟨j, by omega, rfl⟩
  simp [hb _ h1]
theorem failAt_all {rl : List Rs} (hb : ∀ r ∈ rl, r.code = 0) : failAt rl = none := by
  unfold failAt
  rw [List.findIdx?_eq_none_iff]
  intro x hx
  simp [hb x hx]
theorem runs_at {ops : List Opn} {l : List Rw} {k : Nat} (hk : k < ops.length) : (runs l ops).1[k]'(by rw [runs_len]; exact hk) = (one (runs l (ops.take k)).2 ops[k]).1 := by
  have h1 : (runs l (ops.take (k + 1))).1 = (runs l ops).1.take (k + 1) := runs_take _ _ _
  rw [List.take_succ_eq_append_getElem hk, runs_snoc] at h1
  have hl : k < (runs l ops).1.length := by rw [runs_len]; exact hk
  rw [List.take_succ_eq_append_getElem hl] at h1
  have h2 := congrArg (fun m => m[k]?) h1
  have h3 : (runs l (ops.take k)).1.length = k := by rw [runs_len, List.length_take]; omega
  have h4 : ((runs l ops).1.take k).length = k := by rw [List.length_take]; omega
  simp only at h2
  rw [List.getElem?_append_right (by omega), List.getElem?_append_right (by omega), h3, h4, Nat.sub_self] at h2
  simpa using h2.symm
theorem dos_fail {ops : List Opn} {l : List Rw} {k : Nat} (hm : ∀ x ∈ ops, x.may = true) (h1 : 1 < ops.length) (h2 : ops.length ≤ 32) (hk : k < ops.length) (hz : ∀ r ∈ (runs l (ops.take k)).1, r.code = 0) (hc : (one (runs l (ops.take k)).2 ops[k]).1.code ≠ 0) : dos l ops = (⟨[], k, (one (runs l (ops.take k)).2 ops[k]).1.code⟩, l) := by
  have hl : k < (runs l ops).1.length := by rw [runs_len]; exact hk
  unfold dos
  rw [if_neg (by omega), badAt_all hm]
  simp only
  rw [if_neg (by omega), failAt_at hl (by rw [← runs_take]; exact hz) (by rw [runs_at hk]; exact hc)]
  simp only
  rw [List.getElem?_eq_getElem hl, runs_at hk]
  rfl
theorem dos_ok {ops : List Opn} {l : List Rw} (hm : ∀ x ∈ ops, x.may = true) (h1 : 1 ≤ ops.length) (h2 : ops.length ≤ 32) (hz : 1 < ops.length → ∀ r ∈ (runs l ops).1, r.code = 0) : dos l ops = (⟨(runs l ops).1, 0, 0⟩, (runs l ops).2) := by
  unfold dos
  rw [if_neg (by omega), badAt_all hm]
  simp only
  by_cases h : ops.length = 1
  · rw [if_pos h]
  · rw [if_neg h, failAt_all (hz (by omega))]
theorem dos_bad {ops : List Opn} (l : List Rw) (h : (chk ops).2 ≠ 0) : dos l ops = (⟨[], (chk ops).1, (chk ops).2⟩, l) := by
  unfold dos chk at *
  by_cases hn : ops.length < 1 ∨ 32 < ops.length
  · rw [if_pos hn]; simp only [if_pos hn]
  · rw [if_neg hn]; simp only [if_neg hn] at h ⊢
    cases hb : badAt ops with
    | some i => simp
    | none => rw [hb] at h; simp at h

/-- what Do's answer is -/
structure DoP (bt : Nat) (w : World) (an : Ans × List Rw) (ra : Option Addr) (rcap : Nat) (rl : List RsA) (w' : World) : Prop where
  eqs : rl.map RsA.r = an.1.res
  row : w'.ownsRow w.heap.size ResT 4 (.slice ra rl.length rcap) rl.length (rc rsenc rl)
  rows : ∀ x ∈ rl, RL w' x.a x.cap x.r.rows
  new : ∀ x ∈ rl, ∀ g, blk x.a = some g → w.heap.size ≤ g
  tab : TH w' bt an.2
  turn : Turn bt w w'
  own : ∀ g, tabBlk w' bt = some g → tabBlk w bt = some g ∨ w.heap.size ≤ g
  apart : ∀ x ∈ rl, ∀ g, blk x.a = some g → tabBlk w' bt ≠ some g
abbrev DoV (an : Ans) (ra : Option Addr) (n rcap : Nat) : Value := .tuple #[.slice ra n rcap, .agg #[.int .i64 an.at_, .int .i64 an.code]]

set_option maxRecDepth 100000 in
set_option maxHeartbeats 1600000 in
theorem Do_tb (bt : Nat) (l : List Rw) (a : Option Addr) (cap : Nat) (ops : List Opn) (w : World) (hT : TH w bt l) (hl : Lies w oenc a ops) :
    Calls Try.prog 15 #[ptr bt, .slice a ops.length cap] w fun e w' => ∃ ra rcap rl, e = .returned (DoV (dos l ops).1 ra rl.length rcap) ∧ DoP bt w (dos l ops) ra rcap rl w' := by
  have hC := fun W (hb : Below w.heap.size w W) => check_tb a cap ops W (hl.below hb)
  by_cases hcz : (chk ops).2 ≠ 0
  · have HD := hide (dos_bad l hcz)
    obtain ⟨an, han⟩ : ∃ an, an = dos l ops := ⟨_, rfl⟩
    rw [← han]
    have HAN := hide han
    have h0 := heap_alloc_new w (.cells #[.int .i64 0, .int .i64 0] FltT)
    have b1 : ((chk ops).2 != 0) = true := by simp [hcz]
    generalize chk ops = q at *
    obtain ⟨q1, q2⟩ := q
    simp only at b1 hcz hC HD
    clear han hcz
    go_enter Try.func15, Try.ntmps15
    go_wp2_with fail
    refine (hC _ (below_a1 _ _)).mono ?_
    rintro e w1 ⟨rfl, hb1⟩
    have hR1 := (hb1.block _ (Array.getElem?_eq_some_iff.1 h0).1).trans h0
    have HB1 := hide ((below_a1 w (.cells #[.int .i64 0, .int .i64 0] FltT)).trans (hb1.mono (by simp)))
    have hz1 := (Array.getElem?_eq_some_iff.1 hR1).1
    have r0 : w1.cell? ⟨w.heap.size, 0, none⟩ = some (.int .i64 0) := cellB hR1 0 rfl
    have r1 : w1.cell? ⟨w.heap.size, 1, none⟩ = some (.int .i64 0) := cellB hR1 1 rfl
    have f0 := unfrozen_of_block hR1 0
    have f1 := unfrozen_of_block hR1 1
    clear hb1 hR1 hC h0
    go_wp2_with fail
    obtain ⟨w4, hw4⟩ : ∃ w4, w4 = w1.alloc (.cells #[.int .i64 q1, .int .i64 q2] FltT) := ⟨_, rfl⟩
    have hb4 : Below w1.heap.size w1 w4 := by rw [hw4]; exact below_a1 _ _
    have k0 : w4.cell? ⟨w1.heap.size, 0, none⟩ = some (.int .i64 q1) := by rw [hw4]; exact cellB (heap_alloc_new w1 _) 0 rfl
    have k1 : w4.cell? ⟨w1.heap.size, 1, none⟩ = some (.int .i64 q2) := by rw [hw4]; exact cellB (heap_alloc_new w1 _) 1 rfl
    rw [← hw4]
    clear hw4
    have hz4 := Nat.lt_of_lt_of_le hz1 hb4.size
    have s0 := (hb4.cell (p := ⟨w.heap.size, 0, none⟩) hz1).trans r0
    have s1 := (hb4.cell (p := ⟨w.heap.size, 1, none⟩) hz1).trans r1
    have g0 := (World.frozen?_of_block (a := ⟨w.heap.size, 0, none⟩) (hb4.block _ hz1)).trans f0
    have g1 := (World.frozen?_of_block (a := ⟨w.heap.size, 1, none⟩) (hb4.block _ hz1)).trans f1
    have HB4 := hide (HB1.out.trans (hb4.mono HB1.out.size))
    clear hb4 r0 r1 f0 f1
    go_region_law (fail)
    all_goals
      go_wp2
      refine bodyPost_ret (v := DoV ⟨[], q1, q2⟩ none 0 0) (by simp [results, Try.results15, go_sem, s0, s1]) rfl ?_
      have hfin := set2_below (HB4.out.drew) (Nat.le_refl _) (.int .i64 q1) (.int .i64 q2)
      refine ⟨none, 0, [], by rw [HAN.out, HD.out]; rfl, ?_⟩
      rw [HAN.out, HD.out]
      exact ⟨rfl, World.ownsRow_nil _ _ _ _, by simp, by simp, hT.below hfin, Only.of_below hfin, fun g hg => Or.inl (by rw [← hg]; exact (tabBlk_same (hfin.block bt hT.lt)).symm), by simp⟩
  · have hcz' : (chk ops).2 = 0 := Decidable.byContradiction fun h => hcz h
    have hn : ¬ (ops.length < 1 ∨ 32 < ops.length) := by
      intro hn
      unfold chk at hcz'
      rw [if_pos hn] at hcz'
      cases hcz'
    cases hb : badAt ops with
    | some i =>
      unfold chk at hcz'
      rw [if_neg hn, hb] at hcz'
      cases hcz'
    | none =>
      have hchk : chk ops = (0, 0) := by unfold chk; rw [if_neg hn, hb]
      rw [hchk] at hC
      obtain ⟨an, han⟩ : ∃ an, an = dos l ops := ⟨_, rfl⟩
      rw [← han]
      have HAN := hide han
      clear han
      go_enter Try.func15, Try.ntmps15
      go_wp2_with fail
      refine (hC _ (below_a1 _ _)).mono ?_
      rintro e w1 ⟨rfl, hb1⟩
      have hb2 : Below w.heap.size w (w1.alloc (.cells #[.int .i64 0, .int .i64 0] FltT)) := ((below_a1 w _).trans (hb1.mono (by simp))).alloc (by have := hb1.size; simp at this; omega) _
      go_wp2_with fail
      refine (Fork_tb2 bt l _ (hT.below hb2)).mono ?_
      rintro e w2 ⟨bd, rfl, hD, hbd, hb3, hbk⟩
      rw [tabBlk_same (hb2.block bt hT.lt)] at hbk
      have hI : DoI w (tabBlk w bt) bd l [] (.slice none 0 0) [] w2 := ⟨hD, World.ownsRow_nil _ _ _ _, rfl, by simp, by simp, hb2.trans (hb3.mono hb2.size), Nat.lt_of_lt_of_le (by have h1 := hb1.size; simp at h1 ⊢; omega) hbd, fun g hg => Or.inl (by rw [← hbk]; exact hg), by simp⟩
      have hR2 : w2.heap[w.heap.size]? = some (.cells #[.int .i64 0, .int .i64 0] FltT (0, 0)) := by
        have h1 := heap_alloc_new w (.cells #[.int .i64 0, .int .i64 0] FltT)
        have h2 := (hb1.block _ (Array.getElem?_eq_some_iff.1 h1).1).trans h1
        have h3 := ((below_a1 w1 (.cells #[.int .i64 0, .int .i64 0] FltT)).block _ (Array.getElem?_eq_some_iff.1 h2).1).trans h2
        exact (hb3.block _ (Array.getElem?_eq_some_iff.1 h3).1).trans h3
      have hMay := hide (badAt_none hb)
      have hlt := hide hT.lt
      have hn1 : 1 ≤ ops.length := by omega
      have hn2 : ops.length ≤ 32 := by omega
      clear hC hchk hb1 hb2 hb3 hD hbd hb hn
      go_wp2
      go_loopw [8, 22] (fun v i wr => ∃ (k : Nat) (rl : List RsA), k ≤ ops.length ∧ i = .int .i64 k ∧ DoI w (tabBlk w bt) bd l (ops.take k) v rl wr ∧ Hid (1 < ops.length → ∀ r ∈ (runs l (ops.take k)).1, r.code = 0) ∧ wr.heap[w.heap.size]? = some (.cells #[.int .i64 0, .int .i64 0] FltT (0, 0))) (fun _ i _ => ops.length - (intOf i).toNat)
      case atStart => exact ⟨0, [], Nat.zero_le _, rfl, hI, hide (fun _ r hr => by simp [runs] at hr), hR2⟩
      case round =>
        clear hI hR2
        obtain ⟨k, rl, hk, rfl, hI, HZ, hR⟩ := hrel
        obtain ⟨av, cv, rfl⟩ := Gk.own_slice hI.row
        have hwr := hI.bel.size
        have hrk : rl.length = k := by
          have h1 := congrArg List.length hI.eqs
          rw [List.length_map, runs_len, List.length_take] at h1
          omega
        have HRK := hide hrk
        clear hrk
        by_cases hlt2 : k < ops.length
        · obtain ⟨b, off, rfl, hbl, hc⟩ := (hl.below hI.bel).at (k := 6) oenc_len k hlt2
          have c0 := hc 0 _ rfl
          have c1 := hc 1 _ rfl
          have c2 := hc 2 _ rfl
          have c3 := hc 3 _ rfl
          have c4 := hc 4 _ rfl
          have c5 := hc 5 _ rfl
          rw [Nat.add_zero] at c0
          clear hc
          have HT := hide (List.take_succ_eq_append_getElem hlt2)
          have HM := hMay.out _ (List.getElem_mem hlt2)
          have HFA : Hid (1 < ops.length → (one (runs l (ops.take k)).2 ops[k]).1.code ≠ 0 → dos l ops = (⟨[], k, (one (runs l (ops.take k)).2 ops[k]).1.code⟩, l)) := fun h1 h2 => dos_fail hMay.out h1 hn2 hlt2 (HZ.out h1) h2
          have i3 : (0 : Int) ≤ (k : Int) := by omega
          have i4 : (k : Int) < (ops.length : Int) := by omega
          generalize ops[k] = x at *
          have hA := alone_any (runs l (ops.take k)).2 x HM
          have hI1 := hI.call (below_a1 wr (.cells #[.int .i64 x.kind, .string x.key, .string x.val, .int .i64 x.stamp, .int .i64 x.test, .int .i64 x.most] 45))
          have hRr := ((below_a1 wr (.cells #[.int .i64 x.kind, .string x.key, .string x.val, .int .i64 x.stamp, .int .i64 x.test, .int .i64 x.most] 45)).block _ (Array.getElem?_eq_some_iff.1 hR).1).trans hR
          go_wp2_with fail
          refine (hA bd _ hI1.tab).mono ?_
          rintro e w3 ⟨R, rfl, hP⟩
          have hJ := hI1.one hP
          have hR3 := (hP.turn.block _ (Array.getElem?_eq_some_iff.1 hRr).1 (by have h2 := hI.low; show w.heap.size ≠ bd; omega)).trans hRr
          have hz3 : w.heap.size < w3.heap.size := (Array.getElem?_eq_some_iff.1 hR3).1
          have hEq := hJ.eq
          obtain ⟨⟨cc, rst, rv, rr⟩, ra, rcap⟩ := R
          have hcc : cc = (one (runs l (ops.take k)).2 x).1.code := by rw [← hEq]
          have HCC := hide hcc
          have HJ := hide hJ
          clear hcc hEq hA hI hI1 hR hRr hP hJ c0 c1 c2 c3 c4 c5
          by_cases hcz : cc ≠ 0 ∧ 1 < ops.length
          · have b1 : (cc != 0) = true := by simp [hcz.1]
            have b2 : (1 : Int) < (ops.length : Int) := by have := hcz.2; omega
            have HF := hide (HFA.out hcz.2 (by rw [← HCC.out]; exact hcz.1))
            clear hcz
            go_wp2_with fail
            obtain ⟨w4, hw4⟩ : ∃ w4, w4 = w3.alloc (.cells #[.int .i64 cc, .int .i64 rst, .string rv, .slice ra rr.length rcap] ResT) := ⟨_, rfl⟩
            have hb4 : Below w3.heap.size w3 w4 := by rw [hw4]; exact below_a1 _ _
            have k0 : w4.cell? ⟨w3.heap.size, 0, none⟩ = some (.int .i64 cc) := by rw [hw4]; exact cellB (heap_alloc_new w3 _) 0 rfl
            rw [← hw4]
            clear hw4
            have hR4 := (hb4.block _ (Array.getElem?_eq_some_iff.1 hR3).1).trans hR3
            have r0 : w4.cell? ⟨w.heap.size, 0, none⟩ = some (.int .i64 0) := cellB hR4 0 rfl
            have r1 : w4.cell? ⟨w.heap.size, 1, none⟩ = some (.int .i64 0) := cellB hR4 1 rfl
            have f0 := unfrozen_of_block hR4 0
            have f1 := unfrozen_of_block hR4 1
            have HB4 := hide (HJ.out.call hb4).bel
            clear hR3 hR4 hb4 HJ
            go_region_law (fail)
            all_goals
              go_wp2
              refine bodyPost_ret (v := DoV ⟨[], k, cc⟩ none 0 0) (by simp [results, Try.results15, go_sem, r0, r1]) rfl ?_
              have hfin := set2_below (HB4.out.drew) (Nat.le_refl _) (.int .i64 (k : Int)) (.int .i64 cc)
              refine ⟨none, 0, [], by rw [HAN.out, HF.out, ← HCC.out]; rfl, ?_⟩
              rw [HAN.out, HF.out]
              exact ⟨rfl, World.ownsRow_nil _ _ _ _, by simp, by simp, hT.below hfin, Only.of_below hfin, fun g hg => Or.inl (by rw [← hg]; exact (tabBlk_same (hfin.block bt hT.lt)).symm), by simp⟩
          · have HNZ : Hid (1 < ops.length → cc = 0) := fun h => Decidable.byContradiction fun h' => hcz ⟨h', h⟩
            have hsp : Hid (((cc != 0) = false) ∨ ((cc != 0) = true ∧ ¬ (1 : Int) < (ops.length : Int))) := by
              by_cases h : cc = 0
              · exact Or.inl (by simp [h])
              · exact Or.inr ⟨by simp [h], fun h' => hcz ⟨h, by omega⟩⟩
            have HZ2 : Hid (1 < ops.length → ∀ r ∈ (runs l (ops.take (k + 1))).1, r.code = 0) := by
              show 1 < ops.length → ∀ r ∈ (runs l (ops.take (k + 1))).1, r.code = 0
              rw [HT.out, runs_snoc]
              intro h1 r hr
              rcases List.mem_append.1 hr with h | h
              · exact HZ.out h1 r h
              · rw [List.mem_singleton.1 h, ← HCC.out]; exact HNZ.out h1
            clear hcz HFA HZ
            have hRB : ∀ o o' : Obj, ((w3.alloc o).alloc o').heap[w3.heap.size + 1]? = some o' := fun o o' => by have := heap_alloc_new (w3.alloc o) o'; simpa using this
            rcases hsp.out with b1 | ⟨b1, b2⟩
            all_goals
              clear hsp
              go_wp2_with (at_builtin; refine wpList_push (enc := rsenc) (k := 4) rfl (.tmp 42) (.tmp 44) RessT rfl ResT noRs 56 Try.underlying38 res_info rfl (by decide) rsenc_len rsenc_one w.heap.size _ rl rfl ((HJ.out.row.alloc _).alloc _) (w3.heap.size + 1) ⟨⟨cc, rst, rv, rr⟩, ra, rcap⟩ rfl (hRB _ _) (by have := HRK.out; omega) (by have := HRK.out; omega) (by simp; omega) ?_)
              intro v4 w4 hown4 hg4 hat4
              have hown5 : w4.ownsRow w.heap.size ResT 4 v4 (rl ++ [(⟨⟨cc, rst, rv, rr⟩, ra, rcap⟩ : RsA)]).length (rc rsenc (rl ++ [(⟨⟨cc, rst, rv, rr⟩, ra, rcap⟩ : RsA)])) := by
                rw [show (rl ++ [(⟨⟨cc, rst, rv, rr⟩, ra, rcap⟩ : RsA)]).length = rl.length + 1 by simp]; exact hown4
              have hI4 := hide ((HJ.out.call (below_a2 w3 _ _)).push hown5 hg4)
              have hR4 : w4.heap[w.heap.size]? = some (.cells #[.int .i64 0, .int .i64 0] FltT (0, 0)) := by
                have h1 := ((below_a2 w3 (.cells #[.int .i64 cc, .int .i64 rst, .string rv, .slice ra rr.length rcap] ResT) (.cells #[.int .i64 cc, .int .i64 rst, .string rv, .slice ra rr.length rcap] ResT)).block _ (Array.getElem?_eq_some_iff.1 hR3).1).trans hR3
                refine (hg4.block _ (Array.getElem?_eq_some_iff.1 h1).1 fun e => ?_).trans h1
                exact own_ne ((HJ.out.row.alloc _).alloc _) h1 (by decide) e.symm rfl
              obtain ⟨av4, cv4, rfl⟩ := Gk.own_slice hown4
              rw [← HT.out] at hI4
              have hL4 : (rl ++ [(⟨⟨cc, rst, rv, rr⟩, ra, rcap⟩ : RsA)]).length = rl.length + 1 := by simp
              generalize rl ++ [(⟨⟨cc, rst, rv, rr⟩, ra, rcap⟩ : RsA)] = rl4 at *
              clear hown4 hown5 hg4 hat4 HJ hR3
              go_wp2
              go_roundw
              case rel => exact ⟨k + 1, rl4, by omega, by go_num, hI4.out, HZ2, hR4⟩
              case measure => simp [intOf]; omega
        · obtain rfl : k = ops.length := by omega
          have hO := hide (dos_ok hMay.out hn1 hn2 (by have h := HZ.out; rwa [List.take_length] at h))
          have hI2 := hI
          rw [List.take_length] at hI2
          obtain ⟨hok, da, dcap, hdg, hdl⟩ := id hI2.tab
          have t0 := TH.cell hdg
          obtain ⟨_, ta, tcap, htg, _⟩ := hT.below hI.bel
          have hbt := hT.lt
          have t1 : wr.cell? ⟨bt, 0, none⟩ = some (.slice ta l.length tcap) := cellB htg 0 rfl
          have ft := unfrozen_of_block htg 0
          have r0 : wr.cell? ⟨w.heap.size, 0, none⟩ = some (.int .i64 0) := cellB hR 0 rfl
          have r1 : wr.cell? ⟨w.heap.size, 1, none⟩ = some (.int .i64 0) := cellB hR 1 rfl
          have f0 := unfrozen_of_block hR 0
          have f1 := unfrozen_of_block hR 1
          have HI := hide hI2
          generalize hL : (runs l ops).2 = L at *
          clear hI hI2
          have HDL := hide hdl
          have HDG := hide hdg
          have HTG := hide htg
          have HR := hide hR
          have HOK := hide hok
          clear hdl htg hR hok hdg
          go_wp2
          refine bodyPost_ret (v := DoV ⟨[], 0, 0⟩ av rl.length cv) (by simp [results, Try.results15, go_sem, r0, r1]) rfl ?_
          have hT1 := TH.put HTG.out HDL.out HOK.out
          have hs1 : ∀ k, k ≠ bt → (wr.setCell ⟨bt, 0, none⟩ (.slice da L.length dcap)).heap[k]? = wr.heap[k]? := fun k hk => Below.heap_setCell _ _ _ _ hk
          have hR1 := (hs1 w.heap.size (by omega)).trans HR.out
          have hs2 : ∀ k, k ≠ w.heap.size → (set2 (wr.setCell ⟨bt, 0, none⟩ (.slice da L.length dcap)) w.heap.size (.int .i64 0) (.int .i64 0)).heap[k]? = (wr.setCell ⟨bt, 0, none⟩ (.slice da L.length dcap)).heap[k]? := fun k hk => set2_other _ _ _ hk _ _
          have hrow1 := own_stay HI.out.row fun g hg => hs1 g (own_ne HI.out.row HTG.out (by decide) hg)
          refine ⟨av, cv, rl, by rw [HAN.out, hO.out], ?_⟩
          rw [HAN.out, hO.out]
          refine ⟨HI.out.eqs, own_stay hrow1 fun g hg => hs2 g (own_ne hrow1 hR1 (by decide) hg), fun y hy => ((HI.out.rows y hy).other HTG.out (by decide) hs1).other hR1 (by decide) hs2, HI.out.new, hT1.other hR1 (by decide) (by decide) hs2, ?_, ?_, ?_⟩
          · have hB := HI.out.bel
            refine ⟨hB.os, hB.tape, hB.output, by simpa using hB.size, fun k hk hn => ?_⟩
            exact ((hs2 k (by omega)).trans (hs1 k hn)).trans (hB.block k hk)
          · intro g hg
            rw [tabBlk_same (hs2 bt (by omega)), tabBlk_is (block_setCell HTG.out _)] at hg
            exact HI.out.own g (by rw [tabBlk_is HDG.out]; exact hg)
          · intro y hy g hgy hg
            rw [tabBlk_same (hs2 bt (by omega)), tabBlk_is (block_setCell HTG.out _)] at hg
            exact HI.out.apart y hy g hgy (by rw [tabBlk_is HDG.out]; exact hg)

end Go.Proofs.Ythdempdiibjabaa.Tb
