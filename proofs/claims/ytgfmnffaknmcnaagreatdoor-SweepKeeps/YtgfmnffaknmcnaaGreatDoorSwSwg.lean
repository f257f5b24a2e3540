/- Layer 12: what sizes, places and moves read as, when they are a law's arguments. Layer 12: a walk over sweep.go: Swing. -/
import Derived.Test.YtgfmnffaknmcnaaGreatDoorGArgs
import Derived.Test.YtgfmnffaknmcnaaGreatDoorSwLiv
import Derived.Test.YtgfmnffaknmcnaaGreatDoorSwPlan
namespace Go.Proofs.YtgfmnffaknmcnaaGreatDoor.Sw
open Go.ChangeShapes Go.WideShapes Go.ChangeAt Go.RowKit Go.Deep Go.Joins Gk

abbrev Mv : Type := Pc × Pc
def menc (m : Mv) : List Value := penc m.1 ++ penc m.2
theorem menc_len (m : Mv) : (menc m).length = 6 := rfl
set_option maxRecDepth 100000 in
theorem menc_one (m : Mv) : ∀ u ∈ menc m, u.oneCell' = true := by
  intro u hu
  rcases List.mem_append.1 hu with h | h
  · exact penc_one _ u h
  · exact penc_one _ u h
structure SzsAt (W : World) (a : Option Addr) (cap : Nat) (l : List Sz) : Prop extends SliceAt W szE a cap l where
  each : ∀ s ∈ l, I64 s.1 ∧ I64 s.2
structure PcsAt (W : World) (a : Option Addr) (cap : Nat) (l : List Pc) : Prop extends SliceAt W penc a cap l where
  each : ∀ p ∈ l, Fit3 p
structure MvsAt (W : World) (a : Option Addr) (cap : Nat) (l : List Mv) : Prop extends SliceAt W menc a cap l where
  each : ∀ m ∈ l, Fit3 m.1 ∧ Fit3 m.2
set_option maxRecDepth 100000 in
theorem cells_place : Tryz.prog.cellsOf 42 = 3 := by kernel_rfl
set_option maxRecDepth 100000 in
theorem cells_places : Tryz.prog.cellsOf 24 = 1 := by kernel_rfl

set_option maxRecDepth 100000 in
theorem open_place {H : Type} {enc : TypeId × Value → H} {W : World} {fuel : Nat} {cs : List Value} {x : DataW H × List MemPlace} (h : DataW.trod enc Tryz.prog W 0 (fun _ => true) true fuel 42 cs = some x) : ∃ p : Pc, cs = penc p ∧ Fit3 p := by
  obtain ⟨y0, y1, y2, n, rfl, hl, h0, h1, h2⟩ := trod_struct3 Tryz.underlying42 h
  rw [cells_place] at hl
  match cs, hl with
  | [p, q, v], _ =>
    simp [cells_int] at h0 h1 h2
    obtain ⟨k0, e0, _, hk0⟩ := DataW.trod_int Tryz.underlying3 h0
    obtain ⟨k1, e1, _, hk1⟩ := DataW.trod_int Tryz.underlying3 h1
    obtain ⟨k2, e2, _, hk2⟩ := DataW.trod_int Tryz.underlying3 h2
    simp only [List.cons.injEq, and_true] at e0 e1 e2
    subst e0 e1 e2
    exact ⟨(k0, k1, k2), rfl, bounds_i64 hk0, bounds_i64 hk1, bounds_i64 hk2⟩
set_option maxRecDepth 100000 in
theorem open_places {H : Type} {enc : TypeId × Value → H} {W : World} {fuel : Nat} {cs : List Value} {x : DataW H × List MemPlace} (h : DataW.trod enc Tryz.prog W 0 (fun _ => true) true fuel 24 cs = some x) : ∃ a cap ac, cs = [.slice a (List.length ac) cap] ∧ PcsAt W a cap ac := by
  rcases open_slice Tryz.underlying24 h with ⟨rfl, rfl⟩ | ⟨a, len, cap, m, n, D, Pl, rfl, _, hl, hm9, hmm, rfl, hx⟩
  · exact ⟨none, 0, [], rfl, ⟨⟨Or.inl rfl, by simp, fun _ => rfl, by omega⟩, by simp⟩⟩
  · have hm : m = cap := by rw [hmm]; simp
    have each : ∀ i, i < len → ∃ f : Pc, (∀ j u, (penc f)[j]? = some u → W.cell? (a.add (i * 3 + j)) = some u) ∧ Fit3 f := by
      intro i hi
      obtain ⟨cs', h1, h2⟩ := hx i (by omega)
      rw [cells_place] at h1
      obtain ⟨_, hlen, hcell⟩ := World.cells?_some h1
      obtain ⟨f, e, hf⟩ := open_place h2
      refine ⟨f, fun j u hj => ?_, hf⟩
      have hj3 : j < 3 := by have := (List.getElem?_eq_some_iff.1 hj).1; rwa [penc_len] at this
      have := hcell j (by omega)
      rw [add_add] at this
      rw [this, e]; exact hj
    obtain ⟨ac, hlen, hac⟩ := list_of len each
    exact ⟨some a, cap, ac, by rw [hlen], ⟨⟨lies_of penc_len (by omega) fun i hi j u hj => (hac i hi).1 j u hj, by omega, by simp, by unfold maxLen at hm9; omega⟩, fun y hy => by
      obtain ⟨i, hi, rfl⟩ := List.getElem_of_mem hy
      exact (hac i hi).2⟩⟩
set_option maxRecDepth 100000 in
theorem cells_move : Tryz.prog.cellsOf 114 = 6 := by kernel_rfl
set_option maxRecDepth 100000 in
theorem open_move {H : Type} {enc : TypeId × Value → H} {W : World} {fuel : Nat} {cs : List Value} {x : DataW H × List MemPlace} (h : DataW.trod enc Tryz.prog W 0 (fun _ => true) true fuel 114 cs = some x) : ∃ m : Mv, cs = menc m ∧ Fit3 m.1 ∧ Fit3 m.2 := by
  obtain ⟨y0, y1, n, rfl, hl, h0, h1⟩ := trod_struct2 Tryz.underlying114 h
  rw [cells_move] at hl
  match cs, hl with
  | [p, q, v, p', q', v'], _ =>
    simp [cells_place] at h0 h1
    obtain ⟨m0, e0, hf0⟩ := open_place h0
    obtain ⟨m1, e1, hf1⟩ := open_place h1
    refine ⟨(m0, m1), ?_, hf0, hf1⟩
    simp only [penc, List.cons.injEq, and_true] at e0 e1
    obtain ⟨rfl, rfl, rfl⟩ := e0
    obtain ⟨rfl, rfl, rfl⟩ := e1
    rfl
set_option maxRecDepth 100000 in
theorem open_moves {H : Type} {enc : TypeId × Value → H} {W : World} {fuel : Nat} {cs : List Value} {x : DataW H × List MemPlace} (h : DataW.trod enc Tryz.prog W 0 (fun _ => true) true fuel 45 cs = some x) : ∃ a cap ac, cs = [.slice a (List.length ac) cap] ∧ MvsAt W a cap ac := by
  rcases open_slice Tryz.underlying45 h with ⟨rfl, rfl⟩ | ⟨a, len, cap, m, n, D, Pl, rfl, _, hl, hm9, hmm, rfl, hx⟩
  · exact ⟨none, 0, [], rfl, ⟨⟨Or.inl rfl, by simp, fun _ => rfl, by omega⟩, by simp⟩⟩
  · have hm : m = cap := by rw [hmm]; simp
    have each : ∀ i, i < len → ∃ f : Mv, (∀ j u, (menc f)[j]? = some u → W.cell? (a.add (i * 6 + j)) = some u) ∧ Fit3 f.1 ∧ Fit3 f.2 := by
      intro i hi
      obtain ⟨cs', h1, h2⟩ := hx i (by omega)
      rw [cells_move] at h1
      obtain ⟨_, hlen, hcell⟩ := World.cells?_some h1
      obtain ⟨f, e, hf⟩ := open_move h2
      refine ⟨f, fun j u hj => ?_, hf⟩
      have hj3 : j < 6 := by have := (List.getElem?_eq_some_iff.1 hj).1; rwa [menc_len] at this
      have := hcell j (by omega)
      rw [add_add] at this
      rw [this, e]; exact hj
    obtain ⟨ac, hlen, hac⟩ := list_of len each
    exact ⟨some a, cap, ac, by rw [hlen], ⟨⟨lies_of menc_len (by omega) fun i hi j u hj => (hac i hi).1 j u hj, by omega, by simp, by unfold maxLen at hm9; omega⟩, fun y hy => by
      obtain ⟨i, hi, rfl⟩ := List.getElem_of_mem hy
      exact (hac i hi).2⟩⟩

end Go.Proofs.YtgfmnffaknmcnaaGreatDoor.Sw

namespace Go.Proofs.YtgfmnffaknmcnaaGreatDoor.Sw
open Go.RowKit Go.Joins Go.Sort Go.Maps Gk

/-- where a place moves to, if it does -/
def wayF (ms : List Mv) (p : Pc) : Option Pc := (ms.find? fun m => decide (m.1 = p)).map (·.2)
theorem wayF_snoc (ms : List Mv) (m : Mv) (p : Pc) : wayF (ms ++ [m]) p = match wayF ms p with | some q => some q | none => if m.1 = p then some m.2 else none := by
  unfold wayF
  rw [List.find?_append]
  cases h : ms.find? fun m => decide (m.1 = p) with
  | some q => rfl
  | none =>
    by_cases e : m.1 = p
    · simp [e]
    · simp [e]
def sw (ms : List Mv) (p : Pc) : Pc := (wayF ms p).getD p
/-- the map of moves -/
def mapM (ms : List Mv) (p : Pc) : Option Value := (wayF ms p).map plv
theorem mapM_old {ms : List Mv} {m : Mv} (h : (mapM ms m.1).isSome = true) : mapM (ms ++ [m]) = mapM ms := by
  funext p
  unfold mapM at *
  rw [wayF_snoc]
  cases hw : wayF ms p with
  | some q => rfl
  | none =>
    by_cases e : m.1 = p
    · subst e; rw [hw] at h; cases h
    · simp [e]
theorem mapM_new {ms : List Mv} {m : Mv} (h : (mapM ms m.1).isSome = false) : mapM (ms ++ [m]) = updF (mapM ms) m.1 (plv m.2) := by
  funext p
  by_cases e : p = m.1
  · subst e
    rw [updF_same]
    unfold mapM at *
    rw [wayF_snoc]
    cases hw : wayF ms m.1 with
    | some q => rw [hw] at h; cases h
    | none => simp
  · rw [updF_other _ _ e]
    unfold mapM
    rw [wayF_snoc]
    cases hw : wayF ms p with
    | some q => rfl
    | none => simp [Ne.symm e]
theorem wayF_mem {ms : List Mv} {p q : Pc} (h : wayF ms p = some q) : (p, q) ∈ ms := by
  unfold wayF at h
  cases hf : ms.find? fun m => decide (m.1 = p) with
  | none => rw [hf] at h; cases h
  | some m =>
    rw [hf] at h
    have h1 := List.mem_of_find?_eq_some hf
    have h2 := List.find?_some hf
    simp only [decide_eq_true_eq] at h2
    cases h
    rw [← h2]; exact h1
set_option maxRecDepth 100000 in
theorem wayF_none {ms : List Mv} {p : Pc} (h : wayF ms p = none) : ∀ m ∈ ms, m.1 ≠ p := by
  unfold wayF at h
  rw [Option.map_eq_none_iff, List.find?_eq_none] at h
  intro m hm e
  exact h m hm (by simp [e])

abbrev MvT : TypeId := 114
abbrev WyT : TypeId := 129
set_option maxRecDepth 100000 in
theorem pl_info : (Tryz.prog.info? plT).map (fun i => (i.zero, i.size, i.bytes)) = some (some (.agg #[.int .i64 0, .int .i64 0, .int .i64 0]), 3, 24) := by kernel_rfl
set_option maxRecDepth 100000 in
theorem zero_pl (w : World) : (zeroValue plT).run Tryz.prog w = .ok (.agg #[.int .i64 0, .int .i64 0, .int .i64 0]) w := by kernel_rfl
set_option maxRecDepth 100000 in
theorem manyM_any (a : Option Addr) (n cap : Nat) (w : World) (h : n ≤ 4096) : Calls Tryz.prog 71 #[.slice a n cap] w fun e w' => e = .returned (.bool false) ∧ w' = w := by
  have h1 : ¬ (4096 : Int) < (n : Int) := by omega
  go_enter Tryz.func71, Tryz.ntmps71
  go_wp2
  go_ret
  exact ⟨rfl, rfl⟩
abbrev mcells (m : Mv) : Array Value := #[.int .i64 m.1.1, .int .i64 m.1.2.1, .int .i64 m.1.2.2, .int .i64 m.2.1, .int .i64 m.2.2.1, .int .i64 m.2.2.2]

set_option maxHeartbeats 3200000 in
set_option maxRecDepth 100000 in
theorem Swing_any (a : Option Addr) (cap : Nat) (l : List Pc) (am : Option Addr) (cm : Nat) (ms : List Mv) (w : World) (hl : Lies w penc a l) (hn : l.length ≤ 4096) (hm : Lies w menc am ms) (hnm : ms.length ≤ 4096) (hfl : ∀ p ∈ l, Fit3 p) (hfm : ∀ m ∈ ms, Fit3 m.1 ∧ Fit3 m.2) :
    Calls Tryz.prog 29 #[.slice a l.length cap, .slice am ms.length cm] w fun e w' => ∃ f, e = .returned (.tuple #[f, .int .i64 0]) ∧ w'.ownsRow w.heap.size plT 3 f (l.map (sw ms)).length (rc penc (l.map (sw ms))) ∧ Below w.heap.size w w' := by
  have mixed : Tryz.prog.follows .mixedOrders = true := by kernel_rfl
  have hT := fun W => many_any a l.length cap W
  simp only [decide_eq_false (show ¬ 4096 < l.length by omega)] at hT
  have hT2 := fun W => manyM_any am ms.length cm W hnm
  have hmk := @run_makeMap Tryz.prog
  have hMp := MapF.made plKs w
  have hbm := below_alloc1 w (.map #[] 0)
  go_enter Tryz.func29, Tryz.ntmps29
  go_wp2_with (first | (go_at_call 52; refine (hT _).mono ?_; rintro e w2 ⟨rfl, hw2⟩; obtain rfl := hw2.symm) | (go_at_call 71; refine (hT2 _).mono ?_; rintro e w2 ⟨rfl, hw2⟩; obtain rfl := hw2.symm))
  have HW := hide (And.intro hMp hbm)
  clear hT hT2 hmk hMp hbm
  go_loopw [25] (fun i wr => ∃ k : Nat, k ≤ ms.length ∧ i = .int .i64 k ∧ MapF plKs wr w.heap.size k (mapM (ms.take k)) ∧ Below w.heap.size w wr) (fun i _ => ms.length - (intOf i).toNat)
  case atStart => exact ⟨0, Nat.zero_le _, rfl, HW.out.1, HW.out.2⟩
  case round =>
    clear HW
    obtain ⟨k, hk, rfl, hM, hb⟩ := hrel
    by_cases hlt : k < ms.length
    · obtain ⟨b, off, rfl, hbl, hc⟩ := (hm.below hb).at menc_len k hlt
      have i1 : (0 : Int) ≤ (k : Int) := by omega
      have i2 : (k : Int) < (ms.length : Int) := by omega
      have c0 := hc 0 _ rfl
      have c1 := hc 1 _ rfl
      have c2 := hc 2 _ rfl
      have c3 := hc 3 _ rfl
      have c4 := hc 4 _ rfl
      have c5 := hc 5 _ rfl
      rw [Nat.add_zero] at c0
      have hf := (hfm ms[k] (List.getElem_mem hlt)).1
      have hnx := List.take_succ_eq_append_getElem hlt
      generalize ms[k] = x at c0 c1 c2 c3 c4 c5 hf hnx
      have hbx := below_alloc1 wr (.cells (mcells x) MvT)
      have hlk := (hM.below hbx).look_ok (t := WyT) (e := plT) Tryz.underlying129 (zero_pl _) hf
      have hlk' : (Instr.lookup WyT (.map (some w.heap.size)) (plv x.1) true).run Tryz.prog (wr.alloc (.cells (mcells x) MvT)) = .ok (.tuple #[(mapM (ms.take k) x.1).getD (.agg #[.int .i64 0, .int .i64 0, .int .i64 0]), .bool (mapM (ms.take k) x.1).isSome]) (wr.alloc (.cells (mcells x) MvT)) := hlk
      have hz := hb.size
      cases his : (mapM (ms.take k) x.1).isSome with
      | true =>
        rw [his] at hlk'
        obtain ⟨gd, hgd⟩ : ∃ gd : Pc, (mapM (ms.take k) x.1).getD (.agg #[.int .i64 0, .int .i64 0, .int .i64 0]) = plv gd := by
          unfold mapM at his ⊢
          cases hw : wayF (ms.take k) x.1 with
          | none => exact ⟨(0, 0, 0), rfl⟩
          | some q => exact ⟨q, rfl⟩
        rw [hgd] at hlk'
        clear hgd
        have hbx2 : Below wr.heap.size wr ((wr.alloc (.cells (mcells x) MvT)).alloc (.cells #[.int .i64 gd.1, .int .i64 gd.2.1, .int .i64 gd.2.2] plT)) := hbx.alloc (by simp) _
        have hM2 : MapF plKs ((wr.alloc (.cells (mcells x) MvT)).alloc (.cells #[.int .i64 gd.1, .int .i64 gd.2.1, .int .i64 gd.2.2] plT)) w.heap.size (k + 1) (mapM (ms.take (k + 1))) := by
          rw [hnx, mapM_old his]; exact (hM.below hbx2).mono (Nat.le_succ _)
        have HF := hide (And.intro hM2 (hb.trans (hbx2.mono hb.size)))
        clear hbx2
        clear hc hlk hM2 hM hb hbx hnx his hf
        go_wp2
        go_roundw
        case rel => exact ⟨k + 1, by omega, by go_num, HF.out.1, HF.out.2⟩
        case measure => simp [intOf]; omega
      | false =>
        rw [his] at hlk'
        have hgd : (mapM (ms.take k) x.1).getD (.agg #[.int .i64 0, .int .i64 0, .int .i64 0]) = .agg #[.int .i64 0, .int .i64 0, .int .i64 0] := by
          cases hw : mapM (ms.take k) x.1 with
          | none => rfl
          | some q => rw [hw] at his; cases his
        rw [hgd] at hlk'
        clear hgd
        have hbx2 : Below wr.heap.size wr ((wr.alloc (.cells (mcells x) MvT)).alloc (.cells #[.int .i64 0, .int .i64 0, .int .i64 0] plT)) := hbx.alloc (by simp) _
        obtain ⟨w4, hrun, hM4, hg4⟩ := (hM.below hbx2).put (t := WyT) (e := plT) Tryz.underlying129 (by omega) hf (plv x.2)
        have hrun' : (Instr.mapUpdate WyT (.map (some w.heap.size)) (plv x.1) (plv x.2)).run Tryz.prog ((wr.alloc (.cells (mcells x) MvT)).alloc (.cells #[.int .i64 0, .int .i64 0, .int .i64 0] plT)) = .ok () w4 := hrun
        rw [← mapM_new his, ← hnx] at hM4
        have hb4 : Below w.heap.size w w4 := (hb.trans (hbx2.mono hb.size)).grown hg4 (by simp; omega) fun g' e => by cases e; exact Nat.le_refl _
        clear hbx2
        have HF := hide (And.intro hM4 hb4)
        clear hc hlk hrun hM4 hb4 hg4 hM hb hbx hnx his hf
        go_wp2
        go_roundw
        case rel => exact ⟨k + 1, by omega, by go_num, HF.out.1, HF.out.2⟩
        case measure => simp [intOf]; omega
    · obtain rfl : k = ms.length := by omega
      have i2 : ¬ (ms.length : Int) < (ms.length : Int) := by omega
      rw [List.take_length] at hM
      have HM := hide (And.intro hM hb)
      clear hM hb
      go_wp2
      go_loopw [11, 46] (fun fv i wr => ∃ k : Nat, k ≤ l.length ∧ i = .int .i64 k ∧ wr.ownsRow w.heap.size plT 3 fv ((l.take k).map (sw ms)).length (rc penc ((l.take k).map (sw ms))) ∧ MapF plKs wr w.heap.size ms.length (mapM ms) ∧ Below w.heap.size w wr) (fun _ i _ => l.length - (intOf i).toNat)
      case atStart => exact ⟨0, Nat.zero_le _, rfl, World.ownsRow_nil _ _ _ _, HM.out.1, HM.out.2⟩
      case round =>
        clear HM
        obtain ⟨k, hk, rfl, hrow, hM, hb⟩ := hrel
        by_cases hkl : k < l.length
        · obtain ⟨b, off, rfl, hbl, hc⟩ := (hl.below hb).at penc_len k hkl
          have i1 : (0 : Int) ≤ (k : Int) := by omega
          have i3 : (k : Int) < (l.length : Int) := by omega
          have c0 := hc 0 _ rfl
          have c1 := hc 1 _ rfl
          have c2 := hc 2 _ rfl
          rw [Nat.add_zero] at c0
          have hf := hfl l[k] (List.getElem_mem hkl)
          have hnx : (l.take (k + 1)).map (sw ms) = (l.take k).map (sw ms) ++ [sw ms l[k]] := by rw [List.take_succ_eq_append_getElem hkl, List.map_append]; rfl
          have hTl : ((l.take k).map (sw ms)).length ≤ 4096 := by rw [List.length_map, List.length_take]; omega
          generalize l[k] = x at c0 c1 c2 hf hnx
          generalize (l.take k).map (sw ms) = T at hrow hnx hTl
          have hbx := below_alloc1 wr (.cells #[.int .i64 x.1, .int .i64 x.2.1, .int .i64 x.2.2] plT)
          have hlk := (hM.below hbx).look_ok (t := WyT) (e := plT) Tryz.underlying129 (zero_pl _) hf
          have hlk' : (Instr.lookup WyT (.map (some w.heap.size)) (plv x) true).run Tryz.prog (wr.alloc (.cells #[.int .i64 x.1, .int .i64 x.2.1, .int .i64 x.2.2] plT)) = .ok (.tuple #[(mapM ms x).getD (.agg #[.int .i64 0, .int .i64 0, .int .i64 0]), .bool (mapM ms x).isSome]) (wr.alloc (.cells #[.int .i64 x.1, .int .i64 x.2.1, .int .i64 x.2.2] plT)) := hlk
          have hz := hb.size
          have HR := hide (And.intro hrow (And.intro hM (And.intro hb hbx)))
          cases hw : wayF ms x with
          | none =>
            have e1 : mapM ms x = none := by unfold mapM; rw [hw]; rfl
            rw [e1] at hlk'
            have e2 : sw ms x = x := by unfold sw; rw [hw]; rfl
            rw [e2] at hnx
            have HN := hide hnx
            clear hc hlk hrow hM hb hbx hnx hf e1 e2 hw
            obtain ⟨WA, hWA⟩ : ∃ WA, WA = ((wr.alloc (.cells #[.int .i64 x.1, .int .i64 x.2.1, .int .i64 x.2.2] plT)).alloc (.cells #[.int .i64 0, .int .i64 0, .int .i64 0] plT)).alloc (.cells (penc x).toArray plT) := ⟨_, rfl⟩
            have hbA : Below wr.heap.size wr WA := by rw [hWA]; exact ((below_alloc1 wr _).alloc (by simp) _).alloc (by simp; omega) _
            have hnA : WA.heap[wr.heap.size + 1 + 1]? = some (.cells (penc x).toArray plT (0, 0)) := by
              rw [hWA]
              have := heap_alloc_new ((wr.alloc (.cells #[.int .i64 x.1, .int .i64 x.2.1, .int .i64 x.2.2] plT)).alloc (.cells #[.int .i64 0, .int .i64 0, .int .i64 0] plT)) (.cells (penc x).toArray plT)
              simpa using this
            have HWA := hide hWA
            have HBA := hide hbA
            have HNA := hide hnA
            clear hWA hbA hnA
            go_wp2_with (at_builtin; refine wpList_push (enc := penc) (k := 3) rfl (.tmp 58) (.tmp 60) 24 rfl plT (.agg #[.int .i64 0, .int .i64 0, .int .i64 0]) 24 Tryz.underlying24 pl_info rfl (by decide) penc_len penc_one w.heap.size _ T rfl (by have := own_below HR.out.1 HBA.out; rw [HWA.out] at this; exact this) (wr.heap.size + 1 + 1) x rfl (by have := HNA.out; rw [HWA.out] at this; exact this) ?c1 ?c2 ?c3 ?_)
            case c1 => omega
            case c2 => omega
            case c3 => simp; omega
            intro v4 w4 ho4 hg4 _
            have hg5 : WA.grownBy w4 u11.ownBlock := by rw [HWA.out]; exact hg4
            have hB4 : Below w.heap.size w w4 := (HR.out.2.2.1.trans (HBA.out.mono hz)).grown hg5 (by have := HBA.out.size; omega) fun g hg => (HR.out.1.lt g hg).1
            have hM9 := HR.out.2.1.below HBA.out
            have hM4 : MapF plKs w4 w.heap.size ms.length (mapM ms) := hM9.stay (hg5.block _ hM9.lt fun e => by
              rcases (own_below HR.out.1 HBA.out).2 with ⟨e2, -⟩ | ⟨g, cap9, cur9, e2, -, hcur, -⟩
              · rw [e2] at e; simp [Value.ownBlock] at e
              · rw [e2] at e; simp only [Value.ownBlock, Option.some.injEq] at e
                exact hM9.ne hcur e.symm)
            have ho4' : w4.ownsRow w.heap.size plT 3 v4 ((l.take (k + 1)).map (sw ms)).length (rc penc ((l.take (k + 1)).map (sw ms))) := by
              rw [HN.out, List.length_append]; exact ho4
            have HF := hide (And.intro ho4' (And.intro hM4 hB4))
            clear ho4 hg4 hg5 hB4 hM9 hM4 ho4' c0 c1 c2 hlk'
            go_wp2
            go_roundw
            case rel => exact ⟨k + 1, by omega, by go_num, HF.out.1, HF.out.2.1, HF.out.2.2⟩
            case measure => simp [intOf]; omega
          | some q =>
            have e1 : mapM ms x = some (plv q) := by unfold mapM; rw [hw]; rfl
            rw [e1] at hlk'
            have e2 : sw ms x = q := by unfold sw; rw [hw]; rfl
            rw [e2] at hnx
            have HN := hide hnx
            clear hc hlk hrow hM hb hbx hnx hf e1 e2 hw
            obtain ⟨WA, hWA⟩ : ∃ WA, WA = ((wr.alloc (.cells #[.int .i64 q.1, .int .i64 q.2.1, .int .i64 q.2.2] plT)).alloc (.cells #[.int .i64 q.1, .int .i64 q.2.1, .int .i64 q.2.2] plT)).alloc (.cells (penc q).toArray plT) := ⟨_, rfl⟩
            have hbA : Below wr.heap.size wr WA := by rw [hWA]; exact ((below_alloc1 wr _).alloc (by simp) _).alloc (by simp; omega) _
            have hnA : WA.heap[wr.heap.size + 1 + 1]? = some (.cells (penc q).toArray plT (0, 0)) := by
              rw [hWA]
              have := heap_alloc_new ((wr.alloc (.cells #[.int .i64 q.1, .int .i64 q.2.1, .int .i64 q.2.2] plT)).alloc (.cells #[.int .i64 q.1, .int .i64 q.2.1, .int .i64 q.2.2] plT)) (.cells (penc q).toArray plT)
              simpa using this
            have HWA := hide hWA
            have HBA := hide hbA
            have HNA := hide hnA
            clear hWA hbA hnA
            go_wp2_with (at_builtin; refine wpList_push (enc := penc) (k := 3) rfl (.tmp 58) (.tmp 60) 24 rfl plT (.agg #[.int .i64 0, .int .i64 0, .int .i64 0]) 24 Tryz.underlying24 pl_info rfl (by decide) penc_len penc_one w.heap.size _ T rfl (by have := own_below HR.out.1 HBA.out; rw [HWA.out] at this; exact this) (wr.heap.size + 1 + 1) q rfl (by have := HNA.out; rw [HWA.out] at this; exact this) ?c1 ?c2 ?c3 ?_)
            case c1 => omega
            case c2 => omega
            case c3 => simp; omega
            intro v4 w4 ho4 hg4 _
            have hg5 : WA.grownBy w4 u11.ownBlock := by rw [HWA.out]; exact hg4
            have hB4 : Below w.heap.size w w4 := (HR.out.2.2.1.trans (HBA.out.mono hz)).grown hg5 (by have := HBA.out.size; omega) fun g hg => (HR.out.1.lt g hg).1
            have hM9 := HR.out.2.1.below HBA.out
            have hM4 : MapF plKs w4 w.heap.size ms.length (mapM ms) := hM9.stay (hg5.block _ hM9.lt fun e => by
              rcases (own_below HR.out.1 HBA.out).2 with ⟨e2, -⟩ | ⟨g, cap9, cur9, e2, -, hcur, -⟩
              · rw [e2] at e; simp [Value.ownBlock] at e
              · rw [e2] at e; simp only [Value.ownBlock, Option.some.injEq] at e
                exact hM9.ne hcur e.symm)
            have ho4' : w4.ownsRow w.heap.size plT 3 v4 ((l.take (k + 1)).map (sw ms)).length (rc penc ((l.take (k + 1)).map (sw ms))) := by
              rw [HN.out, List.length_append]; exact ho4
            have HF := hide (And.intro ho4' (And.intro hM4 hB4))
            clear ho4 hg4 hg5 hB4 hM9 hM4 ho4' c0 c1 c2 hlk'
            go_wp2
            go_roundw
            case rel => exact ⟨k + 1, by omega, by go_num, HF.out.1, HF.out.2.1, HF.out.2.2⟩
            case measure => simp [intOf]; omega
        · obtain rfl : k = l.length := by omega
          have i3 : ¬ (l.length : Int) < (l.length : Int) := by omega
          rw [List.take_length] at hrow
          go_wp2
          go_ret2
          rw [List.length_map] at hrow
          exact ⟨_, rfl, hrow, hb⟩

end Go.Proofs.YtgfmnffaknmcnaaGreatDoor.Sw
