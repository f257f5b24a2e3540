/- Layer 12: a walk over sweep.go: Swing. -/
import Derived.Test.YtcaboefpdejlmaaSwArgs
import Derived.Test.YtcaboefpdejlmaaSwPlan
namespace Go.Proofs.Ytcaboefpdejlmaa.Sw
open Go.RowKit Go.Joins Go.Sort Go.Maps Gk

/-- where a place moves to, if it does -/
def wayF (ms : List Mv) (p : Pc) : Option Pc := (ms.find? fun m => decide (m.1 = p)).map (·.2)
theorem wayF_snoc (ms : List Mv) (m : Mv) (p : Pc) : wayF (ms ++ [m]) p = match wayF ms p with | some q => some q | none => if m.1 = p then some m.2 else none := by
  unfold wayF
  rw [List.find?_append]
  cases h : ms.find? fun m => decide (m.1 = p) with
  | some q => rfl
  | none =>
    by_cases e : m.1 = p
    · simp [e]
    · simp [e]
def sw (ms : List Mv) (p : Pc) : Pc := (wayF ms p).getD p
/-- the map of moves -/
def mapM (ms : List Mv) (p : Pc) : Option Value := (wayF ms p).map plv
theorem mapM_old {ms : List Mv} {m : Mv} (h : (mapM ms m.1).isSome = true) : mapM (ms ++ [m]) = mapM ms := by
  funext p
  unfold mapM at *
  rw [wayF_snoc]
  cases hw : wayF ms p with
  | some q => rfl
  | none =>
    by_cases e : m.1 = p
    · subst e; rw [hw] at h; cases h
    · simp [e]
theorem mapM_new {ms : List Mv} {m : Mv} (h : (mapM ms m.1).isSome = false) : mapM (ms ++ [m]) = updF (mapM ms) m.1 (plv m.2) := by
  funext p
  by_cases e : p = m.1
  · subst e
    rw [updF_same]
    unfold mapM at *
    rw [wayF_snoc]
    cases hw : wayF ms m.1 with
    | some q => rw [hw] at h; cases h
    | none => simp
  · rw [updF_other _ _ e]
    unfold mapM
    rw [wayF_snoc]
    cases hw : wayF ms p with
    | some q => rfl
    | none => simp [Ne.symm e]
theorem wayF_mem {ms : List Mv} {p q : Pc} (h : wayF ms p = some q) : (p, q) ∈ ms := by
  unfold wayF at h
  cases hf : ms.find? fun m => decide (m.1 = p) with
  | none => rw [hf] at h; cases h
  | some m =>
    rw [hf] at h
    have h1 := List.mem_of_find?_eq_some hf
    have h2 := List.find?_some hf
    simp only [decide_eq_true_eq] at h2
    cases h
    rw [← h2]; exact h1
theorem wayF_none {ms : List Mv} {p : Pc} (h : wayF ms p = none) : ∀ m ∈ ms, m.1 ≠ p := by
  unfold wayF at h
  rw [Option.map_eq_none_iff, List.find?_eq_none] at h
  intro m hm e
  exact h m hm (by simp [e])

abbrev MvT : TypeId := 50
abbrev WyT : TypeId := 46
theorem pl_info : (Try.prog.info? plT).map (fun i => (i.zero, i.size, i.bytes)) = some (some (.agg #[.int .i64 0, .int .i64 0, .int .i64 0]), 3, 24) := by kernel_rfl
theorem zero_pl (w : World) : (zeroValue plT).run Try.prog w = .ok (.agg #[.int .i64 0, .int .i64 0, .int .i64 0]) w := by kernel_rfl
theorem manyM_any (a : Option Addr) (n cap : Nat) (w : World) (h : n ≤ 4096) : Calls Try.prog 24 #[.slice a n cap] w fun e w' => e = .returned (.bool false) ∧ w' = w := by
  have h1 : ¬ (4096 : Int) < (n : Int) := by omega
  go_enter Try.func24, Try.ntmps24
  go_wp2
  go_ret
  exact ⟨rfl, rfl⟩
abbrev mcells (m : Mv) : Array Value := #[.int .i64 m.1.1, .int .i64 m.1.2.1, .int .i64 m.1.2.2, .int .i64 m.2.1, .int .i64 m.2.2.1, .int .i64 m.2.2.2]

set_option maxHeartbeats 3200000 in
set_option maxRecDepth 100000 in
theorem Swing_any (a : Option Addr) (cap : Nat) (l : List Pc) (am : Option Addr) (cm : Nat) (ms : List Mv) (w : World) (hl : Lies w penc a l) (hn : l.length ≤ 4096) (hm : Lies w menc am ms) (hnm : ms.length ≤ 4096) (hfl : ∀ p ∈ l, Fit3 p) (hfm : ∀ m ∈ ms, Fit3 m.1 ∧ Fit3 m.2) :
    Calls Try.prog 11 #[.slice a l.length cap, .slice am ms.length cm] w fun e w' => ∃ f, e = .returned (.tuple #[f, .int .i64 0]) ∧ w'.ownsRow w.heap.size plT 3 f (l.map (sw ms)).length (rc penc (l.map (sw ms))) ∧ Below w.heap.size w w' := by
  have mixed : Try.prog.follows .mixedOrders = true := by kernel_rfl
  have hT := fun W => many_any a l.length cap W
  simp only [decide_eq_false (show ¬ 4096 < l.length by omega)] at hT
  have hT2 := fun W => manyM_any am ms.length cm W hnm
  have hmk := @run_makeMap Try.prog
  have hMp := MapF.made plKs w
  have hbm := below_alloc1 w (.map #[] 0)
  go_enter Try.func11, Try.ntmps11
  go_wp2_with (first | (go_at_call 19; refine (hT _).mono ?_; rintro e w2 ⟨rfl, hw2⟩; obtain rfl := hw2.symm) | (go_at_call 24; refine (hT2 _).mono ?_; rintro e w2 ⟨rfl, hw2⟩; obtain rfl := hw2.symm))
  have HW := hide (And.intro hMp hbm)
  clear hT hT2 hmk hMp hbm
  go_loopw [25] (fun i wr => ∃ k : Nat, k ≤ ms.length ∧ i = .int .i64 k ∧ MapF plKs wr w.heap.size k (mapM (ms.take k)) ∧ Below w.heap.size w wr) (fun i _ => ms.length - (intOf i).toNat)
  case atStart => exact ⟨0, Nat.zero_le _, rfl, HW.out.1, HW.out.2⟩
  case round =>
    clear HW
    obtain ⟨k, hk, rfl, hM, hb⟩ := hrel
    by_cases hlt : k < ms.length
    · obtain ⟨b, off, rfl, hbl, hc⟩ := (hm.below hb).at menc_len k hlt
      have i1 : (0 : Int) ≤ (k : Int) := by omega
      have i2 : (k : Int) < (ms.length : Int) := by omega
      have c0 := hc 0 _ rfl
      have c1 := hc 1 _ rfl
      have c2 := hc 2 _ rfl
      have c3 := hc 3 _ rfl
      have c4 := hc 4 _ rfl
      have c5 := hc 5 _ rfl
      rw [Nat.add_zero] at c0
      have hf := (hfm ms[k] (List.getElem_mem hlt)).1
      have hnx := List.take_succ_eq_append_getElem hlt
      generalize ms[k] = x at c0 c1 c2 c3 c4 c5 hf hnx
      have hbx := below_alloc1 wr (.cells (mcells x) MvT)
      have hlk := (hM.below hbx).look_ok (t := WyT) (e := plT) Try.underlying46 (zero_pl _) hf
      have hlk' : (Instr.lookup WyT (.map (some w.heap.size)) (plv x.1) true).run Try.prog (wr.alloc (.cells (mcells x) MvT)) = .ok (.tuple #[(mapM (ms.take k) x.1).getD (.agg #[.int .i64 0, .int .i64 0, .int .i64 0]), .bool (mapM (ms.take k) x.1).isSome]) (wr.alloc (.cells (mcells x) MvT)) := hlk
      have hz := hb.size
      cases his : (mapM (ms.take k) x.1).isSome with
      | true =>
        rw [his] at hlk'
        obtain ⟨gd, hgd⟩ : ∃ gd : Pc, (mapM (ms.take k) x.1).getD (.agg #[.int .i64 0, .int .i64 0, .int .i64 0]) = plv gd := by
          unfold mapM at his ⊢
          cases hw : wayF (ms.take k) x.1 with
          | none => exact ⟨(0, 0, 0), rfl⟩
          | some q => exact ⟨q, rfl⟩
        rw [hgd] at hlk'
        clear hgd
        have hbx2 : Below wr.heap.size wr ((wr.alloc (.cells (mcells x) MvT)).alloc (.cells #[.int .i64 gd.1, .int .i64 gd.2.1, .int .i64 gd.2.2] plT)) := hbx.alloc (by simp) _
        have hM2 : MapF plKs ((wr.alloc (.cells (mcells x) MvT)).alloc (.cells #[.int .i64 gd.1, .int .i64 gd.2.1, .int .i64 gd.2.2] plT)) w.heap.size (k + 1) (mapM (ms.take (k + 1))) := by
          rw [hnx, mapM_old his]; exact (hM.below hbx2).mono (Nat.le_succ _)
        have HF := hide (And.intro hM2 (hb.trans (hbx2.mono hb.size)))
        clear hbx2
        clear hc hlk hM2 hM hb hbx hnx his hf
        go_wp2
        go_roundw
        case rel => exact ⟨k + 1, by omega, by go_num, HF.out.1, HF.out.2⟩
        case measure => simp [intOf]; omega
      | false =>
        rw [his] at hlk'
        have hgd : (mapM (ms.take k) x.1).getD (.agg #[.int .i64 0, .int .i64 0, .int .i64 0]) = .agg #[.int .i64 0, .int .i64 0, .int .i64 0] := by
          cases hw : mapM (ms.take k) x.1 with
          | none => rfl
          | some q => rw [hw] at his; cases his
        rw [hgd] at hlk'
        clear hgd
        have hbx2 : Below wr.heap.size wr ((wr.alloc (.cells (mcells x) MvT)).alloc (.cells #[.int .i64 0, .int .i64 0, .int .i64 0] plT)) := hbx.alloc (by simp) _
        obtain ⟨w4, hrun, hM4, hg4⟩ := (hM.below hbx2).put (t := WyT) (e := plT) Try.underlying46 (by omega) hf (plv x.2)
        have hrun' : (Instr.mapUpdate WyT (.map (some w.heap.size)) (plv x.1) (plv x.2)).run Try.prog ((wr.alloc (.cells (mcells x) MvT)).alloc (.cells #[.int .i64 0, .int .i64 0, .int .i64 0] plT)) = .ok () w4 := hrun
        rw [← mapM_new his, ← hnx] at hM4
        have hb4 : Below w.heap.size w w4 := (hb.trans (hbx2.mono hb.size)).grown hg4 (by simp; omega) fun g' e => by cases e; exact Nat.le_refl _
        clear hbx2
        have HF := hide (And.intro hM4 hb4)
        clear hc hlk hrun hM4 hb4 hg4 hM hb hbx hnx his hf
        go_wp2
        go_roundw
        case rel => exact ⟨k + 1, by omega, by go_num, HF.out.1, HF.out.2⟩
        case measure => simp [intOf]; omega
    · obtain rfl : k = ms.length := by omega
      have i2 : ¬ (ms.length : Int) < (ms.length : Int) := by omega
      rw [List.take_length] at hM
      have HM := hide (And.intro hM hb)
      clear hM hb
      go_wp2
      go_loopw [11, 46] (fun fv i wr => ∃ k : Nat, k ≤ l.length ∧ i = .int .i64 k ∧ wr.ownsRow w.heap.size plT 3 fv ((l.take k).map (sw ms)).length (rc penc ((l.take k).map (sw ms))) ∧ MapF plKs wr w.heap.size ms.length (mapM ms) ∧ Below w.heap.size w wr) (fun _ i _ => l.length - (intOf i).toNat)
      case atStart => exact ⟨0, Nat.zero_le _, rfl, World.ownsRow_nil _ _ _ _, HM.out.1, HM.out.2⟩
      case round =>
        clear HM
        obtain ⟨k, hk, rfl, hrow, hM, hb⟩ := hrel
        by_cases hkl : k < l.length
        · obtain ⟨b, off, rfl, hbl, hc⟩ := (hl.below hb).at penc_len k hkl
          have i1 : (0 : Int) ≤ (k : Int) := by omega
          have i3 : (k : Int) < (l.length : Int) := by omega
          have c0 := hc 0 _ rfl
          have c1 := hc 1 _ rfl
          have c2 := hc 2 _ rfl
          rw [Nat.add_zero] at c0
          have hf := hfl l[k] (List.getElem_mem hkl)
          have hnx : (l.take (k + 1)).map (sw ms) = (l.take k).map (sw ms) ++ [sw ms l[k]] := by rw [List.take_succ_eq_append_getElem hkl, List.map_append]; rfl
          have hTl : ((l.take k).map (sw ms)).length ≤ 4096 := by rw [List.length_map, List.length_take]; omega
          generalize l[k] = x at c0 c1 c2 hf hnx
          generalize (l.take k).map (sw ms) = T at hrow hnx hTl
          have hbx := below_alloc1 wr (.cells #[.int .i64 x.1, .int .i64 x.2.1, .int .i64 x.2.2] plT)
          have hlk := (hM.below hbx).look_ok (t := WyT) (e := plT) Try.underlying46 (zero_pl _) hf
          have hlk' : (Instr.lookup WyT (.map (some w.heap.size)) (plv x) true).run Try.prog (wr.alloc (.cells #[.int .i64 x.1, .int .i64 x.2.1, .int .i64 x.2.2] plT)) = .ok (.tuple #[(mapM ms x).getD (.agg #[.int .i64 0, .int .i64 0, .int .i64 0]), .bool (mapM ms x).isSome]) (wr.alloc (.cells #[.int .i64 x.1, .int .i64 x.2.1, .int .i64 x.2.2] plT)) := hlk
          have hz := hb.size
          have HR := hide (And.intro hrow (And.intro hM (And.intro hb hbx)))
          cases hw : wayF ms x with
          | none =>
            have e1 : mapM ms x = none := by unfold mapM; rw [hw]; rfl
            rw [e1] at hlk'
            have e2 : sw ms x = x := by unfold sw; rw [hw]; rfl
            rw [e2] at hnx
            have HN := hide hnx
            clear hc hlk hrow hM hb hbx hnx hf e1 e2 hw
            obtain ⟨WA, hWA⟩ : ∃ WA, WA = ((wr.alloc (.cells #[.int .i64 x.1, .int .i64 x.2.1, .int .i64 x.2.2] plT)).alloc (.cells #[.int .i64 0, .int .i64 0, .int .i64 0] plT)).alloc (.cells (penc x).toArray plT) := ⟨_, rfl⟩
            have hbA : Below wr.heap.size wr WA := by rw [hWA]; exact ((below_alloc1 wr _).alloc (by simp) _).alloc (by simp; omega) _
            have hnA : WA.heap[wr.heap.size + 1 + 1]? = some (.cells (penc x).toArray plT (0, 0)) := by
              rw [hWA]
              have := heap_alloc_new ((wr.alloc (.cells #[.int .i64 x.1, .int .i64 x.2.1, .int .i64 x.2.2] plT)).alloc (.cells #[.int .i64 0, .int .i64 0, .int .i64 0] plT)) (.cells (penc x).toArray plT)
              simpa using this
            have HWA := hide hWA
            have HBA := hide hbA
            have HNA := hide hnA
            clear hWA hbA hnA
            go_wp2_with (at_builtin; refine wpList_push (enc := penc) (k := 3) rfl (.tmp 58) (.tmp 60) 23 rfl plT (.agg #[.int .i64 0, .int .i64 0, .int .i64 0]) 24 Try.underlying23 pl_info rfl (by decide) penc_len penc_one w.heap.size _ T rfl (by have := own_below HR.out.1 HBA.out; rw [HWA.out] at this; exact this) (wr.heap.size + 1 + 1) x rfl (by have := HNA.out; rw [HWA.out] at this; exact this) ?c1 ?c2 ?c3 ?_)
            case c1 => omega
            case c2 => omega
            case c3 => simp; omega
            intro v4 w4 ho4 hg4 _
            have hg5 : WA.grownBy w4 u11.ownBlock := by rw [HWA.out]; exact hg4
            have hB4 : Below w.heap.size w w4 := (HR.out.2.2.1.trans (HBA.out.mono hz)).grown hg5 (by have := HBA.out.size; omega) fun g hg => (HR.out.1.lt g hg).1
            have hM9 := HR.out.2.1.below HBA.out
            have hM4 : MapF plKs w4 w.heap.size ms.length (mapM ms) := hM9.stay (hg5.block _ hM9.lt fun e => by
              rcases (own_below HR.out.1 HBA.out).2 with ⟨e2, -⟩ | ⟨g, cap9, cur9, e2, -, hcur, -⟩
              · rw [e2] at e; simp [Value.ownBlock] at e
              · rw [e2] at e; simp only [Value.ownBlock, Option.some.injEq] at e
                exact hM9.ne hcur e.symm)
            have ho4' : w4.ownsRow w.heap.size plT 3 v4 ((l.take (k + 1)).map (sw ms)).length (rc penc ((l.take (k + 1)).map (sw ms))) := by
              rw [HN.out, List.length_append]; exact ho4
            have HF := hide (And.intro ho4' (And.intro hM4 hB4))
            clear ho4 hg4 hg5 hB4 hM9 hM4 ho4' c0 c1 c2 hlk'
            go_wp2
            go_roundw
            case rel => exact ⟨k + 1, by omega, by go_num, HF.out.1, HF.out.2.1, HF.out.2.2⟩
            case measure => simp [intOf]; omega
          | some q =>
            have e1 : mapM ms x = some (plv q) := by unfold mapM; rw [hw]; rfl
            rw [e1] at hlk'
            have e2 : sw ms x = q := by unfold sw; rw [hw]; rfl
            rw [e2] at hnx
            have HN := hide hnx
            clear hc hlk hrow hM hb hbx hnx hf e1 e2 hw
            obtain ⟨WA, hWA⟩ : ∃ WA, WA = ((wr.alloc (.cells #[.int .i64 q.1, .int .i64 q.2.1, .int .i64 q.2.2] plT)).alloc (.cells #[.int .i64 q.1, .int .i64 q.2.1, .int .i64 q.2.2] plT)).alloc (.cells (penc q).toArray plT) := ⟨_, rfl⟩
            have hbA : Below wr.heap.size wr WA := by rw [hWA]; exact ((below_alloc1 wr _).alloc (by simp) _).alloc (by simp; omega) _
            have hnA : WA.heap[wr.heap.size + 1 + 1]? = some (.cells (penc q).toArray plT (0, 0)) := by
              rw [hWA]
              have := heap_alloc_new ((wr.alloc (.cells #[.int .i64 q.1, .int .i64 q.2.1, .int .i64 q.2.2] plT)).alloc (.cells #[.int .i64 q.1, .int .i64 q.2.1, .int .i64 q.2.2] plT)) (.cells (penc q).toArray plT)
              simpa using this
            have HWA := hide hWA
            have HBA := hide hbA
            have HNA := hide hnA
            clear hWA hbA hnA
            go_wp2_with (at_builtin; refine wpList_push (enc := penc) (k := 3) rfl (.tmp 58) (.tmp 60) 23 rfl plT (.agg #[.int .i64 0, .int .i64 0, .int .i64 0]) 24 Try.underlying23 pl_info rfl (by decide) penc_len penc_one w.heap.size _ T rfl (by have := own_below HR.out.1 HBA.out; rw [HWA.out] at this; exact this) (wr.heap.size + 1 + 1) q rfl (by have := HNA.out; rw [HWA.out] at this; exact this) ?c1 ?c2 ?c3 ?_)
            case c1 => omega
            case c2 => omega
            case c3 => simp; omega
            intro v4 w4 ho4 hg4 _
            have hg5 : WA.grownBy w4 u11.ownBlock := by rw [HWA.out]; exact hg4
            have hB4 : Below w.heap.size w w4 := (HR.out.2.2.1.trans (HBA.out.mono hz)).grown hg5 (by have := HBA.out.size; omega) fun g hg => (HR.out.1.lt g hg).1
            have hM9 := HR.out.2.1.below HBA.out
            have hM4 : MapF plKs w4 w.heap.size ms.length (mapM ms) := hM9.stay (hg5.block _ hM9.lt fun e => by
              rcases (own_below HR.out.1 HBA.out).2 with ⟨e2, -⟩ | ⟨g, cap9, cur9, e2, -, hcur, -⟩
              · rw [e2] at e; simp [Value.ownBlock] at e
              · rw [e2] at e; simp only [Value.ownBlock, Option.some.injEq] at e
                exact hM9.ne hcur e.symm)
            have ho4' : w4.ownsRow w.heap.size plT 3 v4 ((l.take (k + 1)).map (sw ms)).length (rc penc ((l.take (k + 1)).map (sw ms))) := by
              rw [HN.out, List.length_append]; exact ho4
            have HF := hide (And.intro ho4' (And.intro hM4 hB4))
            clear ho4 hg4 hg5 hB4 hM9 hM4 ho4' c0 c1 c2 hlk'
            go_wp2
            go_roundw
            case rel => exact ⟨k + 1, by omega, by go_num, HF.out.1, HF.out.2.1, HF.out.2.2⟩
            case measure => simp [intOf]; omega
        · obtain rfl : k = l.length := by omega
          have i3 : ¬ (l.length : Int) < (l.length : Int) := by omega
          rw [List.take_length] at hrow
          go_wp2
          go_ret2
          rw [List.length_map] at hrow
          exact ⟨_, rfl, hrow, hb⟩

end Go.Proofs.Ytcaboefpdejlmaa.Sw
