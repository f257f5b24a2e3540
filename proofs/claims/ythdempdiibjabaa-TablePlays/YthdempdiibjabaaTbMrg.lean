/- Layer 9: Take: walks over rows.go: merged; table.go: Take. -/
import Derived.Test.YthdempdiibjabaaTbTake
namespace Go.Proofs.Ythdempdiibjabaa.Tb
open Go.RowKit Go.Joins Go.Proofs.Ythdempdiibjabaa.Gk Go.Proofs.Ythdempdiibjabaa.Oq Go.Proofs.Ythdempdiibjabaa.Sp

/-- how far a merge has come -/
structure MI (l m : List Rw) (k : Nat) (G E : List Rw) : Prop where
  eq : G ++ E = puts l (m.take k)
  rise : Rise E
  ahead : ∀ x ∈ G, ∀ j (hj : j < m.length), k ≤ j → B4 x.key m[j].key = true
  many : G.length + E.length ≤ l.length + k
  few : E.length ≤ l.length
theorem MI.start {l m : List Rw} (h : Rise l) : Hid (MI l m 0 [] l) := hide ⟨rfl, h, by simp, by simp, Nat.le_refl _⟩
theorem MI.len {l m : List Rw} {k : Nat} {G E : List Rw} (h : MI l m k G E) (hk : k ≤ m.length) : G.length + E.length ≤ l.length + m.length := by have := h.many; omega
theorem MI.step {l m : List Rw} {k : Nat} {G E : List Rw} (h : MI l m k G E) (hm : Rise m) (hk : k < m.length) :
    MI l m (k + 1) (G ++ E.take (pos E m[k].key) ++ [m[k]]) (E.drop (pos E m[k].key + if there E m[k].key then 1 else 0)) := by
  refine ⟨?_, List.Pairwise.drop h.rise, ?_, ?_, by rw [List.length_drop]; have := h.few; omega⟩
  · rw [List.take_succ_eq_append_getElem hk, puts_snoc, ← h.eq]
    exact (merge_step h.rise fun x hx => h.ahead x hx k hk (Nat.le_refl _)).symm
  · intro x hx j hj hkj
    have hkj2 : B4 m[k].key m[j].key = true := (List.pairwise_iff_getElem.1 hm) k j hk hj (by omega)
    rcases List.mem_append.1 hx with hx | hx
    · rcases List.mem_append.1 hx with hx | hx
      · exact h.ahead x hx j hj (by omega)
      · rw [take_pos h.rise] at hx
        exact B4.tr (List.mem_filter.1 hx).2 hkj2
    · rw [List.mem_singleton.1 hx]; exact hkj2
  · have h1 := h.many
    have h2 := pos_le E m[k].key
    simp only [List.length_append, List.length_take, List.length_drop, List.length_cons, List.length_nil]
    omega

set_option maxRecDepth 100000 in
set_option maxHeartbeats 1600000 in
theorem merged_any (a a' : Option Addr) (cap cap' : Nat) (l m : List Rw) (w : World) (hok : Rise l) (hm : Rise m) (hl : RL w a cap l) (hlm : Lies w rwenc a' m) (hn : l.length ≤ 4096) (hn' : m.length ≤ 100000) :
    Calls Try.prog 40 #[.slice a l.length cap, .slice a' m.length cap'] w fun e w' => ∃ a3 cap3 L, e = .returned (.slice a3 L.length cap3) ∧ L = puts l m ∧ w'.ownsRow w.heap.size RowT 3 (.slice a3 L.length cap3) L.length (rc rwenc L) ∧ Below w.heap.size w w' := by
  go_enter Try.func40, Try.ntmps40
  go_wp2
  go_loopw [0, 5, 12] (fun ev av i wr => ∃ (k : Nat) (aE : Option Addr) (cE : Nat) (E : List Rw) (G : List Rw), k ≤ m.length ∧ i = .int .i64 k ∧ ev = .slice aE E.length cE ∧ RL w aE cE E ∧ Hid (MI l m k G E) ∧ wr.ownsRow w.heap.size RowT 3 av G.length (rc rwenc G) ∧ Below w.heap.size w wr) (fun _ _ i _ => m.length - (intOf i).toNat)
  case atStart => exact ⟨0, a, cap, l, [], Nat.zero_le _, rfl, rfl, hl, MI.start hok, World.ownsRow_nil _ _ _ _, Below.refl _ _⟩
  case round =>
    obtain ⟨k, aE, cE, E, G, hk, rfl, rfl, hE, HM, hown, hbel⟩ := hrel
    obtain ⟨gv, gc, rfl⟩ := Gk.own_slice hown
    have hwr := hbel.size
    have hEG := HM.out.len hk
    have hEr := HM.out.rise
    have hEf := HM.out.few
    by_cases hlt : k < m.length
    · obtain ⟨b, off, rfl, hbl, hc⟩ := (hlm.below hbel).at (k := 3) rwenc_len k hlt
      have c0 := hc 0 _ rfl
      have c1 := hc 1 _ rfl
      have c2 := hc 2 _ rfl
      rw [Nat.add_zero] at c0
      clear hc
      have HS := hide (HM.out.step hm hlt)
      have i3 : (0 : Int) ≤ (k : Int) := by omega
      have i4 : (k : Int) < (m.length : Int) := by omega
      generalize m[k] = x at *
      obtain ⟨key, stamp, val⟩ := x
      simp only at c0 c1 c2 HS
      have hb0 := hbel.trans ((below_a1 wr (.cells #[.string key, .int .i64 stamp, .string val] RowT)).mono hbel.size)
      have hFx := find_any aE cE key E hEr (by omega) _ (hE.lies.below hb0)
      have hpE := pos_le E key
      have hx0 := heap_alloc_new wr (.cells #[.string key, .int .i64 stamp, .string val] RowT)
      have hthE := there_pos hEr key
      rcases hE with ⟨rfl, rfl, rfl⟩ | ⟨g, eo, cur, rfl, hg, hsz, hroom, hmax, hcc⟩
      · rw [show pos ([] : List Rw) key = 0 from rfl, show there ([] : List Rw) key = false from rfl] at hFx HS
        simp only [List.take_nil, List.append_nil, List.drop_nil] at HS
        go_wp2_with fail
        refine hFx.mono ?_
        rintro e w1 ⟨rfl, hg1⟩
        have hb1 := hb0.trans (hg1.below.mono hb0.size)
        have hx1 := (hg1.below.block _ (Array.getElem?_eq_some_iff.1 hx0).1).trans hx0
        have q0 : w1.cell? ⟨wr.heap.size, 0, none⟩ = some (.string key) := cellB hx1 0 rfl
        have q1 : w1.cell? ⟨wr.heap.size, 1, none⟩ = some (.int .i64 stamp) := cellB hx1 1 rfl
        have q2 : w1.cell? ⟨wr.heap.size, 2, none⟩ = some (.string val) := cellB hx1 2 rfl
        have hzq := (Array.getElem?_eq_some_iff.1 hx1).1
        have hownA := own_below hown ((below_a1 wr (.cells #[.string key, .int .i64 stamp, .string val] RowT)).trans (hg1.below.mono (by simp)))
        have hA1 : w1.drew.ownsRow w.heap.size RowT 3 (.slice gv G.length gc) G.length (rc rwenc G) := own_below hownA (Below.refl _ _).drew
        have hA2 : ∀ o : Obj, (w1.alloc o).drew.ownsRow w.heap.size RowT 3 (.slice gv G.length gc) G.length (rc rwenc G) := fun o => own_below hownA (below_a1 w1 o).drew
        have hD1 : Below w.heap.size w w1.drew := hb1.drew
        have hD2 : ∀ o : Obj, Below w.heap.size w (w1.alloc o).drew := fun o => (hb1.alloc hb1.size o).drew
        have hN2 : ∀ o : Obj, (w1.alloc o).drew.heap[w1.heap.size]? = some o := fun o => heap_alloc_new w1 o
        have HA1 := hide hA1
        have HA2 := hide hA2
        have HD1 := hide hD1
        have HD2 := hide hD2
        have HN2 := hide hN2
        have HOA := hide hownA
        have HW : Hid (∀ g, (Value.slice gv G.length gc).ownBlock = some g → g < wr.heap.size) := fun g hg => (hown.lt g hg).2
        have HX1 : Hid (w1.drew.heap[wr.heap.size]? = some (.cells #[.string key, .int .i64 stamp, .string val] RowT (0, 0))) := hx1
        have HX2 : Hid (∀ o : Obj, (w1.alloc o).drew.heap[wr.heap.size]? = some (.cells #[.string key, .int .i64 stamp, .string val] RowT (0, 0))) := fun o => ((below_a1 w1 o).block _ (Array.getElem?_eq_some_iff.1 hx1).1).trans hx1
        clear hA1 hA2 hD1 hD2 hN2 hownA hown hbel hx0 hx1 hg1 hb0 hFx c0 c1 c2
        go_wp2_with fail
        go_region_law (first
          | (refine step_append_at (enc := rwenc) (k := 3) (by rfl) (.tmp 23) (.tmp 26) RowsT (by rfl) RowT noRw 40 Try.underlying26 row_info rfl (by decide) rwenc_len rwenc_one w.heap.size _ G (by rfl) (by first | exact HA1.out | exact HA2.out _) Option.none ([] : List Rw) 0 0 (by rfl) rfl (Or.inl rfl) (fun _ => rfl) (by simp; omega) (by simp; omega) (by first | exact HD1.out.size | exact (HD2.out _).size) ?_; intro ad3 cap3 w3 hown3 hg3; have hbel3 : Below w.heap.size w w3 := (by first | exact HD1.out.grown hg3 HD1.out.size (fun k hk => (HOA.out.lt k hk).1) | exact (HD2.out _).grown hg3 (HD2.out _).size (fun k hk => (HOA.out.lt k hk).1)); have hx3 : w3.heap[wr.heap.size]? = some (.cells #[.string key, .int .i64 stamp, .string val] RowT (0, 0)) := (by first | exact (hg3.block _ (Array.getElem?_eq_some_iff.1 HX1.out).1 (fun e => by have := HW.out _ e.symm; omega)).trans HX1.out | exact (hg3.block _ (Array.getElem?_eq_some_iff.1 (HX2.out _)).1 (fun e => by have := HW.out _ e.symm; omega)).trans (HX2.out _)); have s0 : w3.cell? ⟨wr.heap.size, 0, none⟩ = some (.string key) := cellB hx3 0 rfl; have s1 : w3.cell? ⟨wr.heap.size, 1, none⟩ = some (.int .i64 stamp) := cellB hx3 1 rfl; have s2 : w3.cell? ⟨wr.heap.size, 2, none⟩ = some (.string val) := cellB hx3 2 rfl)
          | (refine step_append_at (enc := rwenc) (k := 3) (by rfl) (.tmp 27) (.tmp 29) RowsT (by rfl) RowT noRw 40 Try.underlying26 row_info rfl (by decide) rwenc_len rwenc_one w.heap.size _ (G ++ ([] : List Rw)) (by rfl) (hown3.alloc _) (some ⟨w3.heap.size, 0, none⟩) [⟨key, stamp, val⟩] 1 1 (by rfl) rfl (Or.inr ⟨_, 0, rfl, by simp, fun j u hj => by rw [rc_one] at hj; rw [cell_of_block (heap_alloc_new w3 _)]; simpa [rwenc] using hj⟩) (fun e => by cases e) (by simp; omega) (by simp; omega) (by simp; have := hbel3.size; omega) ?_; intro ad4 cap4 w4 hown4 hg4; have hbel4 : Below w.heap.size w w4 := (hbel3.alloc hbel3.size _).grown hg4 (by simp; have := hbel3.size; omega) (fun k hk => (hown3.lt k hk).1))
          | (refine step_append_at (enc := rwenc) (k := 3) (by rfl) (.tmp 27) (.tmp 29) RowsT (by rfl) RowT noRw 40 Try.underlying26 row_info rfl (by decide) rwenc_len rwenc_one w.heap.size _ (G ++ ([] : List Rw)) (by rfl) hown3 (some ⟨w1.heap.size, 0, none⟩) [⟨key, stamp, val⟩] 1 1 (by rfl) rfl ?zl (fun e => by cases e) (by simp; omega) (by simp; omega) hbel3.size ?_; (case zl => have h9 := (hg3.block w1.heap.size (by simp) (fun e => by have := (HOA.out.lt _ e.symm).2; omega)).trans (HN2.out _); exact Or.inr ⟨_, 0, rfl, (Array.getElem?_eq_some_iff.1 h9).1, fun j u hj => by rw [rc_one] at hj; rw [cell_of_block h9]; simpa [rwenc] using hj⟩); intro ad4 cap4 w4 hown4 hg4; have hbel4 : Below w.heap.size w w4 := hbel3.grown hg4 hbel3.size (fun k hk => (hown3.lt k hk).1)))
        all_goals
          have hO : w4.ownsRow w.heap.size RowT 3 (.slice ad4 (G.length + 1) cap4) (G ++ [(⟨key, stamp, val⟩ : Rw)]).length (rc rwenc (G ++ [(⟨key, stamp, val⟩ : Rw)])) := by simpa using hown4
          clear hown3 hg3 hown4 hg4 hbel3 q0 q1 q2 s0 s1 s2 hx3
          go_wp2
          go_roundw
          case rel => exact ⟨k + 1, none, 0, [], G ++ [⟨key, stamp, val⟩], by omega, by go_num, rfl, RL.nil _, HS, hO, hbel4⟩
          case measure => simp [intOf]; omega
      · have hL1 : RL w (some ⟨g, eo, none⟩) cE E := Or.inr ⟨g, eo, cur, rfl, hg, hsz, hroom, hmax, hcc⟩
        have hA : RL w (some ⟨g, eo, none⟩) cE (E.take (pos E key)) := by
          have := hL1.part 0 (pos E key) cE (Nat.zero_le _) hpE (by omega) (Nat.le_refl _)
          simpa using this
        have hTl : (E.take (pos E key)).length = pos E key := by rw [List.length_take]; omega
        have HTL := hide hTl
        obtain ⟨P, hP⟩ : ∃ P, P = E.take (pos E key) := ⟨_, rfl⟩
        rw [← hP] at HTL HS hA
        have hat : pos E key + (if there E key then 1 else 0) ≤ E.length := by
          cases hq : there E key
          · simpa using hpE
          · obtain ⟨h1, _⟩ := hthE.1 hq
            simp only [if_true]; omega
        have hD := hL1.sub (pos E key + if there E key then 1 else 0) E.length hat (Nat.le_refl _)
        rw [List.take_length] at hD
        have hEd : (E.drop (pos E key + if there E key then 1 else 0)).length = E.length - (pos E key + if there E key then 1 else 0) := List.length_drop
        have HEd := hide hEd
        have HDD := hide hD
        have HAA := hide hA
        generalize hE2 : E.drop (pos E key + if there E key then 1 else 0) = E2 at *
        generalize pos E key = p at *
        have i5 : (0 : Int) ≤ (p : Int) := by omega
        have i6 : (p : Int) ≤ (cE : Int) := by omega
        have i7 : (p : Int) ≤ (E.length : Int) := by omega
        have i8 : (E.length : Int) ≤ (cE : Int) := by omega
        clear hL1 hA hTl hP hD hEd hE2 hg hsz hmax hcc hthE hpE
        cases hth : there E key
        all_goals
          rw [hth] at hFx HDD HEd hat
          simp only [Bool.false_eq_true, if_false, if_true, Nat.add_zero] at HDD HEd hat
          go_wp2_with fail
          refine hFx.mono ?_
          rintro e w1 ⟨rfl, hg1⟩
          have hb1 := hb0.trans (hg1.below.mono hb0.size)
          have hx1 := (hg1.below.block _ (Array.getElem?_eq_some_iff.1 hx0).1).trans hx0
          have q0 : w1.cell? ⟨wr.heap.size, 0, none⟩ = some (.string key) := cellB hx1 0 rfl
          have q1 : w1.cell? ⟨wr.heap.size, 1, none⟩ = some (.int .i64 stamp) := cellB hx1 1 rfl
          have q2 : w1.cell? ⟨wr.heap.size, 2, none⟩ = some (.string val) := cellB hx1 2 rfl
          have hzq := (Array.getElem?_eq_some_iff.1 hx1).1
          have hownA := own_below hown ((below_a1 wr (.cells #[.string key, .int .i64 stamp, .string val] RowT)).trans (hg1.below.mono (by simp)))
          have hA1 : w1.drew.ownsRow w.heap.size RowT 3 (.slice gv G.length gc) G.length (rc rwenc G) := own_below hownA (Below.refl _ _).drew
          have hA2 : ∀ o : Obj, (w1.alloc o).drew.ownsRow w.heap.size RowT 3 (.slice gv G.length gc) G.length (rc rwenc G) := fun o => own_below hownA (below_a1 w1 o).drew
          have hD1 : Below w.heap.size w w1.drew := hb1.drew
          have hD2 : ∀ o : Obj, Below w.heap.size w (w1.alloc o).drew := fun o => (hb1.alloc hb1.size o).drew
          have hN2 : ∀ o : Obj, (w1.alloc o).drew.heap[w1.heap.size]? = some o := fun o => heap_alloc_new w1 o
          have HA1 := hide hA1
          have HA2 := hide hA2
          have HD1 := hide hD1
          have HD2 := hide hD2
          have HN2 := hide hN2
          have HOA := hide hownA
          have HW : Hid (∀ g, (Value.slice gv G.length gc).ownBlock = some g → g < wr.heap.size) := fun g hg => (hown.lt g hg).2
          have HX1 : Hid (w1.drew.heap[wr.heap.size]? = some (.cells #[.string key, .int .i64 stamp, .string val] RowT (0, 0))) := hx1
          have HX2 : Hid (∀ o : Obj, (w1.alloc o).drew.heap[wr.heap.size]? = some (.cells #[.string key, .int .i64 stamp, .string val] RowT (0, 0))) := fun o => ((below_a1 w1 o).block _ (Array.getElem?_eq_some_iff.1 hx1).1).trans hx1
          clear hA1 hA2 hD1 hD2 hN2 hownA hown hbel hx0 hx1 hg1 hb0 hFx c0 c1 c2
          go_wp2_with fail
          go_region_law (first
            | (refine step_append_at (enc := rwenc) (k := 3) (by rfl) (.tmp 23) (.tmp 26) RowsT (by rfl) RowT noRw 40 Try.underlying26 row_info rfl (by decide) rwenc_len rwenc_one w.heap.size _ G (by rfl) (by first | exact HA1.out | exact HA2.out _) (some ⟨g, eo, none⟩) P p cE (by rfl) HTL.out.symm (by first | exact (HAA.out.below HD1.out).lies | exact (HAA.out.below (HD2.out _)).lies) (fun e => by cases e) (by have := HTL.out; simp; omega) (by have := HTL.out; simp; omega) (by first | exact HD1.out.size | exact (HD2.out _).size) ?_; intro ad3 cap3 w3 hown3 hg3; have hbel3 : Below w.heap.size w w3 := (by first | exact HD1.out.grown hg3 HD1.out.size (fun k hk => (HOA.out.lt k hk).1) | exact (HD2.out _).grown hg3 (HD2.out _).size (fun k hk => (HOA.out.lt k hk).1)); have hx3 : w3.heap[wr.heap.size]? = some (.cells #[.string key, .int .i64 stamp, .string val] RowT (0, 0)) := (by first | exact (hg3.block _ (Array.getElem?_eq_some_iff.1 HX1.out).1 (fun e => by have := HW.out _ e.symm; omega)).trans HX1.out | exact (hg3.block _ (Array.getElem?_eq_some_iff.1 (HX2.out _)).1 (fun e => by have := HW.out _ e.symm; omega)).trans (HX2.out _)); have s0 : w3.cell? ⟨wr.heap.size, 0, none⟩ = some (.string key) := cellB hx3 0 rfl; have s1 : w3.cell? ⟨wr.heap.size, 1, none⟩ = some (.int .i64 stamp) := cellB hx3 1 rfl; have s2 : w3.cell? ⟨wr.heap.size, 2, none⟩ = some (.string val) := cellB hx3 2 rfl)
            | (refine step_append_at (enc := rwenc) (k := 3) (by rfl) (.tmp 27) (.tmp 29) RowsT (by rfl) RowT noRw 40 Try.underlying26 row_info rfl (by decide) rwenc_len rwenc_one w.heap.size _ (G ++ P) (by rfl) (hown3.alloc _) (some ⟨w3.heap.size, 0, none⟩) [⟨key, stamp, val⟩] 1 1 (by rfl) rfl (Or.inr ⟨_, 0, rfl, by simp, fun j u hj => by rw [rc_one] at hj; rw [cell_of_block (heap_alloc_new w3 _)]; simpa [rwenc] using hj⟩) (fun e => by cases e) (by have := HTL.out; simp; omega) (by have := HTL.out; simp; omega) (by simp; have := hbel3.size; omega) ?_; intro ad4 cap4 w4 hown4 hg4; have hbel4 : Below w.heap.size w w4 := (hbel3.alloc hbel3.size _).grown hg4 (by simp; have := hbel3.size; omega) (fun k hk => (hown3.lt k hk).1))
            | (refine step_append_at (enc := rwenc) (k := 3) (by rfl) (.tmp 27) (.tmp 29) RowsT (by rfl) RowT noRw 40 Try.underlying26 row_info rfl (by decide) rwenc_len rwenc_one w.heap.size _ (G ++ P) (by rfl) hown3 (some ⟨w1.heap.size, 0, none⟩) [⟨key, stamp, val⟩] 1 1 (by rfl) rfl ?zl (fun e => by cases e) (by have := HTL.out; simp; omega) (by have := HTL.out; simp; omega) hbel3.size ?_; (case zl => have h9 := (hg3.block w1.heap.size (by simp) (fun e => by have := (HOA.out.lt _ e.symm).2; omega)).trans (HN2.out _); exact Or.inr ⟨_, 0, rfl, (Array.getElem?_eq_some_iff.1 h9).1, fun j u hj => by rw [rc_one] at hj; rw [cell_of_block h9]; simpa [rwenc] using hj⟩); intro ad4 cap4 w4 hown4 hg4; have hbel4 : Below w.heap.size w w4 := hbel3.grown hg4 hbel3.size (fun k hk => (hown3.lt k hk).1)))
          all_goals
            have hO : w4.ownsRow w.heap.size RowT 3 (.slice ad4 (G.length + P.length + 1) cap4) (G ++ P ++ [(⟨key, stamp, val⟩ : Rw)]).length (rc rwenc (G ++ P ++ [(⟨key, stamp, val⟩ : Rw)])) := by simpa using hown4
            clear hown3 hg3 hown4 hg4 hbel3 q0 q1 q2 s0 s1 s2 hx3
            have HD3 := HDD.out
            simp only [Option.map_some, Go.WideShapes.add_plain] at HD3
            have HD4 := hide HD3
            clear HD3
            go_wp2
            all_goals exact ⟨⟨k + 1, _, _, E2, G ++ P ++ [⟨key, stamp, val⟩], by omega, by go_num, by rw [HEd.out], HD4.out, HS, hO, hbel4⟩, by simp [intOf]; omega⟩
    · obtain rfl : k = m.length := by omega
      have HE : Hid (G ++ E = puts l m) := by
        have h := HM.out.eq
        rw [List.take_length] at h
        exact h
      have hnil := hE.nocap
      go_wp2_with (at_builtin; refine wpList_append_row (enc := rwenc) (k := 3) rfl (.tmp 38) (.tmp 39) RowsT rfl RowT noRw 40 Try.underlying26 row_info rfl (by decide) rwenc_len rwenc_one w.heap.size _ G rfl hown aE E E.length cE rfl rfl (hE.below hbel).lies hnil (by omega) (by omega) hwr ?_)
      intro v3 w3 hown3 hg3 hat3
      have hbel3 : Below w.heap.size w w3 := hbel.grown hg3 hwr (fun k hk => (hown.lt k hk).1)
      obtain ⟨M, hM⟩ : ∃ M, M = G ++ E := ⟨_, rfl⟩
      have hown4 : w3.ownsRow w.heap.size RowT 3 v3 M.length (rc rwenc M) := by rw [hM]; simpa using hown3
      obtain ⟨av3, cv3, rfl⟩ := Gk.own_slice hown4
      have HM2 := hide (hM.trans HE.out)
      clear hg3 hat3 hown hown3 hM HE
      go_wp2
      go_ret
      exact ⟨av3, cv3, M, rfl, HM2.out, hown4, hbel3⟩

end Go.Proofs.Ythdempdiibjabaa.Tb
