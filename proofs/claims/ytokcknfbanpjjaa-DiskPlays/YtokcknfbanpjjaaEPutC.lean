/- Walks over skylarkref02: put. -/
import Derived.Test.YtokcknfbanpjjaaEDrop
namespace Go.Proofs.Ytokcknfbanpjjaa.Dk
open Go.RowKit Go.Maps Go.Joins Gk
attribute [local go_sem ↓] Go.wp_at_zero Go.wp_at_succ

abbrev fval (k : Bs) (f : Fil) : Value := .agg #[.string (txt k), .string (txt f.data), .int .i64 f.safe]

set_option maxHeartbeats 3200000 in
set_option maxRecDepth 100000 in
theorem rPut_any {own : Nat → Prop} {br room : Nat} {l : Fls} {v : Value} {fused : Bool} {left : Int} {down : Bool} (w : World) (h : RHeldL w own br room l v fused left down) (hfr : Fresh own w) (hl : l.length ≤ 64) (hr : Rising l) (k : Bs) (f : Fil) :
    Calls Try.prog 38 #[.pointer (some ⟨br, 0, none⟩), fval k f] w fun e w' => e = .returned (.tuple #[]) ∧ (∃ v', RHeldL w' own br room (putL k f l) v' fused left down) ∧ Only own w w' := by
  have hbl := h.lt
  have hA0 := below_alloc1 w (.cells #[.string (txt k), .string (txt f.data), .int .i64 f.safe] RFil)
  have hB0 := heap_alloc_new w (.cells #[.string (txt k), .string (txt f.data), .int .i64 f.safe] RFil)
  have hP := place_any _ (h.below hA0) hl hr (txt k)
  rw [txt_list] at hP
  have hnil : v = .slice none 0 0 ∧ l = [] ∨ ∃ g cap, v = .slice (some ⟨g, 0, none⟩) l.length cap ∧ l.length ≤ cap ∧ cap ≤ 9223372036854775807 ∧ g < w.heap.size := by
    rcases h.row.2 with ⟨e, h0⟩ | ⟨g, cap, cur, e, _, hg, h1, h2, _⟩
    · exact Or.inl ⟨e, List.eq_nil_of_length_eq_zero h0⟩
    · unfold maxLen at h2
      exact Or.inr ⟨g, cap, e, h1, by omega, (Array.getElem?_eq_some_iff.1 hg).1⟩
  rcases hnil with ⟨rfl, rfl⟩ | ⟨g, cap, rfl, hc1, hc2, hgl⟩
  · have HH := hide h
    have HB0 := hide hB0
    have hp0 : posL k ([] : Fls) = 0 := rfl
    have hg0 : (getL k ([] : Fls)).isSome = false := rfl
    rw [hp0, hg0] at hP
    clear h hB0 hp0 hg0
    go_enter Try.func38, Try.ntmps38
    go_wp2_with fail
    refine hP.mono ?_
    rintro e w1 ⟨rfl, hb1⟩
    have hb01 : Below w.heap.size w w1 := hA0.trans (hb1.mono (by simp))
    have HF1 := hide ((hb1.block w.heap.size (by simp)).trans HB0.out)
    have HH1 := hide (HH.out.below hb01)
    have c1 : w1.cell? ⟨br, 1, none⟩ = some (.slice none 0 0) := HH1.out.c1
    have hz1 := hb1.size
    have hz1' : w.heap.size < w1.heap.size := by simp at hz1; omega
    have f0 : w1.cell? ⟨w.heap.size, 0, none⟩ = some (.string (txt k)) := cell_of_block HF1.out 0
    have f1 : w1.cell? ⟨w.heap.size, 1, none⟩ = some (.string (txt f.data)) := cell_of_block HF1.out 1
    have f2 : w1.cell? ⟨w.heap.size, 2, none⟩ = some (.int .i64 f.safe) := cell_of_block HF1.out 2
    clear hP hA0 hb1 hz1
    go_wp2_with (at_builtin; refine wpList_append_row (enc := rcell) (k := 3) rfl (.tmp 14) (.tmp 20) 40 rfl RFil noR 40 Try.underlying40 rfil_info rfl (by decide) rcell_len rcell_one 0 (.slice none 0 0) [] rfl (World.ownsRow_nil _ _ _ _) none [] 0 0 rfl rfl (Or.inl rfl) (fun _ => rfl) ?c1 ?c2 (Nat.zero_le _) ?_)
    case c1 => simp
    case c2 => simp
    intro v3 w3 hown3 hg3 hat3
    obtain ⟨a3, c3, rfl⟩ := Gk.own_slice hown3
    have hb3 : Below w1.heap.size w1 w3 := (Below.refl _ _).grown hg3 (Nat.le_refl _) (fun k hk => by simp [Value.ownBlock] at hk)
    have hup3 : ∀ g', (Value.slice a3 0 c3).ownBlock = some g' → w1.heap.size ≤ g' := fun g' hg' => (hat3 g' hg').elim (fun h => by simp [Value.ownBlock] at h) id
    have HF3 := hide ((hb3.block w.heap.size hz1').trans HF1.out)
    have f0 : w3.cell? ⟨w.heap.size, 0, none⟩ = some (.string (txt k)) := cell_of_block HF3.out 0
    have f1 : w3.cell? ⟨w.heap.size, 1, none⟩ = some (.string (txt f.data)) := cell_of_block HF3.out 1
    have f2 : w3.cell? ⟨w.heap.size, 2, none⟩ = some (.int .i64 f.safe) := cell_of_block HF3.out 2
    have hz3 : w1.heap.size ≤ w3.heap.size := hb3.size
    have HO3 := hide (show w3.ownsRow 0 RFil 3 (.slice a3 0 c3) ([] : Fls).length (rc rcell []) from hown3)
    have hb3a : Below w1.heap.size w1 (w3.alloc (.cells #[.string (txt k), .string (txt f.data), .int .i64 f.safe] RFil)) := hb3.alloc hz3 _
    clear hown3 hg3 hat3 c1
    go_wp2_with (at_builtin; refine wpList_push (enc := rcell) (k := 3) rfl (.tmp 22) (.tmp 24) 40 rfl RFil noR 40 Try.underlying40 rfil_info rfl (by decide) rcell_len rcell_one 0 _ [] rfl (Gk.own_below HO3.out (below_alloc1 w3 _)) w3.heap.size (k, f) rfl (heap_alloc_new w3 _) ?c3 ?c4 (Nat.zero_le _) ?_)
    case c3 => simp
    case c4 => simp
    intro v4 w4 hown4 hg4 hat4
    obtain ⟨a4, c4, rfl⟩ := Gk.own_slice hown4
    have hb4 : Below w1.heap.size w1 w4 := hb3a.grown hg4 hb3a.size (fun k' hk' => hup3 k' hk')
    have hup4 : ∀ g', (Value.slice a4 1 c4).ownBlock = some g' → w1.heap.size ≤ g' := fun g' hg' => (hat4 g' hg').elim (hup3 g') (fun h => by omega)
    have HH4 := hide (HH1.out.below hb4)
    have c1 : w4.cell? ⟨br, 1, none⟩ = some (.slice none 0 0) := HH4.out.c1
    have HO4 := hide (show w4.ownsRow 0 RFil 3 (.slice a4 1 c4) ([(k, f)] : Fls).length (rc rcell [(k, f)]) from hown4)
    have HUP := hide hup4
    have HBL := hide hb4
    clear hown4 hg4 hat4 hb4 hup4 HO3 hb3a hb3 hup3 f0 f1 f2
    go_wp2_with (at_builtin; refine wpList_append_row (enc := rcell) (k := 3) rfl (.tmp 30) (.tmp 36) 40 rfl RFil noR 40 Try.underlying40 rfil_info rfl (by decide) rcell_len rcell_one 0 _ [(k, f)] rfl HO4.out none [] 0 0 rfl rfl (Or.inl rfl) (fun _ => rfl) ?c5 ?c6 (Nat.zero_le _) ?_)
    case c5 => simp
    case c6 => simp
    intro v5 w5 hown5 hg5 hat5
    have hb5 : Below w1.heap.size w1 w5 := HBL.out.grown hg5 HBL.out.size (fun k' hk' => HUP.out k' hk')
    have HH5 := hide (HH1.out.below hb5)
    have k5 := HH5.out.c1
    have z5 := HH5.out.fz 1
    have HUP5 : ∀ g', v5.ownBlock = some g' → w1.heap.size ≤ g' := fun g' hg' => (hat5 g' hg').elim (HUP.out g') (fun h => by have := HBL.out.size; omega)
    have HU5 := hide HUP5
    have HO5 := hide (show Row w5 rcell RFil 3 v5 (putL k f []) from hown5)
    obtain ⟨a5, n5, c5, hv5⟩ : ∃ a5 n5 c5, v5 = .slice a5 n5 c5 := by obtain ⟨a, c, e⟩ := Gk.own_slice hown5; exact ⟨a, _, c, e⟩
    subst hv5
    clear hown5 hg5 hat5 HUP5
    go_wp2
    refine bodyPost_end (v := .tuple #[]) (by simp [results, Try.results38]) rfl ?_
    exact ⟨rfl, ⟨_, HH5.out.setRow HO5.out (fun g' hg' => hfr g' (by have := HU5.out g' hg'; omega))⟩, ((Only.of_below hb01).trans (Only.of_below hb5)).trans (Only.of_set w5 HH5.out.ownD _)⟩
  · have hple := posL_le k l
    have HH := hide h
    have HB0 := hide hB0
    have hi : posL k l ≤ l.length := hple
    have HE : (∃ b, getL k l = some b) ∧ posL k l < l.length ∧ putL k f l = (l.take (posL k l) ++ [(k, f)]) ++ l.drop (posL k l + 1) ∨ getL k l = none ∧ putL k f l = (l.take (posL k l) ++ [(k, f)]) ++ l.drop (posL k l) := by
      cases hg : getL k l with
      | none => exact Or.inr ⟨rfl, by rw [putL_pos_none hr hg]; simp⟩
      | some b =>
        refine Or.inl ⟨⟨b, rfl⟩, ?_, by rw [putL_pos_some hr hg]; simp⟩
        rcases posL_get (k := k) hr with ⟨h1, _⟩ | ⟨h1, _⟩
        · exact h1
        · rw [hg] at h1; cases h1
    generalize putL k f l = l' at *
    generalize posL k l = i at *
    clear h hB0 hple
    go_enter Try.func38, Try.ntmps38
    go_wp2_with fail
    refine hP.mono ?_
    rintro e w1 ⟨rfl, hb1⟩
    have hb01 : Below w.heap.size w w1 := hA0.trans (hb1.mono (by simp))
    have HF1 := hide ((hb1.block w.heap.size (by simp)).trans HB0.out)
    have HH1 := hide (HH.out.below hb01)
    have c1 := HH1.out.c1
    have hz1 := hb1.size
    have hz1' : w.heap.size < w1.heap.size := by simp at hz1; omega
    have hl1 := ((HH1.out.rrow).take rcell_len i hi).lies
    have HLt := hide (show (l.take i).length = i by rw [List.length_take]; omega)
    have i1 : (0 : Int) ≤ (i : Int) := by omega
    have i2 : (i : Int) ≤ (l.length : Int) := by omega
    have i5 : (i : Int) ≤ (cap : Int) := by omega
    clear hP hA0 hb1 hz1
    generalize hbb : (getL k l).isSome = bb at *
    go_wp2_with (at_builtin; refine wpList_append_row (enc := rcell) (k := 3) rfl (.tmp 14) (.tmp 20) 40 rfl RFil noR 40 Try.underlying40 rfil_info rfl (by decide) rcell_len rcell_one 0 (.slice none 0 0) [] rfl (World.ownsRow_nil _ _ _ _) (some ⟨g, 0, none⟩) (l.take i) i cap rfl HLt.out.symm hl1 (fun e => by cases e) ?c1 ?c2 (Nat.zero_le _) ?_)
    case c1 => rw [HLt.out]; simp; omega
    case c2 => rw [HLt.out]; simp; omega
    intro v3 w3 hown3 hg3 hat3
    obtain ⟨a3, c3, rfl⟩ := Gk.own_slice hown3
    have hb3 : Below w1.heap.size w1 w3 := (Below.refl _ _).grown hg3 (Nat.le_refl _) (fun k hk => by simp [Value.ownBlock] at hk)
    have hup3 : ∀ g', (Value.slice a3 i c3).ownBlock = some g' → w1.heap.size ≤ g' := fun g' hg' => (hat3 g' hg').elim (fun h => by simp [Value.ownBlock] at h) id
    have HF3 := hide ((hb3.block w.heap.size hz1').trans HF1.out)
    have HH3 := hide (HH1.out.below hb3)
    have f0 : w3.cell? ⟨w.heap.size, 0, none⟩ = some (.string (txt k)) := cell_of_block HF3.out 0
    have f1 : w3.cell? ⟨w.heap.size, 1, none⟩ = some (.string (txt f.data)) := cell_of_block HF3.out 1
    have f2 : w3.cell? ⟨w.heap.size, 2, none⟩ = some (.int .i64 f.safe) := cell_of_block HF3.out 2
    have hz3 : w1.heap.size ≤ w3.heap.size := hb3.size
    have hown3' : w3.ownsRow 0 RFil 3 (.slice a3 i c3) (l.take i).length (rc rcell (l.take i)) := by rw [HLt.out]; exact hown3
    have HO3 := hide hown3'
    clear hown3 hown3' hg3 hat3 c1 hl1
    have hb3a : Below w1.heap.size w1 (w3.alloc (.cells #[.string (txt k), .string (txt f.data), .int .i64 f.safe] RFil)) := hb3.alloc hz3 _
    go_wp2_with (at_builtin; refine wpList_push (enc := rcell) (k := 3) rfl (.tmp 22) (.tmp 24) 40 rfl RFil noR 40 Try.underlying40 rfil_info rfl (by decide) rcell_len rcell_one 0 _ (l.take i) rfl (Gk.own_below HO3.out (below_alloc1 w3 _)) w3.heap.size (k, f) rfl (heap_alloc_new w3 _) ?c3 ?c4 (Nat.zero_le _) ?_)
    case c3 => rw [HLt.out]; omega
    case c4 => rw [HLt.out]; omega
    intro v4 w4 hown4 hg4 hat4
    obtain ⟨a4, c4, rfl⟩ := Gk.own_slice hown4
    rcases HE with ⟨⟨b, hgs⟩, hil, hl'⟩ | ⟨hgs, hl'⟩
    · rw [hgs] at hbb
      subst hbb
      obtain ⟨j, hj⟩ : ∃ j, j = i + 1 := ⟨_, rfl⟩
      have hj' : (i : Int) + 1 = (j : Int) := by omega
      have hjl : j ≤ l.length := by omega
      rw [← hj] at hl'
      have HJ := hide hj
      clear hj
      have hb4 : Below w1.heap.size w1 w4 := hb3a.grown hg4 hb3a.size (fun k' hk' => hup3 k' hk')
      have hup4 : ∀ g', (Value.slice a4 (i + 1) c4).ownBlock = some g' → w1.heap.size ≤ g' := fun g' hg' => (hat4 g' hg').elim (hup3 g') (fun h => by omega)
      have HH4 := hide (HH1.out.below hb4)
      have c1 := HH4.out.c1
      have hz4 := hb4.size
      have HLu := hide (show (l.take i ++ [(k, f)]).length = i + 1 by rw [List.length_append, HLt.out]; rfl)
      have hown4' : w4.ownsRow 0 RFil 3 (.slice a4 (i + 1) c4) (l.take i ++ [(k, f)]).length (rc rcell (l.take i ++ [(k, f)])) := by rw [HLu.out]; exact hown4
      have HO4 := hide hown4'
      obtain ⟨A, hA, hsrc⟩ : ∃ A : Addr, (if cap = j then some (⟨g, 0, none⟩ : Addr) else some ⟨g, j * 3, none⟩) = some A ∧ Hid (∀ W : World, Row W rcell RFil 3 (.slice (some ⟨g, 0, none⟩) l.length cap) l → Lies W rcell (some A) (l.drop j)) := by
        by_cases hce : cap = j
        · refine ⟨⟨g, 0, none⟩, by simp [hce], fun W hW => Or.inl (List.drop_eq_nil_of_le (by omega))⟩
        · exact ⟨⟨g, j * 3, none⟩, by simp [hce], fun W hW => hW.drop rcell_len j hjl⟩
      have HD := hide (show l.length - j = (l.drop j).length by rw [List.length_drop])
      have j1 : (0 : Int) ≤ (j : Int) := by omega
      have j2 : (j : Int) ≤ (l.length : Int) := by omega
      have j5 : (j : Int) ≤ (cap : Int) := by omega
      have HDl := hide (show (l.drop j).length ≤ 64 by rw [List.length_drop]; omega)
      have HUP := hide hup4
      have HBL := hide hb4
      have HE' := hide hl'
      clear hown4 hown4' hg4 hat4 hb4 hup4 hl' HO3 hb3a hb3 hup3 f0 f1 f2
      go_wp2_with (at_builtin; refine wpList_append_row (enc := rcell) (k := 3) rfl (.tmp 30) (.tmp 36) 40 rfl RFil noR 40 Try.underlying40 rfil_info rfl (by decide) rcell_len rcell_one 0 _ (l.take i ++ [(k, f)]) rfl HO4.out (some A) (l.drop j) (l.length - j) (cap - j) (by simp [Act.eval]) HD.out (hsrc.out _ HH4.out.rrow) (fun e => by cases e) ?c5 ?c6 (Nat.zero_le _) ?_)
      case c5 => rw [HLu.out]; have := HDl.out; omega
      case c6 => rw [HLu.out]; have := HDl.out; omega
      intro v5 w5 hown5 hg5 hat5
      have hb5 : Below w1.heap.size w1 w5 := HBL.out.grown hg5 HBL.out.size (fun k' hk' => HUP.out k' hk')
      have HH5 := hide (HH1.out.below hb5)
      have k5 := HH5.out.c1
      have z5 := HH5.out.fz 1
      have HO5 := hide hown5
      have HUP5 : ∀ g', v5.ownBlock = some g' → w1.heap.size ≤ g' := fun g' hg' => (hat5 g' hg').elim (HUP.out g') (fun h => by omega)
      have HU5 := hide HUP5
      obtain ⟨a5, n5, c5, hv5⟩ : ∃ a5 n5 c5, v5 = .slice a5 n5 c5 := by obtain ⟨a, c, e⟩ := Gk.own_slice hown5; exact ⟨a, _, c, e⟩
      subst hv5
      clear hown5 hg5 hat5 HUP5
      go_wp2
      refine bodyPost_end (v := .tuple #[]) (by simp [results, Try.results38]) rfl ?_
      have hrow5 : Row w5 rcell RFil 3 (.slice a5 n5 c5) l' := by
        have e2 : l' = l.take i ++ (k, f) :: l.drop j := by rw [HE'.out]; simp
        have e3 : l'.length = i + (l.length - j + 1) := by rw [e2, List.length_append, HLt.out, List.length_cons, List.length_drop]
        show w5.ownsRow 0 RFil 3 _ l'.length (rc rcell l')
        rw [e3, e2]
        exact HO5.out
      exact ⟨rfl, ⟨_, HH5.out.setRow hrow5 (fun g' hg' => hfr g' (by have := HU5.out g' hg'; omega))⟩, ((Only.of_below hb01).trans (Only.of_below hb5)).trans (Only.of_set w5 HH5.out.ownD _)⟩
    · rw [hgs] at hbb
      subst hbb
      obtain ⟨j, hj⟩ : ∃ j, j = i := ⟨_, rfl⟩
      subst hj
      have hjl := hi
      have hb4 : Below w1.heap.size w1 w4 := hb3a.grown hg4 hb3a.size (fun k' hk' => hup3 k' hk')
      have hup4 : ∀ g', (Value.slice a4 (j + 1) c4).ownBlock = some g' → w1.heap.size ≤ g' := fun g' hg' => (hat4 g' hg').elim (hup3 g') (fun h => by omega)
      have HH4 := hide (HH1.out.below hb4)
      have c1 := HH4.out.c1
      have hz4 := hb4.size
      have HLu := hide (show (l.take j ++ [(k, f)]).length = j + 1 by rw [List.length_append, HLt.out]; rfl)
      have hown4' : w4.ownsRow 0 RFil 3 (.slice a4 (j + 1) c4) (l.take j ++ [(k, f)]).length (rc rcell (l.take j ++ [(k, f)])) := by rw [HLu.out]; exact hown4
      have HO4 := hide hown4'
      obtain ⟨A, hA, hsrc⟩ : ∃ A : Addr, (if cap = j then some (⟨g, 0, none⟩ : Addr) else some ⟨g, j * 3, none⟩) = some A ∧ Hid (∀ W : World, Row W rcell RFil 3 (.slice (some ⟨g, 0, none⟩) l.length cap) l → Lies W rcell (some A) (l.drop j)) := by
        by_cases hce : cap = j
        · refine ⟨⟨g, 0, none⟩, by simp [hce], fun W hW => Or.inl (List.drop_eq_nil_of_le (by omega))⟩
        · exact ⟨⟨g, j * 3, none⟩, by simp [hce], fun W hW => hW.drop rcell_len j hjl⟩
      have HD := hide (show l.length - j = (l.drop j).length by rw [List.length_drop])
      have j1 : (0 : Int) ≤ (j : Int) := by omega
      have j2 : (j : Int) ≤ (l.length : Int) := by omega
      have j5 : (j : Int) ≤ (cap : Int) := by omega
      have HDl := hide (show (l.drop j).length ≤ 64 by rw [List.length_drop]; omega)
      have HUP := hide hup4
      have HBL := hide hb4
      have HE' := hide hl'
      clear hown4 hown4' hg4 hat4 hb4 hup4 hl' HO3 hb3a hb3 hup3 f0 f1 f2
      go_wp2_with (at_builtin; refine wpList_append_row (enc := rcell) (k := 3) rfl (.tmp 30) (.tmp 36) 40 rfl RFil noR 40 Try.underlying40 rfil_info rfl (by decide) rcell_len rcell_one 0 _ (l.take j ++ [(k, f)]) rfl HO4.out (some A) (l.drop j) (l.length - j) (cap - j) (by simp [Act.eval]) HD.out (hsrc.out _ HH4.out.rrow) (fun e => by cases e) ?c5 ?c6 (Nat.zero_le _) ?_)
      case c5 => rw [HLu.out]; have := HDl.out; omega
      case c6 => rw [HLu.out]; have := HDl.out; omega
      intro v5 w5 hown5 hg5 hat5
      have hb5 : Below w1.heap.size w1 w5 := HBL.out.grown hg5 HBL.out.size (fun k' hk' => HUP.out k' hk')
      have HH5 := hide (HH1.out.below hb5)
      have k5 := HH5.out.c1
      have z5 := HH5.out.fz 1
      have HO5 := hide hown5
      have HUP5 : ∀ g', v5.ownBlock = some g' → w1.heap.size ≤ g' := fun g' hg' => (hat5 g' hg').elim (HUP.out g') (fun h => by omega)
      have HU5 := hide HUP5
      obtain ⟨a5, n5, c5, hv5⟩ : ∃ a5 n5 c5, v5 = .slice a5 n5 c5 := by obtain ⟨a, c, e⟩ := Gk.own_slice hown5; exact ⟨a, _, c, e⟩
      subst hv5
      clear hown5 hg5 hat5 HUP5
      go_wp2
      refine bodyPost_end (v := .tuple #[]) (by simp [results, Try.results38]) rfl ?_
      have hrow5 : Row w5 rcell RFil 3 (.slice a5 n5 c5) l' := by
        have e2 : l' = l.take j ++ (k, f) :: l.drop j := by rw [HE'.out]; simp
        have e3 : l'.length = j + (l.length - j + 1) := by rw [e2, List.length_append, HLt.out, List.length_cons, List.length_drop]
        show w5.ownsRow 0 RFil 3 _ l'.length (rc rcell l')
        rw [e3, e2]
        exact HO5.out
      exact ⟨rfl, ⟨_, HH5.out.setRow hrow5 (fun g' hg' => hfr g' (by have := HU5.out g' hg'; omega))⟩, ((Only.of_below hb01).trans (Only.of_below hb5)).trans (Only.of_set w5 HH5.out.ownD _)⟩

end Go.Proofs.Ytokcknfbanpjjaa.Dk
