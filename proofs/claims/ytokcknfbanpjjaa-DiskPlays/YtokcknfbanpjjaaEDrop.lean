/- Walks over skylarkref02: drop, put. -/
import Derived.Test.YtokcknfbanpjjaaEPut
import Derived.Test.YtokcknfbanpjjaaGStep
namespace Go.Proofs.Ytokcknfbanpjjaa.Dk
open Go.RowKit Go.Maps Go.Joins Gk
attribute [local go_sem ↓] Go.wp_at_zero Go.wp_at_succ

abbrev noR : Value := .agg #[.string ⟨#[]⟩, .string ⟨#[]⟩, .int .i64 0]
theorem rcell_len (x : Bs × Fil) : (rcell x).length = 3 := rfl
theorem rcell_one (x : Bs × Fil) : ∀ u ∈ rcell x, u.oneCell' = true := by
  intro u hu
  simp only [rcell, List.mem_cons, List.not_mem_nil, or_false] at hu
  rcases hu with rfl | rfl | rfl <;> rfl
theorem RHeldL.rrow {w : World} {own : Nat → Prop} {br room : Nat} {l : Fls} {v : Value} {fused : Bool} {left : Int} {down : Bool} (h : RHeldL w own br room l v fused left down) : Row w rcell RFil 3 v l := h.row
/-- another row is set -/
theorem RHeldL.setRow {w : World} {own : Nat → Prop} {br room : Nat} {l l' : Fls} {v v' : Value} {fused : Bool} {left : Int} {down : Bool} (h : RHeldL w own br room l v fused left down) (hr : Row w rcell RFil 3 v' l') (ho : ∀ g, v'.ownBlock = some g → own g) : RHeldL (w.setCell ⟨br, 1, none⟩ v') own br room l' v' fused left down :=
  ⟨by rw [block_setCell h.block]; rfl, hr.stay fun g hg => Below.heap_setCell w _ _ g (Gk.own_ne hr h.block (by decide) hg), h.ownD, ho⟩
set_option maxHeartbeats 3200000 in
set_option maxRecDepth 100000 in
theorem rDrop_any {own : Nat → Prop} {br room : Nat} {l : Fls} {v : Value} {fused : Bool} {left : Int} {down : Bool} (w : World) (h : RHeldL w own br room l v fused left down) (hfr : Fresh own w) (hl : l.length ≤ 64) (hr : Rising l) (s : ByteArray) :
    Calls Try.prog 44 #[.pointer (some ⟨br, 0, none⟩), .string s] w fun e w' => e = .returned (.tuple #[]) ∧ (∃ v', RHeldL w' own br room (delL s.data.toList l) v' fused left down) ∧ Only own w w' := by
  have hP := place_any w h hl hr s
  cases hg : getL s.data.toList l with
  | none =>
    rw [hg] at hP
    rw [delL_none hg]
    have HH := hide h
    clear h
    go_enter Try.func44, Try.ntmps44
    go_wp2_with (go_at_call 36; refine hP.mono ?_; rintro e w1 ⟨rfl, hb1⟩)
    refine bodyPost_end (v := .tuple #[]) (by simp [results, Try.results44]) rfl ?_
    exact ⟨rfl, ⟨_, HH.out.below hb1⟩, Only.of_below hb1⟩
  | some f =>
    rw [hg] at hP
    have hdel := delL_pos hr hg
    obtain ⟨hi, -, -⟩ : ∃ h : posL s.data.toList l < l.length, (l[posL s.data.toList l]).1 = s.data.toList ∧ getL s.data.toList l = some (l[posL s.data.toList l]).2 := by
      rcases posL_get (k := s.data.toList) hr with h1 | ⟨h1, _⟩
      · exact h1
      · rw [hg] at h1; cases h1
    generalize posL s.data.toList l = i at *
    have HE := hide hdel.symm
    generalize delL s.data.toList l = l' at *
    clear hdel
    obtain ⟨g, cap, cur, rfl, hgb, hc1, hc2, hc3, hc4⟩ := own_form h.row (by omega)
    unfold maxLen at hc2
    have HH := hide h
    have hbl := h.lt
    have hgl := (Array.getElem?_eq_some_iff.1 hgb).1
    clear h hgb hc3 hc4
    go_enter Try.func44, Try.ntmps44
    go_wp2_with fail
    refine hP.mono ?_
    rintro e w1 ⟨rfl, hb1⟩
    have hz1 := hb1.size
    have hbl1 : br < w1.heap.size := by omega
    have n1 : br ≠ w1.heap.size := by omega
    have c1 := (HH.out.below hb1).c1
    have HB1 := hide (show Below w1.heap.size w1 (w1.drew.alloc (.cells #[] RFil)) from (Below.refl _ _).drew.alloc (Nat.le_refl _) _)
    have HM1 := hide (show Row (w1.drew.alloc (.cells #[] RFil)) rcell RFil 3 (.slice (some ⟨w1.heap.size, 0, none⟩) 0 0) [] from Gk.own_mono (World.ownsRow_made (base := 0) (e := RFil) (size := 3) w1.drew #[] 0 (Nat.zero_le _) (Nat.zero_le _) rfl) (Nat.zero_le _))
    obtain ⟨A, hA, hsrc⟩ : ∃ A : Addr, (if cap = i + 1 then some (⟨g, 0, none⟩ : Addr) else some ⟨g, (i + 1) * 3, none⟩) = some A ∧ Hid (∀ W : World, Row W rcell RFil 3 (.slice (some ⟨g, 0, none⟩) l.length cap) l → Lies W rcell (some A) (l.drop (i + 1))) := by
      by_cases hce : cap = i + 1
      · refine ⟨⟨g, 0, none⟩, by simp [hce], fun W hW => Or.inl (List.drop_eq_nil_of_le (by omega))⟩
      · exact ⟨⟨g, (i + 1) * 3, none⟩, by simp [hce], fun W hW => hW.drop rcell_len (i + 1) (by omega)⟩
    have HH1 := hide (HH.out.below hb1)
    have i1 : (0 : Int) ≤ (i : Int) := by omega
    have i2 : (i : Int) ≤ (l.length : Int) := by omega
    have i3 : (i : Int) + 1 ≤ (l.length : Int) := by omega
    have i4 : (0 : Int) ≤ (i : Int) + 1 := by omega
    have i5 : (i : Int) ≤ (cap : Int) := by omega
    have i6 : (i : Int) + 1 ≤ (cap : Int) := by omega
    have hw1 : IntKind.i64.wrap ((i : Int) + 1) = (i : Int) + 1 := by rw [IntKind.wrap_i64]; omega
    have HL := hide (show (l.take i).length = i by rw [List.length_take]; omega)
    have HD := hide (show l.length - (i + 1) = (l.drop (i + 1)).length by rw [List.length_drop])
    go_wp2_with fail
    go_region_law (first
      | (refine step_fill (enc := rcell) (k := 3) (by rfl) (.tmp 14) (.tmp 20) 40 (by rfl) RFil noR 40 Try.underlying40 rfil_info rfl (by decide) rcell_len rcell_one (.slice (some ⟨w1.heap.size, 0, none⟩) 0 0) (by rfl) HM1.out (some ⟨g, 0, none⟩) (l.take i) i cap (by rfl) HL.out.symm ((((HH1.out.below HB1.out).rrow).take rcell_len i (by omega)).lies) (fun e => by cases e) (by rw [HL.out]; omega) (by rw [HL.out]; omega) ?_; rw [HL.out]; intro ad3 cap3 w3 hrow3 hg3 hat3; have hb3 : Below w1.heap.size w1 w3 := HB1.out.grown hg3 HB1.out.size (fun k hk => by simp [Value.ownBlock] at hk; omega); have HR3 := hide (HH1.out.below hb3); have k3 := HR3.out.c1; have hz3 := hb3.size; have hup3 : ∀ g', (Value.slice ad3 i cap3).ownBlock = some g' → w1.heap.size ≤ g' := fun g' hg' => (hat3 g' hg').elim (fun h => by simp [Value.ownBlock] at h; omega) (fun h => by simp at h; omega))
      | (refine step_append_row (enc := rcell) (k := 3) (by rfl) (.tmp 21) (.tmp 28) 40 (by rfl) RFil noR 40 Try.underlying40 rfil_info rfl (by decide) rcell_len rcell_one (.slice ad3 i cap3) (l.take i) (by rfl) hrow3 (some A) (l.drop (i + 1)) (l.length - (i + 1)) (cap - (i + 1)) (by simp [Act.eval, Act.put]) HD.out (hsrc.out _ HR3.out.rrow) (fun e => by cases e) (by simp; omega) (by simp; omega) ?_; obtain ⟨n5, hn5⟩ : ∃ n5, n5 = (l.take i).length + (l.drop (i + 1)).length := ⟨_, rfl⟩; rw [← hn5]; clear hn5; intro ad5 cap5 w5 hrow5 hg5 hat5; have hb5 : Below w1.heap.size w1 w5 := hb3.grown hg5 hb3.size (fun k hk => hup3 k hk); have HR5 := hide (HH1.out.below hb5); have k5 := HR5.out.c1; have z5 := HR5.out.fz 1))
    all_goals
      refine bodyPost_end (v := .tuple #[]) (by simp [results, Try.results44]) rfl ?_
      rw [HE.out] at hrow5
      have hO5 : Only own w w5 := (Only.of_below hb1).trans (Only.of_below hb5)
      refine ⟨rfl, ⟨_, HR5.out.setRow hrow5 (fun g' hg' => hfr g' ?_)⟩, hO5.trans (Only.of_set w5 HR5.out.ownD _)⟩
      rcases hat5 g' hg' with h | h
      · have := hup3 g' h; omega
      · omega

end Go.Proofs.Ytokcknfbanpjjaa.Dk
