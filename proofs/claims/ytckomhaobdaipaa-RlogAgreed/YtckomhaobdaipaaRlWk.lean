/- Walks over skylarklaw14: of, works, grown. -/
import Derived.Test.YtckomhaobdaipaaRlAgr
import Derived.Test.YtckomhaobdaipaaRlApp
import Derived.Test.YtckomhaobdaipaaGAmong
namespace Go.Proofs.Ytckomhaobdaipaa.Rl
open Go.RowKit Go.Joins Gk

theorem tm_snoc (b : Nat) (bt : Int) (es : List En) (e : En) : (⟨b, bt, es ++ [e]⟩ : Lo).tm (⟨b, bt, es ++ [e]⟩ : Lo).last = e.t := by
  unfold Lo.tm Lo.last
  rw [if_neg (by simp)]
  simp only [List.length_append, List.length_singleton]
  rw [show b + (es.length + 1) - b - 1 = es.length by omega]
  simp
theorem tm_nil (b : Nat) (bt : Int) : (⟨b, bt, []⟩ : Lo).tm (⟨b, bt, []⟩ : Lo).last = bt := by simp [Lo.tm, Lo.last]

/-- a log that a call made -/
structure Made (w w' : World) (bl : Nat) (S : Lo) : Prop where
  log : ∃ v, LH w' bl S v
  new : ∀ k, own w' bl k → w.heap.size ≤ k
  bel : Below w.heap.size w w'
theorem Made.turn {w w1 w2 : World} {bl : Nat} {S S' : Lo} (h : Made w w1 bl S) (h2 : ∃ v, LH w2 bl S' v) (ht : Tn bl w1 w2) : Made w w2 bl S' := by
  refine ⟨h2, fun k hk => ?_, ?_⟩
  · rcases hk with rfl | hk
    · exact h.new _ (Or.inl rfl)
    · rcases ht.new k hk with e | e
      · exact h.new k (Or.inr e)
      · have := h.bel.size; omega
  · exact h.bel.trans (ht.only.below h.bel.size h.new)
theorem Made.below {w w1 w2 : World} {bl : Nat} {S : Lo} (h : Made w w1 bl S) (hb : Below w1.heap.size w1 w2) : Made w w2 bl S := by
  obtain ⟨v, hv⟩ := h.log
  exact h.turn ⟨v, hv.below hb⟩ (hv.tn hb)
theorem Made.start (w : World) : Made w (w.alloc (.cells #[.int .i64 0, .int .i64 0, .slice none 0 0] LogT)) w.heap.size Lo.new := by
  have h : LH (w.alloc (.cells #[.int .i64 0, .int .i64 0, .slice none 0 0] LogT)) w.heap.size Lo.new (.slice none 0 0) := ⟨heap_alloc_new w _, ER.nil _⟩
  refine ⟨⟨_, h⟩, fun k hk => ?_, (Below.refl _ w).alloc (Nat.le_refl _) _⟩
  rcases hk with rfl | hk
  · exact Nat.le_refl _
  · rw [h.lbk] at hk; cases hk

def te (t : Int) : En := ⟨t, ⟨#[]⟩⟩
set_option maxRecDepth 100000 in
set_option maxHeartbeats 2000000 in
theorem of_any (b cap : Nat) (ts : List Int) (w : World) (hl : Lies w ienc (some ⟨b, 0, none⟩) ts) (hn : ts.length ≤ 1000) (h1 : ∀ t ∈ ts, 1 ≤ t ∧ t ≤ 1073741824) (h2 : ts.Pairwise (· ≤ ·)) :
    Calls Try.prog 17 #[.slice (some ⟨b, 0, none⟩) ts.length cap] w fun e w' => ∃ bl, e = .returned (ptr bl) ∧ Made w w' bl ⟨0, 0, ts.map te⟩ := by
  have HN := hide (New_any w)
  go_enter Try.func17, Try.ntmps17
  go_wp2_with (go_at_call 11; refine HN.out.mono ?_; rintro e w1 ⟨rfl, _, rfl⟩)
  obtain ⟨W, hW⟩ : ∃ W, w.alloc (.cells #[.int .i64 0, .int .i64 0, .slice none 0 0] LogT) = W := ⟨_, rfl⟩
  have hM : Made w W w.heap.size Lo.new := by rw [← hW]; exact Made.start w
  rw [hW]
  clear hW HN
  generalize w.heap.size = bl at *
  go_loopw [11] (fun iv wr => ∃ k : Nat, k ≤ ts.length ∧ iv = .int .i64 k ∧ Made w wr bl ⟨0, 0, (ts.take k).map te⟩) (fun iv _ => ts.length - (intOf iv).toNat)
  case atStart => exact ⟨0, Nat.zero_le _, rfl, hM⟩
  case round =>
    clear hM
    obtain ⟨k, hk, rfl, hM⟩ := hrel
    by_cases hkl : k < ts.length
    · have j1 : (k : Int) < (ts.length : Int) := by omega
      have j0 : (0 : Int) ≤ (k : Int) := by omega
      obtain ⟨b1, o1, e1, hb1, hc1⟩ := (hl.below hM.bel).at ienc_len k hkl
      cases e1
      have d1 := hc1 0 _ rfl
      rw [Nat.mul_one, Nat.add_zero, Nat.zero_add] at d1
      have hx := h1 _ (List.getElem_mem hkl)
      have HTK := hide (show (ts.take (k + 1)).map te = (ts.take k).map te ++ [te ts[k]] by rw [List.take_succ_eq_append_getElem hkl, List.map_append]; rfl)
      have hst : (⟨0, 0, (ts.take k).map te⟩ : Lo).tm (⟨0, 0, (ts.take k).map te⟩ : Lo).last ≤ ts[k] := by
        cases k with
        | zero => rw [List.take_zero, List.map_nil, tm_nil]; omega
        | succ j =>
          rw [List.take_succ_eq_append_getElem (show j < ts.length by omega), List.map_append]
          show (⟨0, 0, (ts.take j).map te ++ [te ts[j]]⟩ : Lo).tm _ ≤ _
          rw [show ((ts.take j).map te ++ [ts[j]].map te) = (ts.take j).map te ++ [te ts[j]] from rfl, tm_snoc]
          exact List.pairwise_iff_getElem.1 h2 j (j + 1) (by omega) hkl (by omega)
      have hlt : (⟨0, 0, (ts.take k).map te⟩ : Lo).last ≤ 1000 := by unfold Lo.last; simp; omega
      generalize ts[k] = x at *
      generalize (ts.take k).map te = es at *
      obtain ⟨v, hL⟩ := hM.log
      have HA := hide (Append_ok bl ⟨0, 0, es⟩ v (te x) wr hL ⟨hx.1, hx.2, hst, by show (0 : Nat) ≤ 4096; omega, by omega⟩)
      have HM := hide hM
      clear hM hst hlt hL hc1 hx
      go_wp2_with (go_at_call 19; refine HA.out.mono ?_; rintro e w2 ⟨rfl, hv2, ht2⟩)
      go_roundw
      case rel => exact ⟨k + 1, by omega, by go_num, by rw [HTK.out]; exact HM.out.turn hv2 ht2⟩
      case measure => simp [intOf]; omega
    · have j1 : ¬ (k : Int) < (ts.length : Int) := by omega
      have hke := hide (show k = ts.length by omega)
      go_wp2
      go_ret
      rw [hke.out, List.take_length] at hM
      exact ⟨bl, rfl, hM⟩

theorem med_331 : med [3, 3, 1] = 3 := by
  have : ([3, 3, 1] : List Int).mergeSort (fun x y => decide (x ≤ y)) = [1, 3, 3] := by simp [List.mergeSort, List.MergeSort.Internal.splitInTwo]
  rw [med, this]; rfl
abbrev S3 : Lo := ⟨0, 0, [te 1, te 1, te 2]⟩
abbrev S4 : Lo := ⟨0, 0, [te 1, te 1, te 3]⟩
theorem mrg_34 : S3.mrg 1 [te 1, te 3] = (S4, 1) := by rfl
theorem agr_3 : agr S4 [3, 3, 1] 3 0 = 3 := by unfold agr; rw [med_331]; rfl
theorem agr_1 : agr S4 [3, 3, 1] 1 0 = 2 := by unfold agr; rw [med_331]; rfl
theorem code_13 : mcode 1 (nmb 2 [te 1, te 3]) = 0 := by
  have hb : ¬ hasBad (nmb 2 [te 1, te 3]) := by
    rintro ⟨x, hx, h⟩
    simp only [nmb, List.mem_cons, List.not_mem_nil, or_false] at hx
    rcases hx with rfl | rfl
    · rcases h with h | h <;> simp [te] at h
    · rcases h with h | h <;> simp [te] at h
  rw [mcode, if_neg hb]; rfl

set_option maxRecDepth 100000 in
set_option maxHeartbeats 8000000 in
theorem works_any (w : World) : Calls Try.prog 5 #[] w fun e w' => e = .returned (.bool true) ∧ Below w.heap.size w w' := by
  have HO := hide (of_any w.heap.size 3 [1, 1, 2] (w.alloc (.cells #[.int .i64 1, .int .i64 1, .int .i64 2] 3)) (Or.inr ⟨w.heap.size, 0, rfl, by simp, fun j u hj => by rw [Nat.zero_add, cell_of_block (heap_alloc_new w _)]; simpa [rc, ienc] using hj⟩) (by simp) (by simp) (by simp))
  go_enter Try.func5, Try.ntmps5
  go_wp2_with fail
  refine HO.out.mono ?_
  rintro e w1 ⟨bl, rfl, hM1⟩
  have hb1 : Below w.heap.size w w1 := ((Below.refl _ w).alloc (Nat.le_refl _) _).trans (hM1.bel.mono (by simp))
  obtain ⟨v1, hL1⟩ := hM1.log
  have hb2 : Below w1.heap.size w1 (w1.alloc (.cells #[.int .i64 1, .string ⟨#[]⟩, .int .i64 3, .string ⟨#[]⟩] EnT)) := (Below.refl _ w1).alloc (Nat.le_refl _) _
  have hL2 := hL1.below hb2
  have hG := callsIn_wide.1 (merge_in bl S3 v1 1 1 (some ⟨w1.heap.size, 0, none⟩) 2 [te 1, te 3] _ hL2 (by decide) (by decide) rfl (Or.inr ⟨w1.heap.size, 0, rfl, by simp, fun j u hj => by rw [Nat.zero_add, cell_of_block (heap_alloc_new w1 _)]; simpa [rc, eenc, te] using hj⟩) (by simp) (fun _ b off e h => by
    cases e
    rw [own_same (hb2.block bl hL1.lt)] at h
    have := hL1.ownlt h; omega) code_13)
  rw [mrg_34] at hG
  have HG := hide hG
  have HM1 := hide hM1
  have HB1 := hide hb1
  have HL2 := hide hL2
  have HB2 := hide hb2
  clear hG hM1 hb1 hL1 hL2 hb2 HO
  go_wp2_with fail
  refine HG.out.mono ?_
  rintro e w2 ⟨rfl, ⟨v2, hL3⟩, ht2⟩
  have HM2 := hide ((HM1.out.below HB2.out).turn ⟨v2, hL3⟩ ht2)
  have HLa := hide (Last_any bl S4 v2 w2 hL3 (by decide))
  go_wp2_with fail
  refine HLa.out.mono ?_
  rintro e w3 ⟨rfl, q, rfl⟩
  obtain ⟨W3, hW3⟩ : ∃ W3, w2.drewN q = W3 := ⟨_, rfl⟩
  have hL4 : LH W3 bl S4 v2 := by rw [← hW3]; exact hL3.drewN q
  have HM3 := hide (show Made _ W3 bl S4 by rw [← hW3]; exact HM2.out.below (below_drewN (Below.refl _ w2) q))
  rw [hW3]
  clear hW3 hL3 ht2 HG HLa HM2
  have hb4 : Below W3.heap.size W3 (W3.alloc (.cells #[.int .i64 3, .int .i64 3, .int .i64 1] 3)) := (Below.refl _ W3).alloc (Nat.le_refl _) _
  have hA3 := Agreed_ok bl S4 v2 (some ⟨W3.heap.size, 0, none⟩) 3 [3, 3, 1] (by simp) (by simp) 3 0 (by decide) _ (hL4.below hb4) (by decide) (Or.inr ⟨W3.heap.size, 0, rfl, by simp, fun j u hj => by rw [Nat.zero_add, cell_of_block (heap_alloc_new W3 _)]; simpa [rc, ienc] using hj⟩)
  rw [agr_3] at hA3
  have HA3 := hide hA3
  have HL4 := hide hL4
  have HB4 := hide hb4
  clear hA3 hL4 hb4
  go_wp2_with fail
  refine HA3.out.mono ?_
  rintro e w4 ⟨rfl, hb5⟩
  have hb6 : Below W3.heap.size W3 w4 := HB4.out.trans (hb5.mono HB4.out.size)
  have hL5 := HL4.out.below hb6
  have hb7 : Below w4.heap.size w4 (w4.alloc (.cells #[.int .i64 3, .int .i64 3, .int .i64 1] 3)) := (Below.refl _ w4).alloc (Nat.le_refl _) _
  have hA1 := Agreed_ok bl S4 v2 (some ⟨w4.heap.size, 0, none⟩) 3 [3, 3, 1] (by simp) (by simp) 1 0 (by decide) _ (hL5.below hb7) (by decide) (Or.inr ⟨w4.heap.size, 0, rfl, by simp, fun j u hj => by rw [Nat.zero_add, cell_of_block (heap_alloc_new w4 _)]; simpa [rc, ienc] using hj⟩)
  rw [agr_1] at hA1
  have HA1 := hide hA1
  have HB6 := hide hb6
  have HB7 := hide hb7
  clear hA1 hL5 hb6 hb7 hb5 HA3
  go_wp2_with fail
  refine HA1.out.mono ?_
  rintro e w5 ⟨rfl, hb8⟩
  go_wp2
  go_ret
  have bA : Below w.heap.size w W3 := ((Below.refl _ w).alloc (Nat.le_refl _) _).trans (HM3.out.bel.mono (by simp))
  have s1 := bA.size
  have s2 := HB6.out.size
  exact ⟨rfl, bA.trans ((HB6.out.mono s1).trans ((HB7.out.mono (by omega)).trans (hb8.mono (by simp; omega))))⟩

end Go.Proofs.Ytckomhaobdaipaa.Rl
