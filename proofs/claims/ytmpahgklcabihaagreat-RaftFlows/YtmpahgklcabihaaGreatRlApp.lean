/- Walks over rlog: Append, of an entry that may follow. -/
import Derived.Test.YtmpahgklcabihaaGreatRlMerge
namespace Go.Proofs.YtmpahgklcabihaaGreat.Rl
open Go.RowKit Go.Joins Gk

theorem mrg_one (S : Lo) (e : En) : S.mrg S.es.length [e] = (⟨S.b, S.bt, S.es ++ [e]⟩, 0) := by
  have hm : mt (S.es.drop S.es.length) [e] = 0 := by rw [List.drop_length]; rfl
  rw [Lo.mrg, hm]
  simp [mI]

/-- an entry may stand behind the last one -/
structure May1 (S : Lo) (e : En) : Prop where
  t1 : 1 ≤ e.t
  t2 : e.t ≤ 1073741824
  st : S.tm S.last ≤ e.t
  d : e.d.size ≤ 4096
  n : S.last < 1048576
theorem May1.code {S : Lo} {e : En} (h : May1 S e) : mcode (S.tm S.last) (nmb (S.b + S.es.length + 1) [e]) = 0 := by
  have hb : ¬ hasBad (nmb (S.b + S.es.length + 1) [e]) := by
    rintro ⟨x, hx, hx2⟩
    simp only [nmb, List.mem_singleton] at hx
    subst hx
    rcases hx2 with h1 | h1
    · have := h.t1; dsimp only at h1; omega
    · have := h.t2; dsimp only at h1; omega
  have h1 : ¬ e.t < S.tm S.last := by have := h.st; omega
  have h2 : ¬ 4096 < (e.d.size : Int) := by have := h.d; omega
  have h3 : ¬ 1048576 < ((S.b + S.es.length + 1 : Nat) : Int) := by have := h.n; unfold Lo.last at this; omega
  rw [mcode, if_neg hb]
  simp only [mfs, nmb, List.foldl_cons, List.foldl_nil, Mf.step, Bool.false_or]
  rw [decide_eq_false h1, decide_eq_false h2, decide_eq_false h3]
  rfl

set_option maxRecDepth 100000 in
set_option maxHeartbeats 2000000 in
theorem Append_ok (bl : Nat) (S : Lo) (v : Value) (e : En) (w : World) (h : LH w bl S v) (hm : May1 S e) :
    Calls Tryz.prog 120 #[ptr bl, .agg #[.int .i64 e.t, .string e.d]] w fun r w' => r = .returned (.tuple #[.int .i64 ((S.last + 1 : Nat) : Int), .int .i64 0]) ∧ (∃ v', LH w' bl ⟨S.b, S.bt, S.es ++ [e]⟩ v') ∧ Tn bl w w' := by
  have hbd : S.b + S.es.length ≤ 1048577 := by have := hm.n; unfold Lo.last at this; omega
  have HL := hide (fun W (h : LH W bl S v) => Last_any bl S v W h hbd)
  have HM := hide (fun W (h1 : LH W bl S v) (b : Nat) (hb : W.heap[b]? = some (.cells #[.int .i64 e.t, .string e.d] EnT (0, 0))) (hn : ¬ own W bl b) =>
    callsIn_wide.1 (merge_in bl S v S.es.length (S.tm S.last) (some ⟨b, 0, none⟩) 1 [e] W h1 hbd (Nat.le_refl _) rfl (Or.inr ⟨b, 0, rfl, (Array.getElem?_eq_some_iff.1 hb).1, fun j u hj => by rw [rc_one] at hj; rw [Nat.zero_add, cell_of_block hb]; simpa [eenc] using hj⟩) (by simp) (fun _ b' off e' => by cases e'; exact hn) hm.code))
  rw [mrg_one] at HM
  have HQ := hide (show S.b + S.es.length + [e].length = S.last + 1 by simp [Lo.last])
  rw [HQ.out] at HM
  have HE := hide (show S.b + S.es.length = S.last from rfl)
  rw [HE.out] at HM
  have H := hide h
  have hz := h.lt
  clear h hbd
  generalize S.tm S.last = y at *
  generalize S.last = n at *
  clear HQ HE hm
  go_enter Tryz.func120, Tryz.ntmps120
  have hb1 : Below w.heap.size w (w.alloc (.cells #[.int .i64 e.t, .string e.d] EnT)) := (Below.refl _ w).alloc (Nat.le_refl _) _
  go_wp2_with fail
  refine (HL.out _ (H.out.below hb1)).mono ?_
  rintro r w1 ⟨rfl, q, rfl⟩
  obtain ⟨W1, hW1⟩ : ∃ W1, (w.alloc (.cells #[.int .i64 e.t, .string e.d] EnT)).drewN q = W1 := ⟨_, rfl⟩
  have hB : Below w.heap.size w W1 := by rw [← hW1]; exact below_drewN hb1 _
  have hx : W1.heap[w.heap.size]? = some (.cells #[.int .i64 e.t, .string e.d] EnT (0, 0)) := by rw [← hW1]; exact heap_alloc_new w _
  rw [hW1]
  clear hW1 hb1
  have x0 : W1.cell? ⟨w.heap.size, 0, none⟩ = some (.int .i64 e.t) := by rw [cell_of_block hx]; rfl
  have x1 : W1.cell? ⟨w.heap.size, 1, none⟩ = some (.string e.d) := by rw [cell_of_block hx]; rfl
  have HB := hide (((Below.refl W1.heap.size W1)).alloc (Nat.le_refl _) (.cells #[.int .i64 e.t, .string e.d] EnT))
  have H1 := hide (H.out.below hB)
  have HBB := hide hB
  clear hB hx
  go_wp2_with fail
  refine (HM.out _ (H1.out.below HB.out) W1.heap.size (heap_alloc_new W1 _) (fun h => ?_)).mono ?_
  · have := (H1.out.below HB.out).below (Below.refl _ _)
    rw [own_same (Below.heap_alloc W1 _ bl H1.out.lt)] at h
    have := H1.out.ownlt h
    omega
  rintro r w2 ⟨rfl, hv, ht⟩
  go_wp2
  go_ret2
  exact ⟨rfl, hv, (H.out.tn (HBB.out.trans (HB.out.mono HBB.out.size))).trans ht⟩

end Go.Proofs.YtmpahgklcabihaaGreat.Rl
