/- CodeFrames: bytes are summed, framed, and found in frames, as the document has it: any bytes, any place. Proved where the text is of at most 4000000 bytes (a longer one may hold more frames than a slice of texts has room for). -/
import Derived.Test.YtacegffkhfcadaaRefFrames
import Derived.Test.YtacegffkhfcadaaTexts
import Derived.Test.YtacegffkhfcadaaWorks
namespace Go.Proofs.Ytacegffkhfcadaa
open Go.RowKit

theorem frames_le (s : ByteArray) : ∀ (f p : Nat) (l : List ByteArray), p ≤ s.size → l.length * 8 ≤ p → (framesF s f p l).1.length * 8 ≤ s.size := by
  intro f
  induction f with
  | zero => intro p l h1 h2; simp only [framesF]; omega
  | succ f ih =>
    intro p l h1 h2
    rw [framesF]
    by_cases he : (unf (s.data.toList.drop p)).2.2 ≠ 0
    · rw [if_pos he]; simp only; omega
    · rw [if_neg he]
      have hok := unf_ok (show (unf (s.data.toList.drop p)).2.2 = 0 by omega)
      rw [drop_len] at hok
      exact ih _ _ (by omega) (by simp; omega)

set_option maxHeartbeats 3200000 in
theorem frames_law (s : ByteArray) (p : Int) (w : World) (hs : s.size ≤ 4000000) (hp : (Lit.int .i64 p).wf = true) :
    Calls Try.prog 4 #[.string s, .int .i64 p] w fun e w' => e = .returned (.bool true) ∧ Below w.heap.size w w' := by
  obtain ⟨p0, p1⟩ := bounds_i64 hp
  have hlen : (frames s).1.length ≤ 4000000 := by have := frames_le s (s.size + 1) 0 [] (by omega) (by simp); unfold frames; omega
  go_enter Try.func4, Try.ntmps4
  go_wp2_with fail
  refine (Frame_any s w (by omega)).mono ?_
  rintro e w1 ⟨rfl, hb1⟩
  have hz1 := hb1.size
  go_wp2_with fail
  refine (rFrame_any s w1 (by omega)).mono ?_
  rintro e w2 ⟨rfl, hb2⟩
  have hb2' := hb1.trans (hb2.mono hz1)
  have hz2 := hb2'.size
  clear hb1 hb2
  rw [frameV]
  generalize frame s = fr at *
  obtain ⟨fs, fe⟩ := fr
  go_wp2_with fail
  refine (Unframe_any s p w2 (by omega) p0 p1).mono ?_
  rintro e w3 ⟨rfl, hb3⟩
  have hb3' := hb2'.trans (hb3.mono hz2)
  have hz3 := hb3'.size
  clear hb2' hb3
  rw [unframeV]
  generalize hu : unframe s p = u at *
  have Hu := hide hu
  clear hu
  obtain ⟨ub, ue, ua, uc⟩ := u
  go_wp2_with fail
  refine (rUnframe_any s p _ (by omega) p0 p1).mono ?_
  rintro e w4 ⟨rfl, hb4⟩
  rw [unframeV, Hu.out]
  have c0 := hb4.cell (p := ⟨w3.heap.size, 0, none⟩) (by simp)
  have c1 := hb4.cell (p := ⟨w3.heap.size, 1, none⟩) (by simp)
  have hb4' := (hb3'.alloc hz3 _).trans (hb4.mono (by simp; omega))
  have hz4 := hb4'.size
  have hz34 := hb4.size
  simp at c0 c1 hz34
  clear hb3' hb4
  go_wp2_with fail
  refine (Frames_any s _ hs).mono ?_
  rintro e w5 ⟨v5, rfl, hown5, hb5⟩
  obtain ⟨a5, k5, rfl, hl5⟩ := own_liesT hown5
  have hb5' := (hb4'.alloc hz4 _).trans (hb5.mono (by simp; omega))
  have hz5 := hb5'.size
  have hz45 := hb5.size
  have d0 := hb5.cell (p := ⟨w3.heap.size, 0, none⟩) (by simp; omega)
  have d1 := hb5.cell (p := ⟨w3.heap.size, 1, none⟩) (by simp; omega)
  have g0 := hb5.cell (p := ⟨w4.heap.size, 0, none⟩) (by simp)
  have g1 := hb5.cell (p := ⟨w4.heap.size, 1, none⟩) (by simp)
  rw [World.cell?_alloc_past _ _ _ (by show w3.heap.size < _; omega)] at d0 d1
  simp at g0 g1 hz45
  rw [c0] at d0
  rw [c1] at d1
  clear hown5 hb5 hb4' c0 c1
  go_wp2_with fail
  refine (rFrames_any s _ hs).mono ?_
  rintro e w6 ⟨v6, rfl, hown6, hb6⟩
  obtain ⟨a6, k6, rfl, hl6⟩ := own_liesT hown6
  have hb6' := hb5'.trans (hb6.mono hz5)
  have hz6 := hb6'.size
  have e0 := (hb6.cell (p := ⟨w3.heap.size, 0, none⟩) (by show w3.heap.size < _; omega)).trans d0
  have e1 := (hb6.cell (p := ⟨w3.heap.size, 1, none⟩) (by show w3.heap.size < _; omega)).trans d1
  have f0 := (hb6.cell (p := ⟨w4.heap.size, 0, none⟩) (by show w4.heap.size < _; omega)).trans g0
  have f1 := (hb6.cell (p := ⟨w4.heap.size, 1, none⟩) (by show w4.heap.size < _; omega)).trans g1
  have hl56 := hl5.later hb6
  clear hown6 hb6 hb5' d0 d1 g0 g1 hl5
  generalize (frames s).2 = fend at *
  generalize (frames s).1 = fl at *
  go_wp2_with fail
  refine (Sum_any s w6 (by omega)).mono ?_
  rintro e w' ⟨rfl, rfl⟩
  go_wp2_with fail
  refine (rSum_any s w' (by omega)).mono ?_
  rintro e w' ⟨rfl, rfl⟩
  go_wp2_with fail
  refine (sameT_any _ _ _ _ fl w' hl56 hl6 (by omega)).mono ?_
  rintro e w8 ⟨rfl, hb8⟩
  have hb8' := hb6'.trans (hb8.mono hz6)
  have hz8 := hb8'.size
  clear hb6' hb8 e0 e1 f0 f1
  go_wp2_with fail
  refine (works_any w8).mono ?_
  rintro e w9 ⟨rfl, hb9⟩
  go_wp2
  go_ret
  exact ⟨rfl, hb8'.trans (hb9.mono hz8)⟩

end Go.Proofs.Ytacegffkhfcadaa
