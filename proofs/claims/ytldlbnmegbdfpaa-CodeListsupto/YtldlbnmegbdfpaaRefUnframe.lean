/- Walks over the document's own answer: Unframe, Frames. -/
import Derived.Test.YtldlbnmegbdfpaaRefFrame
import Derived.Test.YtldlbnmegbdfpaaFrames
namespace Go.Proofs.Ytldlbnmegbdfpaa
open Go.RowKit

/-- a world in which the fault's two cells were made, and hold nothing yet -/
structure Started (w W : World) : Prop where
  below : Below w.heap.size w W
  lt : w.heap.size < W.heap.size
  c0 : W.cell? ⟨w.heap.size, 0, none⟩ = some (.int .i64 0)
  c1 : W.cell? ⟨w.heap.size, 1, none⟩ = some (.int .i64 0)
  f0 : W.frozen? ⟨w.heap.size, 0, none⟩ = false
  f1 : W.frozen? ⟨w.heap.size, 1, none⟩ = false
theorem Started.behind {w W w9 : World} (h : Started w W) (hb9 : Below W.heap.size W w9) :
    w9.cell? ⟨w.heap.size, 0, none⟩ = some (.int .i64 0) ∧ w9.cell? ⟨w.heap.size, 1, none⟩ = some (.int .i64 0) ∧ w9.frozen? ⟨w.heap.size, 0, none⟩ = false ∧ w9.frozen? ⟨w.heap.size, 1, none⟩ = false ∧ Below w.heap.size w w9 :=
  ⟨(hb9.cell (p := ⟨w.heap.size, 0, none⟩) h.lt).trans h.c0, (hb9.cell (p := ⟨w.heap.size, 1, none⟩) h.lt).trans h.c1, (hb9.frozen (p := ⟨w.heap.size, 0, none⟩) h.lt).trans h.f0, (hb9.frozen (p := ⟨w.heap.size, 1, none⟩) h.lt).trans h.f1, h.below.trans (hb9.mono (Nat.le_of_lt h.lt))⟩
theorem Started.drewN {w W : World} (h : Started w W) (n : Nat) : Started w (W.drewN n) :=
  ⟨below_drewN h.below n, by simpa using h.lt, by simpa using h.c0, by simpa using h.c1, by simpa using h.f0, by simpa using h.f1⟩
theorem started (w : World) : Started w (w.alloc (.cells #[.int .i64 0, .int .i64 0] 28)) :=
  ⟨(Below.refl _ _).alloc (Nat.le_refl _) _, by simp, by simp, by simp, by simp, by simp⟩

set_option maxHeartbeats 3200000 in
theorem rUnframe_any (s : ByteArray) (p : Int) (w : World) (hs : s.size ≤ 4611686018427387904) (hp1 : -9223372036854775808 ≤ p) (hp2 : p ≤ 9223372036854775807) :
    Calls Try.prog 21 #[.string s, .int .i64 p] w fun e w' => e = .returned (unframeV s p) ∧ Below w.heap.size w w' := by
  obtain ⟨W0, hW0⟩ : ∃ W, W = w.alloc (.cells #[.int .i64 0, .int .i64 0] 28) := ⟨_, rfl⟩
  have hS := started w
  rw [← hW0] at hS
  have HW := hide hW0
  clear hW0
  by_cases hneg : p < 0
  · have HR := hide (show unframe s p = (⟨#[]⟩, 0, 0, 1) from by rw [unframe, if_pos (Or.inl hneg)])
    go_enter Try.func21, Try.ntmps21
    go_wp2_with fail
    rw [← HW.out]
    refine (Fault_any 0 1 W0).mono ?_
    rintro r w9 ⟨rfl, hb9⟩
    obtain ⟨d0, d1, g0, g1, hb8⟩ := hS.behind hb9
    clear hb9
    go_wp2
    rw [unframeV, HR.out]
    exact bodyPost_ret (v := .tuple #[.string ⟨#[]⟩, .int .i64 0, .agg #[.int .i64 0, .int .i64 1]]) (by simp [results, Try.results21, go_sem, d0, d1]) rfl ⟨rfl, (hb8.setCell (Nat.le_refl _) _).setCell (Nat.le_refl _) _⟩
  · by_cases hbig : (s.size : Int) < p
    · have HR := hide (show unframe s p = (⟨#[]⟩, 0, 0, 1) from by rw [unframe, if_pos (Or.inr hbig)])
      go_enter Try.func21, Try.ntmps21
      go_wp2_with fail
      rw [← HW.out]
      refine (Fault_any 0 1 W0).mono ?_
      rintro r w9 ⟨rfl, hb9⟩
      obtain ⟨d0, d1, g0, g1, hb8⟩ := hS.behind hb9
      clear hb9
      go_wp2
      rw [unframeV, HR.out]
      exact bodyPost_ret (v := .tuple #[.string ⟨#[]⟩, .int .i64 0, .agg #[.int .i64 0, .int .i64 1]]) (by simp [results, Try.results21, go_sem, d0, d1]) rfl ⟨rfl, (hb8.setCell (Nat.le_refl _) _).setCell (Nat.le_refl _) _⟩
    · obtain ⟨q, rfl⟩ := Int.eq_ofNat_of_zero_le (show 0 ≤ p by omega)
      have hq : q ≤ s.size := by omega
      have hrs := ext_size s q s.size hq (Nat.le_refl _)
      have hdr : (s.extract q s.size).data.toList = s.data.toList.drop q := by
        rw [Lib.extract_data, List.take_of_length_le]; rw [List.length_drop, ← Lib.size_eq]; exact Nat.le_refl _
      have HRL : Hid ((s.data.toList.drop q).length = s.size - q) := by show _ = _; rw [List.length_drop, ← Lib.size_eq]
      by_cases h4 : s.size - q < 4
      · have HR := hide (show unf (s.data.toList.drop q) = ([], 0, 11) from by rw [unf, if_pos (by rw [HRL.out]; exact h4)])
        clear hdr
        go_enter Try.func21, Try.ntmps21
        go_wp2_with fail
        rw [← HW.out]
        refine (Fault_any q 11 W0).mono ?_
        rintro r w9 ⟨rfl, hb9⟩
        obtain ⟨d0, d1, g0, g1, hb8⟩ := hS.behind hb9
        clear hb9
        go_wp2
        rw [unframeV, unframe_bad hq HR.out (by decide)]
        exact bodyPost_ret (v := .tuple #[.string ⟨#[]⟩, .int .i64 0, .agg #[.int .i64 q, .int .i64 11]]) (by simp [results, Try.results21, go_sem, d0, d1]) rfl ⟨rfl, (hb8.setCell (Nat.le_refl _) _).setCell (Nat.le_refl _) _⟩
      · have Hd := hide hdr
        clear hdr
        go_enter Try.func21, Try.ntmps21
        go_wp2_with fail
        rw [← HW.out]
        generalize s.extract q s.size = r at *
        rw [← hrs]
        refine (unfour_any r W0 (by omega)).mono ?_
        rintro e w' ⟨rfl, nq, rfl⟩
        have hS1 := hS.drewN nq
        generalize W0.drewN nq = W1 at *
        have hn32 : Pl.val (r.data.toList.take 4) < 4294967296 := Nat.lt_of_lt_of_le (Pl.val_lt _) (by rw [List.length_take]; exact Nat.pow_le_pow_right (by omega) (Nat.min_le_left _ _))
        have hrl : r.data.toList.length = r.size := (Lib.size_eq r).symm
        have HU2 : Hid (unf (s.data.toList.drop q) = unf r.data.toList) := by show _ = _; rw [Hd.out]
        rw [unf.eq_1 r.data.toList, if_neg (by omega), hrl] at HU2
        obtain ⟨n, hn⟩ : ∃ n, n = Pl.val (r.data.toList.take 4) := ⟨_, rfl⟩
        rw [← hn] at HU2 hn32 ⊢
        have hr4 : 4 ≤ r.size := by omega
        have hrle : r.size ≤ 4611686018427387904 := by omega
        clear hn Hd hrl HRL h4 hS HW
        by_cases h5 : 65536 < n
        · rw [if_pos h5] at HU2
          go_wp2_with fail
          refine (Fault_any q 2 W1).mono ?_
          rintro r w9 ⟨rfl, hb9⟩
          obtain ⟨d0, d1, g0, g1, hb8⟩ := hS1.behind hb9
          clear hb9
          go_wp2
          rw [unframeV, unframe_bad hq HU2.out (by decide)]
          exact bodyPost_ret (v := .tuple #[.string ⟨#[]⟩, .int .i64 0, .agg #[.int .i64 q, .int .i64 2]]) (by simp [results, Try.results21, go_sem, d0, d1]) rfl ⟨rfl, (hb8.setCell (Nat.le_refl _) _).setCell (Nat.le_refl _) _⟩
        · rw [if_neg h5] at HU2
          by_cases h6 : r.size < n + 8
          · rw [if_pos h6] at HU2
            go_wp2_with fail
            refine (Fault_any q 11 W1).mono ?_
            rintro r w9 ⟨rfl, hb9⟩
            obtain ⟨d0, d1, g0, g1, hb8⟩ := hS1.behind hb9
            clear hb9
            go_wp2
            rw [unframeV, unframe_bad hq HU2.out (by decide)]
            exact bodyPost_ret (v := .tuple #[.string ⟨#[]⟩, .int .i64 0, .agg #[.int .i64 q, .int .i64 11]]) (by simp [results, Try.results21, go_sem, d0, d1]) rfl ⟨rfl, (hb8.setCell (Nat.le_refl _) _).setCell (Nat.le_refl _) _⟩
          · rw [if_neg h6] at HU2
            have i1 : (0 : Int) ≤ 4 + (n : Int) := by omega
            have i3 : (4 : Int) + n ≤ (r.size : Int) := by omega
            go_wp2
            go_quiet ((first | (go_at_call 42; exact Calls.quiet_of (unfour_any _ _ (by rw [ext_size r _ _ (by omega) (by omega)]; omega))) | (go_at_call 25; exact Calls.quiet_of_same (rSum_any _ _ (by rw [ext_size r _ _ (by omega) (by omega)]; omega)))))
            have hS2 := hS1.drewN nq
            have e2 : List.take 4 (List.take (s.size - q - (4 + n)) (List.drop (4 + n) r.data.toList)) = List.take 4 (List.drop (4 + n) r.data.toList) := by rw [List.take_take, Nat.min_eq_left (by omega)]
            have e1 : (r.extract 0 (4 + n)).data.toList = r.data.toList.take (4 + n) := by rw [Lib.extract_data, List.drop_zero, Nat.sub_zero]
            simp only [e1, Lib.extract_data, e2]
            clear e1 e2
            generalize W1.drewN nq = W2 at *
            by_cases h7 : Pl.val ((r.data.toList.drop (4 + n)).take 4) = Pl.adler (r.data.toList.take (4 + n))
            · rw [if_neg (by simpa using h7)] at HU2
              rw [h7]
              clear h7
              have hbody : r.extract 4 (4 + n) = ⟨((r.data.toList.drop 4).take n).toArray⟩ := by rw [Lib.extract_eq, show 4 + n - 4 = n from by omega]
              have HB := hide hbody
              obtain ⟨c0, c1, f0, f1, hb2⟩ := hS2.behind (Below.refl _ _)
              clear hbody
              go_wp2
              rw [unframeV, unframe_good hq HU2.out, ← HB.out]
              exact bodyPost_ret (v := .tuple #[.string (r.extract 4 (4 + n)), .int .i64 ((q : Int) + (n + 8 : Nat)), .agg #[.int .i64 0, .int .i64 0]]) (by simp [results, Try.results21, go_sem, c0, c1]; omega) rfl ⟨rfl, (hb2.setCell (Nat.le_refl _) _).setCell (Nat.le_refl _) _⟩
            · rw [if_pos h7] at HU2
              generalize Pl.val ((r.data.toList.drop (4 + n)).take 4) = a at *
              generalize Pl.adler (r.data.toList.take (4 + n)) = b at *
              have bq : ((b : Int) != (a : Int)) = true := by rw [bne_iff_ne]; omega
              go_wp2_with fail
              refine (Fault_any q 10 W2).mono ?_
              rintro r w9 ⟨rfl, hb9⟩
              obtain ⟨d0, d1, g0, g1, hb8⟩ := hS2.behind hb9
              clear hb9
              go_wp2
              rw [unframeV, unframe_bad hq HU2.out (by decide)]
              exact bodyPost_ret (v := .tuple #[.string ⟨#[]⟩, .int .i64 0, .agg #[.int .i64 q, .int .i64 10]]) (by simp [results, Try.results21, go_sem, d0, d1]) rfl ⟨rfl, (hb8.setCell (Nat.le_refl _) _).setCell (Nat.le_refl _) _⟩

end Go.Proofs.Ytldlbnmegbdfpaa
