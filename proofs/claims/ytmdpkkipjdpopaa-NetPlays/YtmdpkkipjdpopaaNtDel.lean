/- Walks over package slices at letters: Delete of one. -/
import Derived.Test.YtmdpkkipjdpopaaNtApart
import Derived.Test.YtmdpkkipjdpopaaGRow
namespace Go.Proofs.Ytmdpkkipjdpopaa.Nk
open Go.RowKit Go.Joins Gk

theorem zero_let (w : World) : (zeroValue LetT).run Try.prog w = .ok noL w := by kernel_rfl
theorem zero_pair (w : World) : (zeroValue PairT).run Try.prog w = .ok (.agg #[.int .i64 0, .int .i64 0]) w := by kernel_rfl

set_option maxHeartbeats 4000000 in
set_option maxRecDepth 100000 in
theorem delete_any (g cap i j n : Nat) (l : List Lt) (w : World) (hn : n = l.length) (hr : Row w lenc LetT 4 (.slice (some ⟨g, 0, none⟩) n cap) l) (hi : i < l.length) (hij : j = i + 1) :
    Calls Try.prog 51 #[.slice (some ⟨g, 0, none⟩) n cap, .int .i64 i, .int .i64 j] w fun e w' => e = .returned (.slice (some ⟨g, 0, none⟩) (n - 1) cap) ∧ Row w' lenc LetT 4 (.slice (some ⟨g, 0, none⟩) (n - 1) cap) (l.eraseIdx i) ∧ w.grownBy w' (some g) := by
  obtain ⟨i0, hi0, hz0, hz1, hz2⟩ := info_parts let_info
  have hcapm : n ≤ cap ∧ cap ≤ 9223372036854775807 := by
    obtain ⟨g', cap', cur, e, _, h1, h2, _⟩ := own_form hr (by omega)
    cases e; unfold maxLen at h2; exact ⟨by omega, h2⟩
  have hnl : (l.drop j).length = n - j := by simp; omega
  obtain ⟨news, hnews⟩ : ∃ news, news = rc lenc (l.drop j) := ⟨_, rfl⟩
  have hnlen : news.length = (n - j) * 4 := by rw [hnews, rc_length lenc_len, hnl]
  obtain ⟨A, hA, hsrc⟩ : ∃ A : Addr, (if cap = j then some (⟨g, 0, none⟩ : Addr) else some ⟨g, j * 4, none⟩) = some A ∧ Hid (∀ t u, news[t]? = some u → w.drew.cell? (A.add t) = some u) := by
    by_cases h : cap = j
    · refine ⟨⟨g, 0, none⟩, by simp [h], fun t u hu => ?_⟩
      have h0 : news.length = 0 := by rw [hnlen]; omega
      rw [List.length_eq_zero_iff.1 h0] at hu
      simp at hu
    · refine ⟨⟨g, j * 4, none⟩, by simp [h], fun t u hu => ?_⟩
      rw [Addr.add_lit]
      rcases hr.drop lenc_len j (by omega) with h0 | ⟨b, off, e, _, hc⟩
      · rw [hnews, h0] at hu; simp [rc] at hu
      · cases e; exact hc t u (by rw [← hnews]; exact hu)
  have s1 : Hid (news.length = (n - j) * 4) := hnlen
  have s2 : Hid (∀ u ∈ news, u.oneCell' = true) := by rw [hnews]; exact rc_oneCell lenc_one _
  have s3 : Hid (∀ t, t < news.length → (w.drew.cell? ⟨g, 0 + i * 4 + t, none⟩).isSome = true ∧ w.drew.frozen? ⟨g, 0 + i * 4 + t, none⟩ = false) := by
    intro t ht
    rw [hnlen] at ht
    exact hr.there (0 + i * 4 + t) (by omega)
  obtain ⟨W1, hW1⟩ : ∃ W1, W1 = w.drew.setCells g (0 + i * 4) news := ⟨_, rfl⟩
  have hrd : Row w.drew lenc LetT 4 (.slice (some ⟨g, 0, none⟩) n cap) l := hr
  have hR1 : Row W1 lenc LetT 4 (.slice (some ⟨g, 0, none⟩) (i + (n - j)) cap) (l.take i ++ l.drop j) := by
    have := hrd.over lenc_len i (by omega) (l.drop j) (by omega)
    rw [hnl] at this
    rw [hW1, hnews, Nat.zero_add]; exact this
  have hlen1 : (l.take i ++ l.drop j).length = i + (n - j) := by rw [List.length_append, hnl, List.length_take]; omega
  have hcl : ∀ ty, (Builtin.clear_ #[45] ty #[.slice (some ⟨g, (i + (n - j)) * 4, none⟩) (n - (i + (n - j))) (cap - (i + (n - j)))]).run Try.prog W1 = .ok (.tuple #[]) (W1.setCells g ((i + (n - j)) * 4) (Builtin.zeroCells noL.cells (n - (i + (n - j)))).toList) := fun ty =>
    run_clear_row W1 _ _ ty noL Try.underlying45 zero_let (by decide) g _ _ _ (by omega) (fun t ht => hR1.there _ (by have : noL.cells.size = 4 := rfl; rw [this] at ht; omega))
  have hfin := hR1.tail ((i + (n - j)) * 4) (Builtin.zeroCells noL.cells (n - (i + (n - j)))).toList (by rw [hlen1]; exact Nat.le_refl _) (by rw [Array.length_toList, size_zeroCells]; have : noL.cells.size = 4 := rfl; rw [this]; omega)
  have HG := hide (show w.grownBy W1 (some g) by rw [hW1]; exact grown_trans (grown_drewN w 1 _) (grown_setCells g _ _ _))
  have HF := hide hfin
  have HE := hide (show l.take i ++ l.drop j = l.eraseIdx i by rw [hij, List.eraseIdx_eq_take_drop_succ])
  have HN := hide (show n - 1 = i + (n - j) by omega)
  have hW : Hid (W1 = w.drew.setCells g (0 + i * 4) news) := hW1
  have hic : i ≤ cap := by omega
  have hjc : j ≤ cap := by omega
  have hin : i < n := by omega
  have k1 : (0 : Int) ≤ (j : Int) := by omega
  have k2 : (j : Int) ≤ (n : Int) := by omega
  have k3 : ((i : Int) == (j : Int)) = false := by rw [beq_eq_false_iff_ne]; omega
  have k4 : (i : Int) ≤ (j : Int) := by omega
  have k5 : i + (n - j) < n := by omega
  have HIJ := hide hij
  clear hW1 hR1 hrd hr hfin hnews hnlen hnl hlen1 hn hij
  go_enter Try.func51, Try.ntmps51
  go_wp2_with fail
  go_region_law (refine step_append_room rfl (.tmp 22) (.tmp 25) 45 rfl LetT i0 4 Try.underlying45 hi0 hz1 g 0 i cap (by simp [Act.eval, Act.put]) A (n - j) (cap - j) news (by simp [Act.eval, Act.put]) s1.out hsrc.out s2.out (by omega) s3.out ?_; rw [← hW.out])
  go_wp2
  go_ret
  rw [HN.out, ← HE.out]
  exact ⟨rfl, HF.out, grown_trans HG.out (grown_setCells g _ _ _)⟩

end Go.Proofs.Ytmdpkkipjdpopaa.Nk
