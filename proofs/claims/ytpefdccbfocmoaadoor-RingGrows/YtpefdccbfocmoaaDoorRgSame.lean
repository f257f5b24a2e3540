/- RingSame: with the same weights no key moves; nor with a chain more that weighs nothing. Proved: for all weights and keys, no condition. -/
import Derived.Test.YtpefdccbfocmoaaDoorRgMov
import Derived.Test.YtpefdccbfocmoaaDoorRgWorks
import Derived.Test.YtpefdccbfocmoaaDoorGArgsI
import Derived.Test.YtpefdccbfocmoaaDoorGArgsT
namespace Go.Proofs.YtpefdccbfocmoaaDoor.Rg
open Go.RowKit Go.Joins Gk

theorem mvd_same {ws ws' : List Int} (h : ∀ x, ow ws x = ow ws' x) (i : Nat) (l : List ByteArray) : mvd ws ws' i l = [] := by
  induction l generalizing i with
  | nil => rfl
  | cons k r ih => rw [mvd, if_pos (h _), ih]
theorem ptsN_more (ws : List Int) (x : Int) (n : Nat) (hn : n ≤ ws.length) : ptsN (ws ++ [x]) n = ptsN ws n := by
  induction n with
  | zero => rfl
  | succ n ih =>
    rw [ptsN, ptsN, ih (by omega)]
    congr 2
    simp [List.getD_eq_getElem?_getD, List.getElem?_append_left (show n < ws.length by omega)]
theorem pts_zero (ws : List Int) : pts (ws ++ [0]) = pts ws := by
  rw [pts, List.length_append, List.length_singleton, ptsN, ptsN_more _ _ _ (Nat.le_refl _)]
  simp [List.getD_eq_getElem?_getD, ptsC, pts]
theorem ow_zero (ws : List Int) (h : Int) : ow ws h = ow (ws ++ [0]) h := by rw [ow, ow, pts_zero]
theorem may_zero {ws : List Int} (h : May ws) (hl : ws.length < 8) : May (ws ++ [0]) :=
  ⟨by simp, by simp; omega, fun x hx => by rcases List.mem_append.1 hx with h1 | h1; · exact h.each x h1
                                           · rw [List.mem_singleton.1 h1]; omega, by obtain ⟨x, h1, h2⟩ := h.some; exact ⟨x, List.mem_append_left _ h1, h2⟩⟩
theorem Lies.take {α : Type} {enc : α → List Value} {k : Nat} {w : World} {a : Option Addr} {l : List α} (h : Lies w enc a l) (hk : ∀ x, (enc x).length = k) (n : Nat) (hn : n ≤ l.length) : Lies w enc a (l.take n) := by
  rcases h with rfl | ⟨b, off, rfl, hlt, hl⟩
  · exact Or.inl (by simp)
  · refine Or.inr ⟨b, off, rfl, hlt, fun j u hj => hl j u ?_⟩
    rw [← rc_take hk l n hn, List.getElem?_take] at hj
    split at hj
    · exact hj
    · cases hj

/-- Moved, when no key moves -/
theorem moved_none (a a' a'' : Option Addr) (cap cap' cap'' : Nat) (ws ws' : List Int) (ks : List ByteArray) (hM : May ws) (hM' : May ws') (hsame : ∀ x, ow ws x = ow ws' x) (w : World) (hl : Lies w ienc a ws) (hl' : Lies w ienc a' ws') (hk : Lies w tenc a'' ks) (hz : ∀ k ∈ ks, k.size ≤ 9223372036854775807) (hn : ks.length ≤ 17592186044416) (hT : Tab w) :
    Calls Tryd.prog 19 #[.slice a ws.length cap, .slice a' ws'.length cap', .slice a'' ks.length cap''] w fun e w' => ∃ x c, e = .returned (.tuple #[.slice x 0 c, .int .i64 0]) ∧ Below w.heap.size w w' := by
  refine (moved_yes a a' a'' cap cap' cap'' ws ws' ks hM hM' w hl hl' hk hz hn hT).mono ?_
  rintro e w' ⟨v, rfl, ho, hb⟩
  rw [mvd_same hsame] at ho
  obtain ⟨x, c, rfl⟩ := own_slice ho
  exact ⟨x, c, rfl, hb⟩

set_option maxHeartbeats 3200000 in
set_option maxRecDepth 100000 in
theorem same_law (a : Option Addr) (cap : Nat) (ws : List Int) (a' : Option Addr) (cap' : Nat) (ks : List ByteArray) (w : World) (hI : IntsAt w a cap ws) (hK : TextsAt w a' cap' ks) (hT : Tab w) :
    Calls Tryd.prog 7 #[.slice a ws.length cap, .slice a' ks.length cap'] w fun e w' => e = .returned (.bool true) ∧ Below w.heap.size w w' := by
  have hn : ws.length ≤ 9223372036854775807 := Nat.le_trans hI.room hI.max
  have hnil := hI.nil
  have hroom := hK.room
  have hmax := hK.max
  have hl := hI.lies
  have hl' := hK.lies
  have HZ := hide hK.each
  have hC := fun W (h : Lies W ienc a ws) => check_any a cap ws W h hn
  by_cases hM : May ws
  · rw [chk_yes hM] at hC
    go_enter Tryd.func7, Tryd.ntmps7
    go_wp2_with (first | (go_at_call 18; refine (works_any w hT).mono ?_; rintro e w1 ⟨rfl, hb1⟩) | (go_at_call 15; refine (hC _ (hl.below hb1)).mono ?_; rintro e w2 ⟨rfl, hw2⟩; obtain rfl := hw2.symm))
    · have hz : ∀ k ∈ (ks.take 40), k.size ≤ 9223372036854775807 := fun k hk => Nat.le_trans (HZ.out k (List.mem_of_mem_take hk)) (by omega)
      have hm1 := moved_none a a a' cap cap cap' ws ws (ks.take 40) hM hM (fun _ => rfl) w1 (hl.below hb1) (hl.below hb1) ((Lies.take hl' tenc_len 40 (by omega)).below hb1) hz (by rw [List.length_take]; omega) (hT.below hb1)
      rw [List.length_take, Nat.min_eq_left (by omega)] at hm1
      refine hm1.mono ?_
      rintro e w2 ⟨x2, c2, rfl, hb2⟩
      have hB2 : Below w.heap.size w w2 := hb1.trans (hb2.mono hb1.size)
      clear hm1 hb1 hb2
      by_cases h8 : ws.length = 8
      · have h8' : (ws.length : Int) = 8 := by omega
        go_wp2
        go_ret
        exact ⟨by simp, hB2⟩
      · have h8' : ¬ (ws.length : Int) = 8 := by omega
        have hMz := may_zero hM (by have := hM.n2; omega)
        have hm2 := fun (W : World) x y (hb : Below w.heap.size w W) (hz' : Lies W ienc x (ws ++ [0])) => moved_none a x a' cap y cap' ws (ws ++ [0]) (ks.take 40) hM hMz (ow_zero ws) W (hl.below hb) hz' ((Lies.take hl' tenc_len 40 (by omega)).below hb) hz (by rw [List.length_take]; omega) (hT.below hb)
        rw [List.length_take, Nat.min_eq_left (by omega)] at hm2
        rw [List.length_append, List.length_singleton] at hm2
        have hown0 : (w2.alloc (.cells #[] IntT)).ownsRow w2.heap.size IntT 1 (.slice (some ⟨w2.heap.size, 0, none⟩) 0 0) ([] : List Int).length (rc ienc []) := World.ownsRow_made w2 #[] 0 (Nat.le_refl _) (Nat.zero_le _) rfl
        have hlw := (hl.below hB2).below (below_alloc1 w2 (.cells #[] IntT))
        have hw8 := hM.n2
        go_wp2_with (first
          | (at_builtin; refine wpList_append_row (enc := ienc) (k := 1) rfl (.tmp 47) (.tmp 48) 22 rfl IntT (.int .i64 0) 8 Tryd.underlying22 int_info rfl (by decide) ienc_len ienc_one' w2.heap.size _ [] rfl hown0 _ ws _ _ rfl rfl hlw hnil (by simp; omega) (by simp; omega) (by simp) ?_; intro v4 w4 hown4 hg4 hat4; obtain ⟨a4, c4, rfl⟩ := own_slice hown4; rw [List.nil_append] at hown4; have H4 := hide hown4; have B4 := hide (((Below.refl w2.heap.size w2).alloc (Nat.le_refl _) (.cells #[] IntT)).grown hg4 (by simp) (fun k e => (hown0.lt k e).1)); have z4 := B4.out.size; clear hown4 hg4 hat4 hown0)
          | (at_builtin; refine wpList_push (enc := ienc) (k := 1) rfl (.tmp 49) (.tmp 50) 22 rfl IntT (.int .i64 0) 8 Tryd.underlying22 int_info rfl (by decide) ienc_len ienc_one' w2.heap.size _ ws rfl (own_below H4.out (below_alloc1 w4 _)) w4.heap.size (0 : Int) rfl (heap_alloc_new w4 _) (by omega) (by omega) (by simp; omega) ?_; intro v5 w5 hown5 hg5 hat5; obtain ⟨a5, c5, rfl⟩ := own_slice hown5; have H5 := hide hown5; have B5 := hide ((B4.out.alloc z4 (.cells #[.int .i64 0] IntT)).grown hg5 (by simp; omega) (fun k e => (H4.out.lt k e).1)); simp only [List.length_append, List.length_cons, List.length_nil, Nat.zero_add] at H5; clear hown5 hg5 hat5)
          | fail)
        have hB5 : Below w.heap.size w w5 := hB2.trans (B5.out.mono hB2.size)
        have hl5 : Lies w5 ienc a5 (ws ++ [0]) := Row.lies (by have := own_mono (B' := 0) H5.out (Nat.zero_le _); rw [show ws.length + 1 = (ws ++ [0]).length by simp] at this; exact this : Row w5 ienc IntT 1 (.slice a5 (ws ++ [0]).length c5) (ws ++ [0]))
        refine (hm2 w5 a5 c5 hB5 hl5).mono ?_
        rintro e w6 ⟨x6, c6, rfl, hb6⟩
        go_wp2
        go_ret
        exact ⟨by simp, hB5.trans (hb6.mono hB5.size)⟩
    · have hz : ∀ k ∈ ks, k.size ≤ 9223372036854775807 := fun k hk => Nat.le_trans (HZ.out k hk) (by omega)
      have hm1 := moved_none a a a' cap cap cap' ws ws ks hM hM (fun _ => rfl) w1 (hl.below hb1) (hl.below hb1) (hl'.below hb1) hz (by omega) (hT.below hb1)
      refine hm1.mono ?_
      rintro e w2 ⟨x2, c2, rfl, hb2⟩
      have hB2 : Below w.heap.size w w2 := hb1.trans (hb2.mono hb1.size)
      clear hm1 hb1 hb2
      by_cases h8 : ws.length = 8
      · have h8' : (ws.length : Int) = 8 := by omega
        go_wp2
        go_ret
        exact ⟨by simp, hB2⟩
      · have h8' : ¬ (ws.length : Int) = 8 := by omega
        have hMz := may_zero hM (by have := hM.n2; omega)
        have hm2 := fun (W : World) x y (hb : Below w.heap.size w W) (hz' : Lies W ienc x (ws ++ [0])) => moved_none a x a' cap y cap' ws (ws ++ [0]) ks hM hMz (ow_zero ws) W (hl.below hb) hz' (hl'.below hb) hz (by omega) (hT.below hb)
        rw [List.length_append, List.length_singleton] at hm2
        have hown0 : (w2.alloc (.cells #[] IntT)).ownsRow w2.heap.size IntT 1 (.slice (some ⟨w2.heap.size, 0, none⟩) 0 0) ([] : List Int).length (rc ienc []) := World.ownsRow_made w2 #[] 0 (Nat.le_refl _) (Nat.zero_le _) rfl
        have hlw := (hl.below hB2).below (below_alloc1 w2 (.cells #[] IntT))
        have hw8 := hM.n2
        go_wp2_with (first
          | (at_builtin; refine wpList_append_row (enc := ienc) (k := 1) rfl (.tmp 47) (.tmp 48) 22 rfl IntT (.int .i64 0) 8 Tryd.underlying22 int_info rfl (by decide) ienc_len ienc_one' w2.heap.size _ [] rfl hown0 _ ws _ _ rfl rfl hlw hnil (by simp; omega) (by simp; omega) (by simp) ?_; intro v4 w4 hown4 hg4 hat4; obtain ⟨a4, c4, rfl⟩ := own_slice hown4; rw [List.nil_append] at hown4; have H4 := hide hown4; have B4 := hide (((Below.refl w2.heap.size w2).alloc (Nat.le_refl _) (.cells #[] IntT)).grown hg4 (by simp) (fun k e => (hown0.lt k e).1)); have z4 := B4.out.size; clear hown4 hg4 hat4 hown0)
          | (at_builtin; refine wpList_push (enc := ienc) (k := 1) rfl (.tmp 49) (.tmp 50) 22 rfl IntT (.int .i64 0) 8 Tryd.underlying22 int_info rfl (by decide) ienc_len ienc_one' w2.heap.size _ ws rfl (own_below H4.out (below_alloc1 w4 _)) w4.heap.size (0 : Int) rfl (heap_alloc_new w4 _) (by omega) (by omega) (by simp; omega) ?_; intro v5 w5 hown5 hg5 hat5; obtain ⟨a5, c5, rfl⟩ := own_slice hown5; have H5 := hide hown5; have B5 := hide ((B4.out.alloc z4 (.cells #[.int .i64 0] IntT)).grown hg5 (by simp; omega) (fun k e => (H4.out.lt k e).1)); simp only [List.length_append, List.length_cons, List.length_nil, Nat.zero_add] at H5; clear hown5 hg5 hat5)
          | fail)
        have hB5 : Below w.heap.size w w5 := hB2.trans (B5.out.mono hB2.size)
        have hl5 : Lies w5 ienc a5 (ws ++ [0]) := Row.lies (by have := own_mono (B' := 0) H5.out (Nat.zero_le _); rw [show ws.length + 1 = (ws ++ [0]).length by simp] at this; exact this : Row w5 ienc IntT 1 (.slice a5 (ws ++ [0]).length c5) (ws ++ [0]))
        refine (hm2 w5 a5 c5 hB5 hl5).mono ?_
        rintro e w6 ⟨x6, c6, rfl, hb6⟩
        go_wp2
        go_ret
        exact ⟨by simp, hB5.trans (hb6.mono hB5.size)⟩
  · rw [chk_no hM] at hC
    go_enter Tryd.func7, Tryd.ntmps7
    go_wp2_with (first | (go_at_call 18; refine (works_any w hT).mono ?_; rintro e w1 ⟨rfl, hb1⟩) | (go_at_call 15; refine (hC _ (hl.below hb1)).mono ?_; rintro e w2 ⟨rfl, hw2⟩; obtain rfl := hw2.symm))
    go_ret
    exact ⟨rfl, hb1⟩
end Go.Proofs.YtpefdccbfocmoaaDoor.Rg
