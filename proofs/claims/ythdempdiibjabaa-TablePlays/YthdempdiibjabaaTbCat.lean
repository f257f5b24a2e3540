/- Layer 9: walks over slices.Grow, slices.Concat; rows.go: without. -/
import Derived.Test.YthdempdiibjabaaTbWith
namespace Go.Proofs.Ythdempdiibjabaa.Tb
open Go.RowKit Go.Joins Go.Proofs.Ythdempdiibjabaa.Gk Go.Proofs.Ythdempdiibjabaa.Oq Go.Proofs.Ythdempdiibjabaa.Sp

set_option maxRecDepth 100000 in
set_option maxHeartbeats 1600000 in
theorem grow_any (n : Nat) (hn : n ≤ 1000000) (w : World) :
    Calls Try.prog 68 #[.slice none 0 0, .int .i64 (n : Nat)] w fun e w' => ∃ a' cap', e = .returned (.slice a' 0 cap') ∧ w'.ownsRow w.heap.size RowT 3 (.slice a' 0 cap') ([] : List Rw).length (rc rwenc []) ∧ Below w.heap.size w w' := by
  rcases Nat.eq_zero_or_pos n with rfl | hp
  · go_enter Try.func68, Try.ntmps68
    go_wp2
    go_ret
    exact ⟨_, _, rfl, World.ownsRow_nil _ _ _ _, Below.refl _ _⟩
  · have i1 : ¬ (n : Int) < 0 := by omega
    have i2 : (0 : Int) < (n : Int) := by omega
    have h40 : Try.t53.bytes = 40 := by rfl
    have hnx := nextslicecap_zero hp
    have j1 : ¬ 281474976710656 < n * 40 := by omega
    have j2 : ¬ (281474976710656 : Int) < (n : Int) * 40 := by omega
    have j3 : ¬ n = 0 := by omega
    have j4 : ¬ n * 3 = 0 := by omega
    have j5 : (n : Int) ≤ 9223372036854775807 := by omega
    have hge := grownCap_ge w n 0 RowT
    have hcm := grownCap_le_maxLen w n 0 RowT (by unfold maxLen; omega)
    have hge' : n ≤ (Question.appendCap n 0 RowT).cut (w.tape w.drawn (Question.appendCap n 0 RowT)) := hge
    have hcm' : (Question.appendCap n 0 RowT).cut (w.tape w.drawn (Question.appendCap n 0 RowT)) ≤ maxLen := hcm
    have HGE := hide hge'
    have HCM := hide hcm'
    clear hge hcm hge' hcm'
    go_enter Try.func68, Try.ntmps68
    go_wp2
    have hh := heap_alloc_new w (.cells (Builtin.zeroCells #[.string ⟨#[]⟩, .int .i64 0, .string ⟨#[]⟩] n ++ Builtin.zeroCells #[.string ⟨#[]⟩, .int .i64 0, .string ⟨#[]⟩] ((Question.appendCap n 0 RowT).cut (w.tape w.drawn (Question.appendCap n 0 RowT)) - n)) RowT)
    have hbb := (below_a1 w (.cells (Builtin.zeroCells #[.string ⟨#[]⟩, .int .i64 0, .string ⟨#[]⟩] n ++ Builtin.zeroCells #[.string ⟨#[]⟩, .int .i64 0, .string ⟨#[]⟩] ((Question.appendCap n 0 RowT).cut (w.tape w.drawn (Question.appendCap n 0 RowT)) - n)) RowT)).drew
    have g1 := HGE.out
    have g2 := HCM.out
    go_ret
    refine ⟨_, _, rfl, ⟨rfl, Or.inr ⟨w.heap.size, _, _, rfl, Nat.le_refl _, hh, Nat.zero_le _, g2, ?_, by simp [rc]⟩⟩, hbb⟩
    simp only [Array.size_append, size_zeroCells]
    generalize (Question.appendCap n 0 RowT).cut (w.tape w.drawn (Question.appendCap n 0 RowT)) = q at g1 g2 ⊢
    show n * 3 + (q - n) * 3 = q * 3
    omega

set_option maxRecDepth 100000 in
set_option maxHeartbeats 1600000 in
theorem concat_any (b : Nat) (a1 a2 : Option Addr) (c1 c2 : Nat) (l1 l2 : List Rw) (w : World) (e1 : w.cell? ⟨b, 0, none⟩ = some (.slice a1 l1.length c1)) (e2 : w.cell? ⟨b, 1, none⟩ = some (.slice a2 l2.length c2)) (hb : b < w.heap.size)
    (h1 : Lies w rwenc a1 l1) (h2 : Lies w rwenc a2 l2) (z1 : a1 = none → c1 = 0) (z2 : a2 = none → c2 = 0) (hn1 : l1.length ≤ 400000) (hn2 : l2.length ≤ 400000) :
    Calls Try.prog 44 #[.slice (some ⟨b, 0, none⟩) 2 2] w fun e w' => ∃ a' cap', e = .returned (.slice a' (l1 ++ l2).length cap') ∧ w'.ownsRow w.heap.size RowT 3 (.slice a' (l1 ++ l2).length cap') (l1 ++ l2).length (rc rwenc (l1 ++ l2)) ∧ Below w.heap.size w w' := by
  go_enter Try.func44, Try.ntmps44
  go_wp2
  go_loop [3, 11] (fun sv iv => (iv = .int .i64 0 ∧ sv = .int .i64 0) ∨ (iv = .int .i64 1 ∧ sv = .int .i64 (l1.length : Nat)) ∨ (iv = .int .i64 2 ∧ sv = .int .i64 ((l1.length + l2.length : Nat)))) (fun _ i => 2 - (intOf i).toNat)
  case atStart => exact Or.inl ⟨rfl, rfl⟩
  case round =>
    rcases hrel with ⟨rfl, rfl⟩ | ⟨rfl, rfl⟩ | ⟨rfl, rfl⟩
    · go_wp2
      go_round
      case rel => exact Or.inr (Or.inl ⟨rfl, rfl⟩)
      case measure => simp [intOf]
    · go_wp2
      go_round
      case rel => exact Or.inr (Or.inr ⟨rfl, by go_num⟩)
      case measure => simp [intOf]
    · go_wp2_with fail
      refine (grow_any _ (by omega) _).mono ?_
      rintro e w1 ⟨a0, cap0, rfl, hown, hb1⟩
      go_wp2
      go_loopw [6, 27] (fun v i wr => ∃ (j : Nat) (L : List Rw), i = .int .i64 j ∧ Hid ((j = 0 ∧ L = []) ∨ (j = 1 ∧ L = l1) ∨ (j = 2 ∧ L = l1 ++ l2)) ∧ j ≤ 2 ∧ L.length ≤ 800000 ∧ wr.ownsRow w.heap.size RowT 3 v L.length (rc rwenc L) ∧ Below w.heap.size w wr) (fun _ i _ => 2 - (intOf i).toNat)
      case atStart => exact ⟨0, [], rfl, Or.inl ⟨rfl, rfl⟩, by omega, by simp, hown, hb1⟩
      case round =>
        clear hown hb1
        obtain ⟨j, L, rfl, HJ, hj2, hL8, hown, hbel⟩ := hrel
        obtain ⟨av, cv, rfl⟩ := Gk.own_slice hown
        have hwr := hbel.size
        rcases HJ.out with ⟨rfl, rfl⟩ | ⟨rfl, rfl⟩ | ⟨rfl, rfl⟩
        · have d1 := (hbel.cell (p := ⟨b, 0, none⟩) hb).trans e1
          go_wp2_with (at_builtin; refine wpList_append_row (enc := rwenc) (k := 3) rfl (.tmp 31) (.tmp 32) RowsT rfl RowT noRw 40 Try.underlying26 row_info rfl (by decide) rwenc_len rwenc_one w.heap.size _ ([] : List Rw) rfl hown a1 l1 l1.length c1 rfl rfl (h1.below hbel) z1 (by simp; omega) (by simp; omega) hwr ?_)
          intro v3 w3 hown3 hg3 hat3
          have hbel3 : Below w.heap.size w w3 := hbel.grown hg3 hwr (fun k hk => (hown.lt k hk).1)

          obtain ⟨av3, cv3, rfl⟩ := Gk.own_slice hown3
          clear hg3 hat3 hown hbel HJ
          go_wp2
          go_roundw
          case rel => exact ⟨1, l1, rfl, Or.inr (Or.inl ⟨rfl, rfl⟩), by omega, by omega, hown3, hbel3⟩
          case measure => simp [intOf]
        · have d1 := (hbel.cell (p := ⟨b, 1, none⟩) hb).trans e2
          go_wp2_with (at_builtin; refine wpList_append_row (enc := rwenc) (k := 3) rfl (.tmp 31) (.tmp 32) RowsT rfl RowT noRw 40 Try.underlying26 row_info rfl (by decide) rwenc_len rwenc_one w.heap.size _ L rfl hown a2 l2 l2.length c2 rfl rfl (h2.below hbel) z2 (by omega) (by omega) hwr ?_)
          intro v3 w3 hown3 hg3 hat3
          have hbel3 : Below w.heap.size w w3 := hbel.grown hg3 hwr (fun k hk => (hown.lt k hk).1)
          obtain ⟨av3, cv3, rfl⟩ := Gk.own_slice hown3
          have hLL : (L ++ l2).length ≤ 800000 := by rw [List.length_append]; omega
          clear hg3 hat3 hown hbel HJ
          obtain ⟨M, hM⟩ : ∃ M, M = L ++ l2 := ⟨_, rfl⟩
          rw [← hM] at hown3 hLL
          have HM := hide hM
          have HML := hide (show M.length = L.length + l2.length by rw [hM, List.length_append])
          clear hM
          go_wp2
          go_roundw
          case rel => exact ⟨2, M, rfl, Or.inr (Or.inr ⟨rfl, HM.out⟩), by omega, hLL, by rw [HML.out]; first | exact hown3 | (rw [← HML.out]; exact hown3), hbel3⟩
          case measure => simp [intOf]
        · obtain ⟨M, hM⟩ : ∃ M, M = l1 ++ l2 := ⟨_, rfl⟩
          rw [← hM] at hown ⊢
          have HM := hide hM
          clear hM HJ hL8
          go_wp2
          go_ret
          exact ⟨av, cv, by rw [← HM.out]; rfl, by rw [← HM.out]; exact hown, hbel⟩

set_option maxRecDepth 100000 in
set_option maxHeartbeats 1600000 in
theorem without_any (a : Option Addr) (cap : Nat) (l : List Rw) (i j : Nat) (hij : i ≤ j) (hj : j ≤ l.length) (w : World) (hl : RL w a cap l) (hlen : l.length ≤ 400000) :
    Calls Try.prog 26 #[.slice a l.length cap, .int .i64 (i : Nat), .int .i64 (j : Nat)] w fun e w' => ∃ a' cap' L, e = .returned (.slice a' L.length cap') ∧ L = l.take i ++ l.drop j ∧ w'.ownsRow w.heap.size RowT 3 (.slice a' L.length cap') L.length (rc rwenc L) ∧ Below w.heap.size w w' := by
  have hlow : (l.take i).length = i := by rw [List.length_take]; omega
  have hlen2 : (l.drop j).length = l.length - j := List.length_drop
  have hbn : ∀ o : Obj, Below w.heap.size w (w.alloc o).drew := fun o => ((below_a1 w o).drew)
  have hce : ∀ (cs : Array Value) (t : TypeId) (i : Nat) (v : Value), cs[i]? = some v → (w.alloc (.cells cs t)).drew.cell? ⟨w.heap.size, i, none⟩ = some v := fun cs t i v h => cellB (w := (w.alloc (.cells cs t)).drew) (heap_alloc_new w (.cells cs t)) i h
  have hz2 : ∀ o : Obj, (w.alloc o).drew.heap.size = w.heap.size + 1 := fun o => by show (w.alloc o).heap.size = _; simp
  rcases hl with ⟨rfl, rfl, rfl⟩ | ⟨g, off, cur, rfl, hg, hsz, hroom, hmax, hc⟩
  · simp only [List.length_nil, Nat.le_zero] at hj
    subst hj
    obtain rfl : i = 0 := by omega
    clear hlow hlen2 hij
    go_enter Try.func26, Try.ntmps26
    go_wp2_with fail
    go_region_law (first
      | (go_simp; go_at_call 44; refine (concat_any w.heap.size Option.none Option.none 0 0 [] [] _ (hce _ _ 0 _ rfl) (hce _ _ 1 _ rfl) (by rw [hz2]; omega) (Or.inl rfl) (Or.inl rfl) (fun _ => rfl) (fun _ => rfl) (by simp) (by simp)).mono ?_; rintro e w3 ⟨a3, cap3, rfl, hown3, hb3⟩))
    have hbel : Below w.heap.size w w3 := (hbn _).trans (hb3.mono (by rw [hz2]; omega))
    have hown4 := own_mono hown3 (B' := w.heap.size) (by rw [hz2]; omega)
    go_wp2
    go_ret
    exact ⟨a3, cap3, [], rfl, by simp, hown4, hbel⟩
  · have hL1 : RL w (some ⟨g, off, none⟩) cap l := Or.inr ⟨g, off, cur, rfl, hg, hsz, hroom, hmax, hc⟩
    have hA : RL w (some ⟨g, off, none⟩) cap (l.take i) := by
      have := hL1.part 0 i cap (Nat.zero_le _) (by omega) (by omega) (Nat.le_refl _)
      simpa using this
    have hD : Lies w rwenc (if cap = j then some ⟨g, off, none⟩ else some ⟨g, off + j * 3, none⟩) (l.drop j) := by
      by_cases e : cap = j
      · exact Or.inl (List.drop_of_length_le (by omega))
      · rw [if_neg e]
        have := hL1.part j l.length cap (by omega) (Nat.le_refl _) hroom (Nat.le_refl _)
        rw [List.take_length] at this
        exact this.lies
    have hDn : (if cap = j then some (⟨g, off, none⟩ : Addr) else some ⟨g, off + j * 3, none⟩) = none → cap - j = 0 := by
      intro e; split at e <;> cases e
    have i1 : (0 : Int) ≤ (i : Int) := by omega
    have i2 : (i : Int) ≤ (cap : Int) := by omega
    have i3 : (0 : Int) ≤ (j : Int) := by omega
    have i4 : (j : Int) ≤ (l.length : Int) := by omega
    have i5 : (l.length : Int) ≤ (cap : Int) := by omega
    have HA := hide hA
    have HD := hide hD
    have HN := hide hDn
    have hC := fun (X : World) (h0 : X.cell? ⟨w.heap.size, 0, none⟩ = some (.slice (some ⟨g, off, none⟩) i cap)) (h1 : X.cell? ⟨w.heap.size, 1, none⟩ = some (.slice (if cap = j then some (⟨g, off, none⟩ : Addr) else some ⟨g, off + j * 3, none⟩) (l.length - j) (cap - j))) (hX : Below w.heap.size w X) (hz : w.heap.size < X.heap.size) =>
      concat_any w.heap.size (some ⟨g, off, none⟩) (if cap = j then some (⟨g, off, none⟩ : Addr) else some ⟨g, off + j * 3, none⟩) cap (cap - j) (l.take i) (l.drop j) X (by rw [hlow]; exact h0) (by rw [hlen2]; exact h1) hz (HA.out.below hX).lies (HD.out.below hX) (fun e => by cases e) HN.out (by rw [hlow]; omega) (by rw [hlen2]; omega)
    clear hL1 hA hD hg hsz hmax hc hlow hlen2 hDn
    go_enter Try.func26, Try.ntmps26
    go_wp2_with fail
    go_region_law (first
      | (go_simp; go_at_call 44; refine (hC _ (hce _ _ 0 _ rfl) (hce _ _ 1 _ rfl) (hbn _) (by rw [hz2]; omega)).mono ?_; rintro e w3 ⟨a3, cap3, rfl, hown3, hb3⟩))
    have hbel : Below w.heap.size w w3 := (hbn _).trans (hb3.mono (by rw [hz2]; omega))
    have hown4 := own_mono hown3 (B' := w.heap.size) (by rw [hz2]; omega)
    have HL := hide (show (l.take i ++ l.drop j).length = min i l.length + (l.length - j) by simp)
    go_wp2
    all_goals go_ret
    all_goals exact ⟨a3, cap3, _, by rw [HL.out]; rfl, rfl, hown4, hbel⟩

end Go.Proofs.Ythdempdiibjabaa.Tb
