/- RingKeys: the law's walk, over what the calls tell. -/
import Derived.Test.YtdgfbkkjeogigaaDoorRfBook
import Derived.Test.YtdgfbkkjeogigaaDoorRfMov
import Derived.Test.YtdgfbkkjeogigaaDoorRgWorks
import Derived.Test.YtdgfbkkjeogigaaDoorGArgsI
namespace Go.Proofs.YtdgfbkkjeogigaaDoor.Rf
open Go.RowKit Go.Joins Gk Rg

abbrev TxT : TypeId := 9
theorem txt_info : (Tryd.prog.info? TxT).map (fun i => (i.zero, i.size, i.bytes)) = some (some (.string ⟨#[]⟩), 1, 16) := by kernel_rfl
theorem tenc_one' (x : ByteArray) : ∀ u ∈ tenc x, u.oneCell' = true := by intro u hu; simp only [tenc, List.mem_singleton] at hu; subst hu; rfl
theorem own_madeT (w : World) : (w.alloc (.cells #[] TxT)).ownsRow w.heap.size TxT 1 (.slice (some ⟨w.heap.size, 0, none⟩) 0 0) 0 (rc tenc []) :=
  ⟨rfl, .inr ⟨w.heap.size, 0, #[], rfl, Nat.le_refl _, heap_alloc_new w _, Nat.le_refl _, by unfold maxLen; omega, rfl, rfl⟩⟩

set_option maxHeartbeats 3200000 in
set_option maxRecDepth 100000 in
theorem same_texts (a a' : Option Addr) (cap cap' : Nat) (l : List ByteArray) (w : World) (hl : Lies w tenc a l) (hl' : Lies w tenc a' l) (hn : l.length ≤ 9223372036854775807) :
    Calls Tryd.prog 23 #[.slice a l.length cap, .slice a' l.length cap'] w fun e w' => e = .returned (.bool true) ∧ Below w.heap.size w w' := by
  have mixed : Tryd.prog.follows .mixedOrders = true := by kernel_rfl
  go_enter Tryd.func23, Tryd.ntmps23
  go_wp2
  go_loopw [5] (fun iv wr => ∃ k : Nat, k ≤ l.length ∧ iv = .int .i64 k ∧ Below w.heap.size w wr) (fun iv _ => l.length - (intOf iv).toNat)
  case atStart => exact ⟨0, Nat.zero_le _, rfl, Below.refl _ _⟩
  case round =>
    obtain ⟨k, hk, rfl, hb⟩ := hrel
    by_cases hkl : k < l.length
    · have j1 : (k : Int) < (l.length : Int) := by omega
      obtain ⟨b1, o1, rfl, hb1, hc1⟩ := (hl.below hb).at tenc_len k hkl
      obtain ⟨b2, o2, rfl, hb2, hc2⟩ := (hl'.below hb).at tenc_len k hkl
      have d1 := hc1 0 _ rfl
      have d2 := hc2 0 _ rfl
      rw [Nat.mul_one, Nat.add_zero] at d1 d2
      generalize l[k] = x at d1 d2
      clear hc1 hc2
      go_wp2_with fail
      refine wp_region_quiet_lit (by kernel_rfl) (by kernel_rfl) ?_
      refine QW.out ?_
      repeat (refine QW.step (fun K hK => ?_); go_simp; refine hK _ ?_; clear hK K)
      refine QW.nil ?_
      rintro w7 ⟨nq, rfl⟩
      have hb7 := hb.trans (below_draws w.heap.size wr nq)
      clear d1 d2
      generalize wr.drewN nq = w8 at hb7 ⊢
      go_wp2
      go_roundw
      case rel => exact ⟨k + 1, by omega, by go_num, hb7⟩
      case measure => simp [intOf]; omega
    · have j1 : ¬ (k : Int) < (l.length : Int) := by omega
      go_wp2
      go_ret
      exact ⟨rfl, hb⟩

set_option maxHeartbeats 3200000 in
theorem keys_long (a a' a'' : Option Addr) (cap cap' cap'' : Nat) (n n' : Nat) (ks : List ByteArray) (w : World) (hK : TextsAt w a'' cap'' ks) (hT : Tab w) (hlong : 60 < ks.length) :
    Calls Tryd.prog 4 #[.slice a n cap, .slice a' n' cap', .slice a'' ks.length cap''] w fun e w' => e = .returned (.bool true) ∧ Below w.heap.size w w' := by
  have hn : ks.length ≤ 9223372036854775807 := Nat.le_trans hK.room hK.max
  have j0 : (60 : Int) < (ks.length : Int) := by omega
  go_enter Tryd.func4, Tryd.ntmps4
  go_wp2_with fail
  refine (works_any w hT).mono ?_
  rintro e w1 ⟨rfl, hb1⟩
  go_wp2
  go_ret
  exact ⟨rfl, hb1⟩

set_option maxHeartbeats 6400000 in
set_option maxRecDepth 100000 in
theorem keys_walk (a a' a'' : Option Addr) (cap cap' cap'' : Nat) (ws ws' : List Int) (ks : List ByteArray) (w : World) (hK : TextsAt w a'' cap'' ks) (hT : Tab w) (h60 : ks.length ≤ 60) (M : List Int) (E F : Int) (X : ByteArray → Int)
    (h1 : ∀ (b : Option Addr) (c : Nat) (W : World), Below w.heap.size w W → Lies W tenc b ks → Calls Tryd.prog 19 #[.slice a ws.length cap, .slice a' ws'.length cap', .slice b ks.length c] W fun e w' => ∃ v, e = .returned (.tuple #[v, .int .i64 E]) ∧ w'.ownsRow W.heap.size IntT 1 v M.length (rc ienc M) ∧ Below W.heap.size W w')
    (h2 : ∀ (W : World), Below w.heap.size w W → Calls Tryd.prog 20 #[.slice a ws.length cap, .slice a' ws'.length cap', .slice a'' ks.length cap''] W fun e w' => ∃ v, e = .returned (.tuple #[v, .int .i64 E]) ∧ w'.ownsRow W.heap.size IntT 1 v M.length (rc ienc M) ∧ Below W.heap.size W w')
    (h3 : ∀ (key : ByteArray) (W : World), key ∈ ks → Below w.heap.size w W → Calls Tryd.prog 21 #[.slice a ws.length cap, .string key] W fun e w' => e = .returned (.tuple #[.int .i64 (X key), .int .i64 F]) ∧ Below W.heap.size W w')
    (h4 : ∀ (key : ByteArray) (W : World), key ∈ ks → Below w.heap.size w W → Calls Tryd.prog 22 #[.slice a ws.length cap, .string key] W fun e w' => e = .returned (.tuple #[.int .i64 (X key), .int .i64 F]) ∧ Below W.heap.size W w')
    (hML : M.length ≤ ks.length) :
    Calls Tryd.prog 4 #[.slice a ws.length cap, .slice a' ws'.length cap', .slice a'' ks.length cap''] w fun e w' => e = .returned (.bool true) ∧ Below w.heap.size w w' := by
  have mixed : Tryd.prog.follows .mixedOrders = true := by kernel_rfl
  have hl := hK.lies
  have hnil := hK.nil
  · have j0 : ¬ (60 : Int) < (ks.length : Int) := by omega
    have hb0 := below_alloc1 w (.cells #[] TxT)
    go_enter Tryd.func4, Tryd.ntmps4
    go_wp2_with (first | (at_builtin; refine wpList_append_row (enc := tenc) (k := 1) rfl (.tmp 21) (.tmp 22) 34 rfl TxT (.string ⟨#[]⟩) 16 Tryd.underlying34 txt_info rfl (by decide) tenc_len tenc_one' w.heap.size _ [] rfl (own_madeT w) a'' ks ks.length cap'' rfl rfl (hl.below hb0) hnil (by simp only [List.length_nil]; omega) (by simp only [List.length_nil]; omega) (by simp) ?_; intro v2 w2 ho2 hg2 hat2; obtain ⟨a2, d2, rfl⟩ := own_slice ho2; have HO2 := hide ho2; have hB2 := ((hb0).grown hg2 (by simp) (fun k hk => by cases hk; exact Nat.le_refl _)); simp only [List.nil_append] at HO2; clear ho2 hg2 hat2) | fail)
    have HR2 := hide (own_mono HO2.out (Nat.zero_le _) : Row w2 tenc TxT 1 (.slice a2 ks.length d2) ks)
    refine (h1 a2 d2 w2 hB2 (Row.lies HR2.out)).mono ?_
    rintro e w3 ⟨v3, rfl, ho3, hb3⟩
    have hB3 := hB2.trans (hb3.mono hB2.size)
    go_wp2_with fail
    refine (h2 w3 hB3).mono ?_
    rintro e w4 ⟨v4, rfl, ho4, hb4⟩
    have hB4 := hB3.trans (hb4.mono hB3.size)
    obtain ⟨a3, c3, rfl⟩ := own_slice ho3
    obtain ⟨a4, c4, rfl⟩ := own_slice ho4
    have hS := same_ints ienc id (fun _ => rfl) a3 a4 c3 c4 M w4 (Row.lies (own_mono (own_below ho3 hb4) (Nat.zero_le _))) (Row.lies (own_mono ho4 (Nat.zero_le _))) (by omega)
    have HR4 := hide (Row.below (Row.below HR2.out hb3) hb4)
    clear ho3 ho4 HO2 HR2
    go_wp2_with fail
    refine hS.mono ?_
    rintro e w5 ⟨rfl, hb5⟩
    have hB5 := hB4.trans (hb5.mono hB4.size)
    have HR5 := hide (Row.below HR4.out hb5)
    clear hS HR4 hb3 hb4 hb5
    go_wp2
    go_loopw [12] (fun iv wr => ∃ k : Nat, k ≤ ks.length ∧ iv = .int .i64 k ∧ Below w5.heap.size w5 wr) (fun iv _ => ks.length - (intOf iv).toNat)
    case atStart => exact ⟨0, Nat.zero_le _, rfl, Below.refl _ _⟩
    case round =>
      obtain ⟨k, hk, rfl, hb⟩ := hrel
      have hBr := hB5.trans (hb.mono hB5.size)
      by_cases hkl : k < ks.length
      · have j1 : (k : Int) < (ks.length : Int) := by omega
        obtain ⟨b1, o1, rfl, hb1, hc1⟩ := (hl.below hBr).at tenc_len k hkl
        have d1 := hc1 0 _ rfl
        rw [Nat.mul_one, Nat.add_zero] at d1
        have hO := h3 ks[k] wr (List.getElem_mem hkl) hBr
        have hO' := fun W hb => h4 ks[k] W (List.getElem_mem hkl) hb
        generalize ks[k] = key at d1 hO hO'
        generalize X key = x at hO hO'
        clear hc1
        go_wp2_with fail
        refine hO.mono ?_
        rintro e w6 ⟨rfl, hb6⟩
        have hB6 := hBr.trans (hb6.mono hBr.size)
        have d2 := (hb6.cell (p := ⟨b1, o1 + k, none⟩) hb1).trans d1
        have hb1' : b1 < w6.heap.size := Nat.lt_of_lt_of_le hb1 hb6.size
        go_wp2_with fail
        refine (hO' w6 hB6).mono ?_
        rintro e w7 ⟨rfl, hb7⟩
        have hb57 := hb.trans ((hb6.trans (hb7.mono hb6.size)).mono hb.size)
        clear d1 d2 hO hO'
        go_wp2_with fail
        exact ⟨⟨k + 1, hkl, step_i k, hb57⟩, step_n k ks.length hkl⟩
      · have j1 : ¬ (k : Int) < (ks.length : Int) := by omega
        have hT' := same_texts a2 a'' d2 cap'' ks wr (Row.lies (Row.below HR5.out hb)) (hl.below hBr) (by omega)
        go_wp2_with fail
        refine hT'.mono ?_
        rintro e w6 ⟨rfl, hb6⟩
        have hB6 := hBr.trans (hb6.mono hBr.size)
        go_wp2_with fail
        refine (works_any w6 (hT.below hB6)).mono ?_
        rintro e w7 ⟨rfl, hb7⟩
        have hB7 := hB6.trans (hb7.mono hB6.size)
        go_wp2
        go_ret
        exact ⟨rfl, hB7⟩

set_option maxHeartbeats 3200000 in
theorem moved_no (a a' : Option Addr) (cap cap' : Nat) (v : Value) (ws ws' : List Int) (hM : ¬ (May ws ∧ May ws')) (w : World) (hl : Lies w ienc a ws) (hl' : Lies w ienc a' ws') (hn : ws.length ≤ 9223372036854775807) (hn' : ws'.length ≤ 9223372036854775807) :
    Calls Tryd.prog 19 #[.slice a ws.length cap, .slice a' ws'.length cap', v] w fun e w' => e = .returned (.tuple #[.slice none 0 0, .int .i64 1]) ∧ w' = w := by
  have hC := check_any a cap ws w hl hn
  have hC' := check_any a' cap' ws' w hl' hn'
  by_cases h1 : May ws
  · rw [chk_yes h1] at hC
    rw [chk_no (fun h2 => hM ⟨h1, h2⟩)] at hC'
    go_enter Tryd.func19, Tryd.ntmps19
    go_wp2_with fail
    refine hC.mono ?_
    rintro e w1 ⟨rfl, hw1⟩
    obtain rfl := hw1.symm
    go_wp2_with fail
    refine hC'.mono ?_
    rintro e w1 ⟨rfl, hw1⟩
    obtain rfl := hw1.symm
    go_wp2
    go_ret2
    exact ⟨rfl, rfl⟩
  · rw [chk_no h1] at hC
    go_enter Tryd.func19, Tryd.ntmps19
    go_wp2_with fail
    refine hC.mono ?_
    rintro e w1 ⟨rfl, hw1⟩
    obtain rfl := hw1.symm
    go_wp2
    go_ret2
    exact ⟨rfl, rfl⟩

end Go.Proofs.YtdgfbkkjeogigaaDoor.Rf
