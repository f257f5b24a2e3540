/- Walks over the book: LendInts, SameInts, KeptInts; the document's Check. -/
import Derived.Test.YtdgfbkkjeogigaaDoorRfPts
namespace Go.Proofs.YtdgfbkkjeogigaaDoor.Rf
open Go.RowKit Go.Joins Gk Rg

theorem own_madeI (w : World) : (w.alloc (.cells #[] IntT)).ownsRow w.heap.size IntT 1 (.slice (some ⟨w.heap.size, 0, none⟩) 0 0) 0 (rc ienc []) :=
  ⟨rfl, .inr ⟨w.heap.size, 0, #[], rfl, Nat.le_refl _, heap_alloc_new w _, Nat.le_refl _, by unfold maxLen; omega, rfl, rfl⟩⟩

set_option maxHeartbeats 3200000 in
set_option maxRecDepth 100000 in
theorem lend_ints (a : Option Addr) (cap : Nat) (l : List Int) (w : World) (hl : Lies w ienc a l) (hnil : a = none → cap = 0) (hn : l.length * 8 ≤ 140737488351232) :
    Calls Tryd.prog 9 #[.slice a l.length cap] w fun e w' => ∃ g c, e = .returned (.slice (some ⟨g, 0, none⟩) l.length c) ∧ w'.ownsRow w.heap.size IntT 1 (.slice (some ⟨g, 0, none⟩) (l.length + 1) c) (l.length + 1) (rc ienc (l ++ [-77])) ∧ Below w.heap.size w w' := by
  have hb0 := below_alloc1 w (.cells #[] IntT)
  go_enter Tryd.func9, Tryd.ntmps9
  go_wp2_with (first
    | (at_builtin; refine wpList_append_row (enc := ienc) (k := 1) rfl (.tmp 4) (.tmp 5) 22 rfl IntT (.int .i64 0) 8 Tryd.underlying22 int_info rfl (by decide) ienc_len ienc_one w.heap.size _ [] rfl (own_madeI w) a l l.length cap rfl rfl (hl.below hb0) hnil (by simp; omega) (by simp; omega) (by simp) ?_; intro v2 w2 ho2 hg2 hat2; obtain ⟨a2, d2, rfl⟩ := own_slice ho2; have HO2 := hide ho2; have hB2 := hide ((hb0).grown hg2 (by simp) (fun k hk => by cases hk; exact Nat.le_refl _)); simp only [List.nil_append] at HO2; clear ho2 hg2 hat2)
    | (at_builtin; have hz := hB2.out.size; refine wpList_push (enc := ienc) (k := 1) rfl (.tmp 7) (.tmp 8) 22 rfl IntT (.int .i64 0) 8 Tryd.underlying22 int_info rfl (by decide) ienc_len ienc_one w.heap.size _ l rfl (own_below HO2.out (below_alloc1 w2 _)) w2.heap.size (-77) rfl (heap_alloc_new w2 _) (by omega) (by omega) (by simp; omega) ?_; intro v3 w3 ho3 hg3 hat3; obtain ⟨g3, d3, cur3, ev3, -, h31, -, -, -⟩ := own_form ho3 (by simp); subst ev3; have HO3 := hide ho3; have hB3 := hide ((hB2.out.alloc hz _).grown hg3 (by simp; omega) (fun k hk => (HO2.out.lt k hk).1)); simp only [List.length_append, List.length_cons, List.length_nil, Nat.zero_add] at HO3 h31; have h32 : (l.length : Int) ≤ (d3 : Int) := (by omega); have h33 : (0 : Int) ≤ (l.length : Int) := (by omega); clear ho3 hg3 hat3))
  go_ret
  exact ⟨g3, d3, rfl, HO3.out, hB3.out⟩

theorem lent_ints {w : World} {B g n c : Nat} {l : List Int} {m : Int} (h : w.ownsRow B IntT 1 (.slice (some ⟨g, 0, none⟩) n c) n (rc ienc (l ++ [m]))) (hn : n = l.length + 1) : Lies w ienc (some ⟨g, 0, none⟩) l := by
  have h1 : Lies w ienc (some ⟨g, 0, none⟩) (l ++ [m]) := by
    have : Row w ienc IntT 1 (.slice (some ⟨g, 0, none⟩) n c) (l ++ [m]) := by
      show w.ownsRow 0 IntT 1 _ (l ++ [m]).length _
      rw [List.length_append, show l.length + [m].length = n by simp [hn]]
      exact own_mono h (Nat.zero_le _)
    exact this.lies
  rcases h1 with h1 | ⟨b', off', e, hlt, hl⟩
  · simp at h1
  · cases e
    exact Or.inr ⟨g, 0, rfl, hlt, fun j u hj => hl j u (by rw [rc_append, List.getElem?_append_left (List.getElem?_eq_some_iff.1 hj).1]; exact hj)⟩

set_option maxHeartbeats 3200000 in
set_option maxRecDepth 100000 in
theorem same_ints {α : Type} (enc : α → List Value) (f : α → Int) (he : ∀ x, enc x = [.int .i64 (f x)]) (a a' : Option Addr) (cap cap' : Nat) (l : List α) (w : World) (hl : Lies w enc a l) (hl' : Lies w enc a' l) (hn : l.length ≤ 9223372036854775807) :
    Calls Tryd.prog 12 #[.slice a l.length cap, .slice a' l.length cap'] w fun e w' => e = .returned (.bool true) ∧ Below w.heap.size w w' := by
  have mixed : Tryd.prog.follows .mixedOrders = true := by kernel_rfl
  have hk1 : ∀ x, (enc x).length = 1 := fun x => by rw [he]; rfl
  go_enter Tryd.func12, Tryd.ntmps12
  go_wp2
  go_loopw [5] (fun iv wr => ∃ k : Nat, k ≤ l.length ∧ iv = .int .i64 k ∧ Below w.heap.size w wr) (fun iv _ => l.length - (intOf iv).toNat)
  case atStart => exact ⟨0, Nat.zero_le _, rfl, Below.refl _ _⟩
  case round =>
    obtain ⟨k, hk, rfl, hb⟩ := hrel
    by_cases hkl : k < l.length
    · have j1 : (k : Int) < (l.length : Int) := by omega
      obtain ⟨b1, o1, rfl, hb1, hc1⟩ := (hl.below hb).at hk1 k hkl
      obtain ⟨b2, o2, rfl, hb2, hc2⟩ := (hl'.below hb).at hk1 k hkl
      rw [he] at hc1 hc2
      have d1 := hc1 0 _ rfl
      have d2 := hc2 0 _ rfl
      rw [Nat.mul_one, Nat.add_zero] at d1 d2
      generalize f l[k] = x at d1 d2
      clear hc1 hc2
      go_wp2_with fail
      refine wp_region_quiet_lit (by kernel_rfl) (by kernel_rfl) ?_
      refine QW.out ?_
      repeat (refine QW.step (fun K hK => ?_); go_simp; refine hK _ ?_; clear hK K)
      refine QW.nil ?_
      rintro w7 ⟨nq, rfl⟩
      have hb7 := hb.trans (below_draws w.heap.size wr nq)
      clear d1 d2
      generalize wr.drewN nq = w8 at hb7 ⊢
      go_wp2
      go_roundw
      case rel => exact ⟨k + 1, by omega, by go_num, hb7⟩
      case measure => simp [intOf]; omega
    · have j1 : ¬ (k : Int) < (l.length : Int) := by omega
      go_wp2
      go_ret
      exact ⟨rfl, hb⟩

theorem own_cell {w : World} {B e size n cap g : Nat} {l : List Value} (h : w.ownsRow B e size (.slice (some ⟨g, 0, none⟩) n cap) n l) (i : Nat) (u : Value) (hi : l[i]? = some u) : w.cell? ⟨g, i, none⟩ = some u := by
  rcases h.2 with ⟨e1, _⟩ | ⟨g', c', cur, e1, _, h2, _, _, _, h6⟩
  · cases e1
  · cases e1
    rw [cell_of_block h2, ← Array.getElem?_toList]
    rw [← h6, List.getElem?_take] at hi
    split at hi
    · exact hi
    · cases hi
set_option maxHeartbeats 3200000 in
set_option maxRecDepth 100000 in
theorem kept_ints (g c : Nat) (a : Option Addr) (cap : Nat) (l : List Int) (w : World) {B : Nat} (ho : w.ownsRow B IntT 1 (.slice (some ⟨g, 0, none⟩) (l.length + 1) c) (l.length + 1) (rc ienc (l ++ [-77]))) (hl : Lies w ienc a l) (hn : l.length ≤ 4611686018427387903) :
    Calls Tryd.prog 17 #[.slice (some ⟨g, 0, none⟩) l.length c, .slice a l.length cap] w fun e w' => e = .returned (.bool true) ∧ Below w.heap.size w w' := by
  have hS := same_ints ienc id (fun _ => rfl) (some ⟨g, 0, none⟩) a c cap l w (lent_ints ho rfl) hl (by omega)
  have hroom := own_room ho
  have hw1 : IntKind.i64.wrap ((l.length : Int) + 1) = (l.length : Int) + 1 := by rw [IntKind.wrap_i64]; omega
  have hw2 : (l.length : Int) + 1 ≤ (c : Int) := by omega
  have hw3 : (0 : Int) ≤ (l.length : Int) + 1 := by omega
  have hw4 : (0 : Int) ≤ (l.length : Int) := by omega
  have hw5 : (l.length : Int) < (l.length : Int) + 1 := by omega
  have hw6 : ((l.length : Int) + 1).toNat = l.length + 1 := by omega
  have HO := hide ho
  clear ho hl
  go_enter Tryd.func17, Tryd.ntmps17
  go_wp2_with fail
  refine hS.mono ?_
  rintro e w1 ⟨rfl, hb1⟩
  have c0 := own_cell (own_below HO.out hb1) l.length (.int .i64 (-77)) (by have := rc_at ienc_len (l ++ [(-77 : Int)]) l.length (by simp) 0 (by omega); rw [Nat.mul_one, Nat.add_zero] at this; rw [this]; simp [ienc])
  clear hS HO
  go_wp2
  go_ret
  exact ⟨rfl, hb1⟩
set_option maxHeartbeats 3200000 in
theorem check_ref (a : Option Addr) (cap : Nat) (ws : List Int) (w : World) (hl : Lies w ienc a ws) (hn : ws.length ≤ 9223372036854775807) :
    Calls Tryd.prog 16 #[.slice a ws.length cap] w fun e w' => e = .returned (.int .i64 (chk ws)) ∧ w' = w := by
  have hm := may_ref a cap ws w hl hn
  cases hB : mayB ws with
  | true =>
    have HC := hide (show chk ws = 0 by rw [chk, hB]; rfl)
    rw [hB] at hm
    go_enter Tryd.func16, Tryd.ntmps16
    go_wp2_with fail
    refine hm.mono ?_
    rintro e w1 ⟨rfl, hw1⟩
    obtain rfl := hw1.symm
    go_wp2
    go_ret
    exact ⟨by rw [HC.out]; rfl, rfl⟩
  | false =>
    have HC := hide (show chk ws = 1 by rw [chk, hB]; rfl)
    rw [hB] at hm
    go_enter Tryd.func16, Tryd.ntmps16
    go_wp2_with fail
    refine hm.mono ?_
    rintro e w1 ⟨rfl, hw1⟩
    obtain rfl := hw1.symm
    go_wp2
    go_ret
    exact ⟨by rw [HC.out]; rfl, rfl⟩

end Go.Proofs.YtdgfbkkjeogigaaDoor.Rf
