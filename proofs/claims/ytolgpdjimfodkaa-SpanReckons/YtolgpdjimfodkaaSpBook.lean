/- Walks over the book: LendSpans, KeptSpans, SpoilSpans. -/
import Derived.Test.YtolgpdjimfodkaaSpRefO
namespace Go.Proofs.Ytolgpdjimfodkaa.Sp
open Go.RowKit Go.Joins Gk

def markT : ByteArray := ⟨#[109, 97, 114, 107]⟩
theorem own_made (w : World) : (w.alloc (.cells #[] SpT)).ownsRow w.heap.size SpT 2 (.slice (some ⟨w.heap.size, 0, none⟩) 0 0) 0 (rc senc []) :=
  ⟨rfl, .inr ⟨w.heap.size, 0, #[], rfl, Nat.le_refl _, heap_alloc_new w _, Nat.le_refl _, by unfold maxLen; omega, rfl, rfl⟩⟩

set_option maxHeartbeats 3200000 in
set_option maxRecDepth 100000 in
theorem lend_any (a : Option Addr) (cap : Nat) (l : List Sp) (w : World) (hl : Lies w senc a l) (hnil : a = none → cap = 0) (hn : l.length * 32 ≤ 140737488351232) :
    Calls Try.prog 9 #[.slice a l.length cap] w fun e w' => ∃ g c, e = .returned (.slice (some ⟨g, 0, none⟩) l.length c) ∧ w'.ownsRow w.heap.size SpT 2 (.slice (some ⟨g, 0, none⟩) (l.length + 1) c) (l.length + 1) (rc senc (l ++ [⟨markT, nix⟩])) ∧ Below w.heap.size w w' := by
  have hb0 := below_alloc1 w (.cells #[] SpT)
  go_enter Try.func9, Try.ntmps9
  go_wp2_with (first
    | (at_builtin; refine wpList_append_row (enc := senc) (k := 2) rfl (.tmp 4) (.tmp 5) 22 rfl SpT (.agg #[.string ⟨#[]⟩, .string ⟨#[]⟩]) 32 Try.underlying22 sp_info rfl (by decide) senc_len senc_one w.heap.size _ [] rfl (own_made w) a l l.length cap rfl rfl (hl.below hb0) hnil (by simp; omega) (by simp; omega) (by simp) ?_; intro v2 w2 ho2 hg2 hat2; obtain ⟨a2, d2, rfl⟩ := own_slice ho2; have HO2 := hide ho2; have hB2 := hide ((hb0).grown hg2 (by simp) (fun k hk => by cases hk; exact Nat.le_refl _)); simp only [List.nil_append] at HO2; clear ho2 hg2 hat2)
    | (at_builtin; have hz := hB2.out.size; refine wpList_push (enc := senc) (k := 2) rfl (.tmp 7) (.tmp 9) 22 rfl SpT (.agg #[.string ⟨#[]⟩, .string ⟨#[]⟩]) 32 Try.underlying22 sp_info rfl (by decide) senc_len senc_one w.heap.size _ l rfl (own_below HO2.out (below_alloc1 w2 _)) w2.heap.size ⟨markT, nix⟩ rfl (heap_alloc_new w2 _) (by omega) (by omega) (by simp; omega) ?_; intro v3 w3 ho3 hg3 hat3; obtain ⟨g3, d3, cur3, ev3, -, h31, -, -, -⟩ := own_form ho3 (by simp); subst ev3; have HO3 := hide ho3; have hB3 := hide ((hB2.out.alloc hz _).grown hg3 (by simp; omega) (fun k hk => (HO2.out.lt k hk).1)); simp only [List.length_append, List.length_cons, List.length_nil, Nat.zero_add] at HO3 h31; have h32 : (l.length : Int) ≤ (d3 : Int) := (by omega); have h33 : (0 : Int) ≤ (l.length : Int) := (by omega); clear ho3 hg3 hat3))
  go_ret
  exact ⟨g3, d3, rfl, HO3.out, hB3.out⟩

theorem lent_lies {w : World} {B g n c : Nat} {l : List Sp} {m : Sp} (h : w.ownsRow B SpT 2 (.slice (some ⟨g, 0, none⟩) n c) n (rc senc (l ++ [m]))) (hn : n = l.length + 1) : Lies w senc (some ⟨g, 0, none⟩) l := by
  have h1 : Lies w senc (some ⟨g, 0, none⟩) (l ++ [m]) := by
    have : Row w senc SpT 2 (.slice (some ⟨g, 0, none⟩) n c) (l ++ [m]) := by
      show w.ownsRow 0 SpT 2 _ (l ++ [m]).length _
      rw [List.length_append, show l.length + [m].length = n by simp [hn]]
      exact own_mono h (Nat.zero_le _)
    exact this.lies
  rcases h1 with h1 | ⟨b', off', e, hlt, hl⟩
  · simp at h1
  · cases e
    exact Or.inr ⟨g, 0, rfl, hlt, fun j u hj => hl j u (by rw [rc_append, List.getElem?_append_left (List.getElem?_eq_some_iff.1 hj).1]; exact hj)⟩

set_option maxHeartbeats 3200000 in
set_option maxRecDepth 100000 in
theorem kept_spans (g c : Nat) (a : Option Addr) (cap : Nat) (l : List Sp) (w : World) {B : Nat} (ho : w.ownsRow B SpT 2 (.slice (some ⟨g, 0, none⟩) (l.length + 1) c) (l.length + 1) (rc senc (l ++ [⟨markT, nix⟩]))) (hl : Lies w senc a l) (hn : l.length ≤ 4611686018427387903) :
    Calls Try.prog 18 #[.slice (some ⟨g, 0, none⟩) l.length c, .slice a l.length cap] w fun e w' => e = .returned (.bool true) ∧ Below w.heap.size w w' := by
  have hS := same_any (some ⟨g, 0, none⟩) a c cap l w (lent_lies ho rfl) hl (by omega)
  have hroom := own_room ho
  have hw1 : IntKind.i64.wrap ((l.length : Int) + 1) = (l.length : Int) + 1 := by rw [IntKind.wrap_i64]; omega
  have hw2 : (l.length : Int) + 1 ≤ (c : Int) := by omega
  have hw3 : (0 : Int) ≤ (l.length : Int) + 1 := by omega
  have hw4 : (0 : Int) ≤ (l.length : Int) := by omega
  have hw5 : (l.length : Int) < (l.length : Int) + 1 := by omega
  have hw6 : ((l.length : Int) + 1).toNat = l.length + 1 := by omega
  have HO := hide ho
  clear ho hl
  go_enter Try.func18, Try.ntmps18
  go_wp2_with fail
  refine hS.mono ?_
  rintro e w1 ⟨rfl, hb1⟩
  have c0 := own_cell (own_below HO.out hb1) (l.length * 2) (.string markT) (by have := rc_at senc_len (l ++ [(⟨markT, nix⟩ : Sp)]) l.length (by simp) 0 (by omega); rw [Nat.add_zero] at this; rw [this]; simp [senc])
  unfold markT at c0
  clear hS HO
  go_wp2
  go_ret
  exact ⟨rfl, hb1⟩

set_option maxHeartbeats 3200000 in
set_option maxRecDepth 100000 in
theorem spoil_any (v : Value) (n : Nat) (xs : List Value) (w : World) {B : Nat} (ho : w.ownsRow B SpT 2 v n xs) :
    Calls Try.prog 17 #[v] w fun e w' => e = .returned (.tuple #[]) ∧ Below B w w' := by
  rcases ho.2 with ⟨rfl, rfl⟩ | ⟨g, cap, cur, rfl, hg, hblk, hle, hmax, hsz, -⟩
  · go_enter Try.func17, Try.ntmps17
    go_wp2
    go_loopw [2] (fun i wr => i = .int .i64 0 ∧ wr = w) (fun _ _ => 0)
    case atStart => exact ⟨rfl, rfl⟩
    case round =>
      obtain ⟨rfl, rfl⟩ := hrel
      go_wp2
      go_end0
      exact ⟨rfl, Below.refl _ _⟩
  · have hmax' : cap ≤ 9223372036854775807 := by unfold maxLen at hmax; omega
    have c1 : (0 : Int) ≤ (cap : Int) := by omega
    clear ho
    go_enter Try.func17, Try.ntmps17
    go_wp2
    go_loopw [2] (fun i wr => ∃ (k : Nat) (cs : Array Value), k ≤ cap ∧ i = .int .i64 k ∧ Hid (wr.heap[g]? = some (.cells cs SpT (0, 0)) ∧ cs.size = cap * 2) ∧ Below B w wr) (fun i _ => cap - (intOf i).toNat)
    case atStart => exact ⟨0, cur, Nat.zero_le _, rfl, ⟨hblk, hsz⟩, Below.refl _ _⟩
    case round =>
      clear hblk hsz
      obtain ⟨k, cs, hk, rfl, HC, hb⟩ := hrel
      by_cases hlt : k < cap
      · obtain ⟨h1, h2⟩ := HC.out
        obtain ⟨u0, e0⟩ : ∃ u, cs[k * 2]? = some u := ⟨_, Array.getElem?_eq_getElem (by omega)⟩
        obtain ⟨u1, e1⟩ : ∃ u, cs[k * 2 + 1]? = some u := ⟨_, Array.getElem?_eq_getElem (by omega)⟩
        have d0 : wr.cell? ⟨g, k * 2, none⟩ = some u0 := by rw [cell_of_block h1]; exact e0
        have d1 : wr.cell? ⟨g, k * 2 + 1, none⟩ = some u1 := by rw [cell_of_block h1]; exact e1
        have f0 := unfrozen_of_block h1 (k * 2)
        have f1 := unfrozen_of_block h1 (k * 2 + 1)
        have i1 : (0 : Int) ≤ (k : Int) := by omega
        have i2 : (k : Int) < (cap : Int) := by omega
        have HN := hide (show (((wr.setCell ⟨g, k * 2, none⟩ (.string ⟨#[115, 112, 111, 105, 108, 116]⟩)).setCell ⟨g, k * 2 + 1, none⟩ (.string ⟨#[]⟩)).heap[g]? = some (.cells ((cs.setIfInBounds (k * 2) (.string ⟨#[115, 112, 111, 105, 108, 116]⟩)).setIfInBounds (k * 2 + 1) (.string ⟨#[]⟩)) SpT (0, 0))) ∧ ((cs.setIfInBounds (k * 2) (.string ⟨#[115, 112, 111, 105, 108, 116]⟩)).setIfInBounds (k * 2 + 1) (.string ⟨#[]⟩)).size = cap * 2 from ⟨block_setCell (block_setCell h1 _) _, by simp [h2]⟩)
        clear h1 h2 e0 e1
        go_wp2
        go_roundw
        case rel => exact ⟨k + 1, _, by omega, by go_num, HN, (hb.setCell (p := ⟨g, k * 2, none⟩) hg _).setCell (p := ⟨g, k * 2 + 1, none⟩) hg _⟩
        case measure => simp [intOf]; omega
      · go_wp2
        go_end0
        exact ⟨rfl, hb⟩

end Go.Proofs.Ytolgpdjimfodkaa.Sp
