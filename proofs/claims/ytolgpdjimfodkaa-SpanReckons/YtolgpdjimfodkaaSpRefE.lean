/- Walks over the document's answer: ends. -/
import Derived.Test.YtolgpdjimfodkaaSpSrt
import Derived.Test.YtolgpdjimfodkaaGApp
namespace Go.Proofs.Ytolgpdjimfodkaa.Sp
open Go.RowKit Go.Joins Gk

def endsT1 (s : Sp) : List ByteArray := if s.to = nix then [s.fr] else [s.fr, s.to]
def endsT (l : List Sp) : List ByteArray := l.flatMap endsT1
theorem endsT_snoc (l : List Sp) (s : Sp) : endsT (l ++ [s]) = endsT l ++ endsT1 s := by simp [endsT]
theorem endsT_len (l : List Sp) : (endsT l).length ≤ 2 * l.length := by
  induction l with
  | nil => simp [endsT]
  | cons s r ih =>
    have : (endsT1 s).length ≤ 2 := by unfold endsT1; split <;> simp
    have e : endsT (s :: r) = endsT1 s ++ endsT r := by simp [endsT]
    rw [e, List.length_append, List.length_cons]; omega
theorem pair_1 {w : World} {b : Nat} {u v : Value} {T : TypeId} (h : w.heap[b]? = some (.cells #[u, v] T (0, 0))) : w.cell? ⟨b, 1, none⟩ = some v := by rw [cell_of_block h]; rfl
theorem has_of_srt {l : List Sp} {r : List ByteArray} (h : SrtL (endsT l) r) {a : List Sp} (ha : ∀ s ∈ a, s ∈ l) : Has r a := by
  intro s hs
  have hm := fun t (ht : t ∈ endsT1 s) => (h.mem t).2 (List.mem_flatMap.2 ⟨s, ha s hs, ht⟩)
  refine ⟨hm _ ?_, fun hn => hm _ ?_⟩
  · unfold endsT1; split <;> simp
  · rw [endsT1, if_neg hn]; simp

set_option maxHeartbeats 6400000 in
set_option maxRecDepth 100000 in
theorem rEnds_any (a b : Option Addr) (ca cb : Nat) (la lb : List Sp) (w : World) (hla : Lies w senc a la) (hlb : Lies w senc b lb) (hn : la.length + lb.length ≤ 200000) :
    Calls Try.prog 39 #[.slice a la.length ca, .slice b lb.length cb] w fun e w' => ∃ a' c' r, e = .returned (.slice a' r.length c') ∧ TL w' a' c' r ∧ SrtL (endsT (la ++ lb)) r ∧ Below w.heap.size w w' := by
  have hSo := fun a c l W h1 h2 => sorted_any (l.length) a c l W (Nat.le_refl _) h1 h2
  go_enter Try.func39, Try.ntmps39
  go_wp2
  go_loopw [5, 6] (fun v iv wr => ∃ (k : Nat), k ≤ la.length + lb.length ∧ iv = .int .i64 k ∧ (∃ n1, n1 = (endsT ((la ++ lb).take k)).length ∧ wr.ownsRow w.heap.size StrT 1 v n1 (rc tenc (endsT ((la ++ lb).take k)))) ∧ Below w.heap.size w wr) (fun _ iv _ => la.length + lb.length - (intOf iv).toNat)
  case atStart => exact ⟨0, Nat.zero_le _, rfl, ⟨0, rfl, World.ownsRow_nil _ _ _ _⟩, Below.refl _ _⟩
  case round =>
    obtain ⟨k, hk, rfl, ⟨n1, hn1, ho⟩, hb⟩ := hrel
    have hs1 : IntKind.i64.wrap ((la.length : Int) + (lb.length : Int)) = (la.length : Int) + (lb.length : Int) := by rw [IntKind.wrap_i64]; omega
    have hol := endsT_len ((la ++ lb).take k)
    have hkl : ((la ++ lb).take k).length ≤ k := List.length_take_le _ _
    by_cases hlt : k < la.length + lb.length
    · have hlt' : k < (la ++ lb).length := by rw [List.length_append]; exact hlt
      have j1 : (k : Int) < (la.length : Int) + (lb.length : Int) := by omega
      have HT := hide (show endsT ((la ++ lb).take (k + 1)) = endsT ((la ++ lb).take k) ++ endsT1 (la ++ lb)[k] by rw [List.take_succ_eq_append_getElem hlt', endsT_snoc])
      obtain ⟨o, hoe⟩ : ∃ o, endsT ((la ++ lb).take k) = o := ⟨_, rfl⟩
      rw [hoe] at HT hn1 ho hol
      subst hn1
      obtain ⟨av, cv, rfl⟩ := own_slice ho
      have HO := hide ho
      have j0 : (0 : Int) ≤ (k : Int) := by omega
      clear ho hoe
      by_cases hfst : k < la.length
      · have hE : (la ++ lb)[k] = la[k] := List.getElem_append_left hfst
        rw [hE] at HT
        obtain ⟨b1, off, rfl, hbl, hc⟩ := (hla.below hb).at (k := 2) senc_len k hfst
        have c0 := hc 0 _ rfl
        have c1 := hc 1 _ rfl
        rw [Nat.add_zero] at c0
        have j2 : (k : Int) < (la.length : Int) := by omega
        obtain ⟨s, hs⟩ : ∃ s, la[k] = s := ⟨_, rfl⟩
        rw [hs] at c0 c1 HT
        clear hc hs hE
        have A0 := heap_alloc_new wr (.cells #[.string s.fr, .string s.to] 35)
        have hb1 := below_alloc1 wr (.cells #[.string s.fr, .string s.to] 35)
        by_cases hnix : s.to = nix
        · have g1 : s.to.toList.isEmpty = true := by rw [empty_nix]; simpa using hnix
          have HE : Hid (endsT1 s = [s.fr]) := by show _ = _; rw [endsT1, if_pos hnix]
          clear hnix
          go_wp2_with (at_builtin; obtain ⟨W1, hW1⟩ : ∃ W1, wr.alloc (.cells #[.string s.fr, .string s.to] 35) = W1 := ⟨_, rfl⟩; have hz1 : wr.heap.size + 1 = W1.heap.size := (by rw [← hW1]; simp); rw [hW1] at A0 hb1 ⊢; rw [hz1]; have HO1 := hide (own_below HO.out hb1); have hB1 := hb.trans (hb1.mono hb.size); clear hW1; refine wpList_push (enc := tenc) (k := 1) rfl (.tmp 33) (.tmp 36) 50 rfl StrT (.string ⟨#[]⟩) 16 Try.underlying50 str_info rfl (by decide) tenc_len tenc_one w.heap.size _ o rfl (own_below HO1.out (below_alloc1 W1 _)) W1.heap.size s.fr rfl (heap_alloc_new W1 _) (by omega) (by omega) (by have := hB1.size; simp; omega) ?_; intro v4 w4 ho4 hg4 hat4; obtain ⟨a4, d4, rfl⟩ := own_slice ho4; have hbx := (hg4.block wr.heap.size (by simp; omega) (fun e => own_ne HO1.out A0 (by decide) e.symm rfl)).trans (((below_alloc1 W1 _).block wr.heap.size (by omega)).trans A0); have x1 := pair_1 hbx; have HO4 := hide ho4; have hB4 := (hB1.alloc hB1.size _).grown hg4 (by have := hB1.size; simp; omega) (fun k hk => (HO1.out.lt k hk).1); simp only [List.length_append, List.length_cons, List.length_nil, Nat.zero_add] at HO4; clear ho4 hg4 hat4 HO HO1 A0 hb1 hB1 hz1 hbx)
          go_roundw
          case rel => exact ⟨k + 1, by omega, by go_num, ⟨o.length + 1, by rw [HT.out, HE.out, List.length_append]; rfl, by rw [HT.out, HE.out]; exact HO4.out⟩, hB4⟩
          case measure => simp [intOf]; omega
        · have g1 : s.to.toList.isEmpty = false := by rw [empty_nix]; simpa using hnix
          have HE : Hid (endsT1 s = [s.fr, s.to]) := by show _ = _; rw [endsT1, if_neg hnix]
          clear hnix
          go_wp2_with (first | (at_builtin; obtain ⟨W1, hW1⟩ : ∃ W1, wr.alloc (.cells #[.string s.fr, .string s.to] 35) = W1 := ⟨_, rfl⟩; have hz1 : wr.heap.size + 1 = W1.heap.size := (by rw [← hW1]; simp); rw [hW1] at A0 hb1 ⊢; rw [hz1]; have HO1 := hide (own_below HO.out hb1); have hB1 := hb.trans (hb1.mono hb.size); clear hW1; refine wpList_push (enc := tenc) (k := 1) rfl (.tmp 33) (.tmp 36) 50 rfl StrT (.string ⟨#[]⟩) 16 Try.underlying50 str_info rfl (by decide) tenc_len tenc_one w.heap.size _ o rfl (own_below HO1.out (below_alloc1 W1 _)) W1.heap.size s.fr rfl (heap_alloc_new W1 _) (by omega) (by omega) (by have := hB1.size; simp; omega) ?_; intro v4 w4 ho4 hg4 hat4; obtain ⟨a4, d4, rfl⟩ := own_slice ho4; have hbx := (hg4.block wr.heap.size (by simp; omega) (fun e => own_ne HO1.out A0 (by decide) e.symm rfl)).trans (((below_alloc1 W1 _).block wr.heap.size (by omega)).trans A0); have x1 := pair_1 hbx; have HO4 := hide ho4; have hB4 := (hB1.alloc hB1.size _).grown hg4 (by have := hB1.size; simp; omega) (fun k hk => (HO1.out.lt k hk).1); simp only [List.length_append, List.length_cons, List.length_nil, Nat.zero_add] at HO4; clear ho4 hg4 hat4 HO HO1 A0 hb1 hB1 hz1 hbx) | (at_builtin; refine wpList_push (enc := tenc) (k := 1) rfl (.tmp 41) (.tmp 44) 50 rfl StrT (.string ⟨#[]⟩) 16 Try.underlying50 str_info rfl (by decide) tenc_len tenc_one w.heap.size _ (o ++ [s.fr]) rfl (by rw [List.length_append]; exact own_below HO4.out (below_alloc1 w4 _)) w4.heap.size s.to rfl (heap_alloc_new w4 _) (by simp; omega) (by simp; omega) (by have := hB4.size; simp; omega) ?_; intro v5 w5 ho5 hg5 hat5; obtain ⟨a5, d5, rfl⟩ := own_slice ho5; have HO5 := hide ho5; have hB5 := (hB4.alloc hB4.size _).grown hg5 (by have := hB4.size; simp; omega) (fun k hk => (HO4.out.lt k hk).1); simp only [List.length_append, List.length_cons, List.length_nil, Nat.zero_add] at HO5; clear ho5 hg5 hat5))
          go_roundw
          case rel => exact ⟨k + 1, by omega, by go_num, ⟨o.length + 1 + 1, by rw [HT.out, HE.out, List.length_append]; rfl, by rw [HT.out, HE.out, show o ++ [s.fr, s.to] = o ++ [s.fr] ++ [s.to] by simp]; exact HO5.out⟩, hB5⟩
          case measure => simp [intOf]; omega
      · obtain ⟨j, rfl⟩ : ∃ j, k = la.length + j := ⟨k - la.length, by omega⟩
        have hjl : j < lb.length := by omega
        have hE : (la ++ lb)[la.length + j] = lb[j] := by rw [List.getElem_append_right (by omega)]; simp
        rw [hE] at HT
        obtain ⟨b1, off, rfl, hbl, hc⟩ := (hlb.below hb).at (k := 2) senc_len j hjl
        have c0 := hc 0 _ rfl
        have c1 := hc 1 _ rfl
        rw [Nat.add_zero] at c0
        have j2 : ¬ (la.length : Int) + (j : Int) < (la.length : Int) := by omega
        have j3 : IntKind.i64.wrap ((la.length : Int) + (j : Int) - (la.length : Int)) = (j : Int) := by rw [IntKind.wrap_i64]; omega
        have j4 : (0 : Int) ≤ (j : Int) := by omega
        have j5 : (j : Int) < (lb.length : Int) := by omega
        have j6 : (la.length : Int) + (j : Int) < (la.length : Int) + (lb.length : Int) := by omega
        obtain ⟨s, hs⟩ : ∃ s, lb[j] = s := ⟨_, rfl⟩
        rw [hs] at c0 c1 HT
        clear hc hs hE
        have A0 := heap_alloc_new wr (.cells #[.string s.fr, .string s.to] 35)
        have hb1 := below_alloc1 wr (.cells #[.string s.fr, .string s.to] 35)
        by_cases hnix : s.to = nix
        · have g1 : s.to.toList.isEmpty = true := by rw [empty_nix]; simpa using hnix
          have HE : Hid (endsT1 s = [s.fr]) := by show _ = _; rw [endsT1, if_pos hnix]
          clear hnix
          go_wp2_with (at_builtin; obtain ⟨W1, hW1⟩ : ∃ W1, wr.alloc (.cells #[.string s.fr, .string s.to] 35) = W1 := ⟨_, rfl⟩; have hz1 : wr.heap.size + 1 = W1.heap.size := (by rw [← hW1]; simp); rw [hW1] at A0 hb1 ⊢; rw [hz1]; have HO1 := hide (own_below HO.out hb1); have hB1 := hb.trans (hb1.mono hb.size); clear hW1; refine wpList_push (enc := tenc) (k := 1) rfl (.tmp 33) (.tmp 36) 50 rfl StrT (.string ⟨#[]⟩) 16 Try.underlying50 str_info rfl (by decide) tenc_len tenc_one w.heap.size _ o rfl (own_below HO1.out (below_alloc1 W1 _)) W1.heap.size s.fr rfl (heap_alloc_new W1 _) (by omega) (by omega) (by have := hB1.size; simp; omega) ?_; intro v4 w4 ho4 hg4 hat4; obtain ⟨a4, d4, rfl⟩ := own_slice ho4; have hbx := (hg4.block wr.heap.size (by simp; omega) (fun e => own_ne HO1.out A0 (by decide) e.symm rfl)).trans (((below_alloc1 W1 _).block wr.heap.size (by omega)).trans A0); have x1 := pair_1 hbx; have HO4 := hide ho4; have hB4 := (hB1.alloc hB1.size _).grown hg4 (by have := hB1.size; simp; omega) (fun k hk => (HO1.out.lt k hk).1); simp only [List.length_append, List.length_cons, List.length_nil, Nat.zero_add] at HO4; clear ho4 hg4 hat4 HO HO1 A0 hb1 hB1 hz1 hbx)
          go_roundw
          case rel => exact ⟨la.length + j + 1, by omega, by go_num, ⟨o.length + 1, by rw [HT.out, HE.out, List.length_append]; rfl, by rw [HT.out, HE.out]; exact HO4.out⟩, hB4⟩
          case measure => simp [intOf]; omega
        · have g1 : s.to.toList.isEmpty = false := by rw [empty_nix]; simpa using hnix
          have HE : Hid (endsT1 s = [s.fr, s.to]) := by show _ = _; rw [endsT1, if_neg hnix]
          clear hnix
          go_wp2_with (first | (at_builtin; obtain ⟨W1, hW1⟩ : ∃ W1, wr.alloc (.cells #[.string s.fr, .string s.to] 35) = W1 := ⟨_, rfl⟩; have hz1 : wr.heap.size + 1 = W1.heap.size := (by rw [← hW1]; simp); rw [hW1] at A0 hb1 ⊢; rw [hz1]; have HO1 := hide (own_below HO.out hb1); have hB1 := hb.trans (hb1.mono hb.size); clear hW1; refine wpList_push (enc := tenc) (k := 1) rfl (.tmp 33) (.tmp 36) 50 rfl StrT (.string ⟨#[]⟩) 16 Try.underlying50 str_info rfl (by decide) tenc_len tenc_one w.heap.size _ o rfl (own_below HO1.out (below_alloc1 W1 _)) W1.heap.size s.fr rfl (heap_alloc_new W1 _) (by omega) (by omega) (by have := hB1.size; simp; omega) ?_; intro v4 w4 ho4 hg4 hat4; obtain ⟨a4, d4, rfl⟩ := own_slice ho4; have hbx := (hg4.block wr.heap.size (by simp; omega) (fun e => own_ne HO1.out A0 (by decide) e.symm rfl)).trans (((below_alloc1 W1 _).block wr.heap.size (by omega)).trans A0); have x1 := pair_1 hbx; have HO4 := hide ho4; have hB4 := (hB1.alloc hB1.size _).grown hg4 (by have := hB1.size; simp; omega) (fun k hk => (HO1.out.lt k hk).1); simp only [List.length_append, List.length_cons, List.length_nil, Nat.zero_add] at HO4; clear ho4 hg4 hat4 HO HO1 A0 hb1 hB1 hz1 hbx) | (at_builtin; refine wpList_push (enc := tenc) (k := 1) rfl (.tmp 41) (.tmp 44) 50 rfl StrT (.string ⟨#[]⟩) 16 Try.underlying50 str_info rfl (by decide) tenc_len tenc_one w.heap.size _ (o ++ [s.fr]) rfl (by rw [List.length_append]; exact own_below HO4.out (below_alloc1 w4 _)) w4.heap.size s.to rfl (heap_alloc_new w4 _) (by simp; omega) (by simp; omega) (by have := hB4.size; simp; omega) ?_; intro v5 w5 ho5 hg5 hat5; obtain ⟨a5, d5, rfl⟩ := own_slice ho5; have HO5 := hide ho5; have hB5 := (hB4.alloc hB4.size _).grown hg5 (by have := hB4.size; simp; omega) (fun k hk => (HO4.out.lt k hk).1); simp only [List.length_append, List.length_cons, List.length_nil, Nat.zero_add] at HO5; clear ho5 hg5 hat5))
          go_roundw
          case rel => exact ⟨la.length + j + 1, by omega, by go_num, ⟨o.length + 1 + 1, by rw [HT.out, HE.out, List.length_append]; rfl, by rw [HT.out, HE.out, show o ++ [s.fr, s.to] = o ++ [s.fr] ++ [s.to] by simp]; exact HO5.out⟩, hB5⟩
          case measure => simp [intOf]; omega
    · obtain rfl : k = la.length + lb.length := by omega
      have j1 : ¬ (la.length : Int) + (lb.length : Int) < (la.length : Int) + (lb.length : Int) := by omega
      rw [List.take_of_length_le (by rw [List.length_append]; omega)] at hn1 ho hol
      subst hn1
      obtain ⟨av, cv, rfl⟩ := own_slice ho
      have hrow := own_mono ho (Nat.zero_le _)
      have hsl := own_room hrow
      rw [List.length_append] at hol
      have hS := hSo av cv (endsT (la ++ lb)) wr ⟨Row.lies hrow, hsl.1, hsl.2⟩ (by omega)
      go_wp2_with (go_at_call 47; refine hS.mono ?_; rintro e w3 ⟨a3, c3, r3, rfl, hT3, hS3, hb3⟩)
      go_ret
      exact ⟨a3, c3, r3, rfl, hT3, hS3, hb.trans (hb3.mono hb.size)⟩

end Go.Proofs.Ytolgpdjimfodkaa.Sp
