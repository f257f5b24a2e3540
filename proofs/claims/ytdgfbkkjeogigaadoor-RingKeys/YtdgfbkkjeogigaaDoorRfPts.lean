/- The document's answer for rings: Points. -/
import Derived.Test.YtdgfbkkjeogigaaDoorRfFind
import Derived.Test.YtdgfbkkjeogigaaDoorRgAdd
namespace Go.Proofs.YtdgfbkkjeogigaaDoor.Rf
open Go.RowKit Go.Joins Gk Rg

theorem rows_apart {W : World} {B B' e e' k k' n n' : Nat} {va vc : Value} {xs ys : List Value} (h : W.ownsRow B e k va n xs) (h' : W.ownsRow B' e' k' vc n' ys) (he : e ≠ e') {g : Nat} (hg : va.ownBlock = some g) (hc : vc.ownBlock = some g) : False := by
  rcases h.2 with ⟨e2, _⟩ | ⟨g', _, cur, e2, _, hh, _⟩
  · rw [e2] at hg; simp [Value.ownBlock] at hg
  · rw [e2] at hg; simp only [Value.ownBlock, Option.some.injEq] at hg
    subst hg
    exact own_ne h' hh he hc rfl
theorem rows_keep {W w2 : World} {B B' e e' k k' n n' : Nat} {va vc : Value} {xs ys : List Value} (h : W.ownsRow B e k va n xs) (h' : W.ownsRow B' e' k' vc n' ys) (he : e ≠ e') (hg : W.grownBy w2 va.ownBlock) : w2.ownsRow B' e' k' vc n' ys :=
  own_stay h' fun g hg' => hg.block g (h'.lt g hg').2 fun e => rows_apart h h' he e.symm hg'

set_option maxHeartbeats 3200000 in
theorem points_ref_no (a : Option Addr) (cap : Nat) (ws : List Int) (hM : ¬ May ws) (w : World) (hl : Lies w ienc a ws) (hn : ws.length ≤ 9223372036854775807) :
    Calls Tryd.prog 11 #[.slice a ws.length cap] w fun e w' => e = .returned (.tuple #[.slice none 0 0, .slice none 0 0, .int .i64 1]) ∧ w' = w := by
  have hm := may_ref a cap ws w hl hn
  rw [mayB_no hM] at hm
  go_enter Tryd.func11, Tryd.ntmps11
  go_wp2_with fail
  refine hm.mono ?_
  rintro e w1 ⟨rfl, hw1⟩
  obtain rfl := hw1.symm
  go_wp2
  exact bodyPost_ret (v := .tuple #[.slice none 0 0, .slice none 0 0, .int .i64 1]) (by simp [results, Tryd.results11, go_sem]) rfl ⟨rfl, rfl⟩

set_option maxHeartbeats 6400000 in
set_option maxRecDepth 100000 in
theorem points_ref (a : Option Addr) (cap : Nat) (ws : List Int) (hM : May ws) (w : World) (hl : Lies w ienc a ws) :
    Calls Tryd.prog 11 #[.slice a ws.length cap] w fun e w' => ∃ a1 c1 a2 c2 l, e = .returned (.tuple #[.slice a1 (List.length l) c1, .slice a2 (List.length l) c2, .int .i64 0]) ∧ Below w.heap.size w w' ∧ Hid (Row w' uenc U64T 1 (.slice a1 l.length c1) l ∧ Row w' cenc IntT 1 (.slice a2 l.length c2) l ∧ Srt ws l) := by
  have hm := may_ref a cap ws w hl (by have := hM.n2; omega)
  rw [mayB_iff.2 hM] at hm
  have hA := fun W (hb : Below w.heap.size w W) => all_ref a cap ws hM W (hl.below hb)
  have HL := hide (insAll_pos hM)
  have HS := hide (insAll_srt ws)
  generalize insAll (pts ws) = l at hA HL HS
  go_enter Tryd.func11, Tryd.ntmps11
  go_wp2_with fail
  refine hm.mono ?_
  rintro e w1 ⟨rfl, hw1⟩
  obtain rfl := hw1.symm
  go_wp2_with fail
  refine (hA w (Below.refl _ _)).mono ?_
  rintro e w2 ⟨v, rfl, hown, hb2⟩
  obtain ⟨a2, c2, rfl⟩ := own_slice hown
  have hr : Row w2 penc2 PoT 2 (.slice a2 l.length c2) l := own_mono hown (Nat.zero_le _)
  clear hown
  go_wp2
  go_loopw [5, 6, 8] (fun va vc iv wr => ∃ (k : Nat) (L : List Pt), k ≤ l.length ∧ iv = .int .i64 k ∧ (∃ n1, n1 = L.length ∧ wr.ownsRow w2.heap.size U64T 1 va n1 (rc uenc L) ∧ wr.ownsRow w2.heap.size IntT 1 vc n1 (rc cenc L)) ∧ Below w2.heap.size w2 wr ∧ Hid (L = l.take k)) (fun _ _ iv _ => l.length + 1 - (intOf iv).toNat)
  case atStart => exact ⟨0, [], Nat.zero_le _, rfl, ⟨0, rfl, World.ownsRow_nil _ _ _ _, World.ownsRow_nil _ _ _ _⟩, Below.refl _ _, rfl⟩
  case round =>
    obtain ⟨k, L, hk, rfl, ⟨n1, rfl, hou, hoc⟩, hb, HT⟩ := hrel
    obtain ⟨au, cu, rfl⟩ := own_slice hou
    obtain ⟨ac, cc, rfl⟩ := own_slice hoc
    have HU := hide hou
    have HC := hide hoc
    clear hou hoc
    by_cases hkl : k < l.length
    · have j1 : (k : Int) < (l.length : Int) := by omega
      obtain ⟨g, cap', e0, hgk, hck⟩ := (hr.below hb).at penc2_len k hkl
      cases e0
      have d0 := hck 0 _ rfl
      have d1 := hck 1 _ rfl
      rw [Nat.add_zero] at d0
      clear hck
      have HTS := hide (show L ++ [l[k]] = l.take (k + 1) by rw [HT.out, List.take_succ_eq_append_getElem hkl])
      have hLm : L.length ≤ 1024 := by have := HL.out.2; rw [HT.out, List.length_take]; omega
      generalize l[k] = x at d0 d1 HTS
      obtain ⟨L', HL'⟩ : ∃ L', Hid (L' = L ++ [x]) := ⟨_, hide rfl⟩
      rw [← HL'.out] at HTS
      have hgl : g < w2.heap.size := (hr.celled penc2_len k hkl).1
      go_wp2_with (first | (at_builtin; refine wpList_push (enc := uenc) (k := 1) rfl (.tmp 20) (.tmp 26) 24 rfl U64T (.int .u64 0) 8 Tryd.underlying24 u64_info rfl (by decide) uenc_len uenc_one w2.heap.size _ L rfl (own_below HU.out (below_alloc1 wr _)) wr.heap.size x rfl (heap_alloc_new wr _) (by omega) (by omega) (Nat.le_trans hb.size (by simp)) ?_; intro v5 w5 hown5 hg5 hat5; have B5 := (hb.alloc hb.size _).grown hg5 (Nat.le_trans hb.size (by simp)) (fun g e => own_base HU.out e); have HC5 := hide (rows_keep (own_below HU.out (below_alloc1 wr _)) (own_below HC.out (below_alloc1 wr _)) (by decide) hg5); rw [← HL'.out] at hown5; obtain ⟨a5, c5, rfl⟩ := own_slice hown5; have H5 := hide hown5; have d1' := (B5.cell (p := ⟨g, k * 2 + 1, none⟩) hgl).trans ((hb.cell (p := ⟨g, k * 2 + 1, none⟩) hgl).symm.trans d1); clear hown5 hg5 hat5 HU d0 d1) | (at_builtin; refine wpList_push (enc := cenc) (k := 1) rfl (.tmp 28) (.tmp 34) 22 rfl IntT (.int .i64 0) 8 Tryd.underlying22 int_info rfl (by decide) cenc_len cenc_one w2.heap.size _ L rfl (own_below HC5.out (below_alloc1 w5 _)) w5.heap.size x rfl (heap_alloc_new w5 _) (by omega) (by omega) (Nat.le_trans B5.size (by simp)) ?_; intro v6 w6 hown6 hg6 hat6; have B6 := (B5.alloc B5.size _).grown hg6 (Nat.le_trans B5.size (by simp)) (fun g e => own_base HC5.out e); have H56 := hide (rows_keep (own_below HC5.out (below_alloc1 w5 _)) (own_below H5.out (below_alloc1 w5 _)) (by decide) hg6); rw [← HL'.out] at hown6; obtain ⟨a6, c6, rfl⟩ := own_slice hown6; have H6 := hide hown6; clear hown6 hg6 hat6 HC5) | fail)
      exact ⟨⟨k + 1, L', hkl, step_v k l.length hkl HL.out.2, ⟨_, rfl, H56.out, H6.out⟩, B6, HTS⟩, step_m k l.length hkl HL.out.2⟩
    · have j1 : ¬ (k : Int) < (l.length : Int) := by omega
      have HLe := hide (show L = l by rw [HT.out, List.take_of_length_le (by omega)])
      clear hkl
      go_wp2
      refine bodyPost_ret (v := .tuple #[.slice au L.length cu, .slice ac L.length cc, .int .i64 0]) (by simp [results, Tryd.results11, go_sem]) rfl ⟨au, cu, ac, cc, L, rfl, hb2.trans (hb.mono hb2.size), hide ⟨own_mono HU.out (Nat.zero_le _), own_mono HC.out (Nat.zero_le _), ?_⟩⟩
      rw [HLe.out]; exact HS.out

end Go.Proofs.YtdgfbkkjeogigaaDoor.Rf
