/- Layer 9, the document's answer: Drop, Fork. -/
import Derived.Test.YthdempdiibjabaaTrRows
namespace Go.Proofs.Ythdempdiibjabaa.Tr
open Go.RowKit Go.Joins Go.Proofs.Ythdempdiibjabaa.Gk Go.Proofs.Ythdempdiibjabaa.Oq Go.Proofs.Ythdempdiibjabaa.Sp Go.Proofs.Ythdempdiibjabaa.Tb

theorem filt_len (p : Rw → Bool) : ∀ l : List Rw, (l.filter p).length + (l.filter fun r => !p r).length = l.length
  | [] => rfl
  | x :: r => by
    have ih := filt_len p r
    cases h : p x <;> simp [h] <;> omega

set_option maxRecDepth 100000 in
set_option maxHeartbeats 1600000 in
theorem Drop_ref (br : Nat) (l : List Rw) (s : Sp.Sp) (w : World) (hR : RH w br l) :
    Calls Try.prog 36 #[ptr br, spv s] w fun e w' => e = .returned (.int .i64 ((l.filter fun r => s.has r.key).length : Nat)) ∧ RH w' br (l.filter fun r => !s.has r.key) ∧ Turn br w w' := by
  obtain ⟨hok, a, cap, hg, hl⟩ := id hR
  have hlen := hok.len
  have hlt := hR.lt
  obtain ⟨fr, to⟩ := s
  have hb0 := below_a1 w (.cells #[.string fr, .string to] SpT)
  have hs0 := heap_alloc_new w (.cells #[.string fr, .string to] SpT)
  go_enter Try.func36, Try.ntmps36
  go_wp2
  go_loopw [5, 6] (fun v i wr => ∃ (k : Nat) (G : List Rw), k ≤ l.length ∧ i = .int .i64 k ∧ Hid (G = (l.take k).filter fun r => !Sp.Sp.has ⟨fr, to⟩ r.key) ∧ G.length ≤ k ∧ wr.ownsRow (w.heap.size + 1) RowT 3 v G.length (rc rwenc G) ∧ wr.heap[w.heap.size]? = some (.cells #[.string fr, .string to] SpT (0, 0)) ∧ Below w.heap.size w wr) (fun _ i _ => l.length - (intOf i).toNat)
  case atStart => exact ⟨0, [], Nat.zero_le _, rfl, rfl, by simp, World.ownsRow_nil _ _ _ _, hs0, hb0⟩
  case round =>
    obtain ⟨k, G, hk, rfl, HG, hGl, hown, hs, hbel⟩ := hrel
    obtain ⟨gv, gc, rfl⟩ := Gk.own_slice hown
    have t0 : wr.cell? ⟨br, 0, none⟩ = some (.slice a l.length cap) := cellB ((hbel.block br hlt).trans hg) 0 rfl
    have s0 : wr.cell? ⟨w.heap.size, 0, none⟩ = some (.string fr) := cellB hs 0 rfl
    have s1 : wr.cell? ⟨w.heap.size, 1, none⟩ = some (.string to) := cellB hs 1 rfl
    have hsl := (Array.getElem?_eq_some_iff.1 hs).1
    have j0 : (0 : Int) ≤ (k : Int) := by omega
    have hwr := hbel.size
    have hbrl := Nat.lt_of_lt_of_le hlt hwr
    by_cases hkl : k < l.length
    · obtain ⟨b, off, rfl, hbl, hc⟩ := (hl.lies.below hbel).at (k := 3) rwenc_len k hkl
      have c0 := hc 0 _ rfl
      have c1 := hc 1 _ rfl
      have c2 := hc 2 _ rfl
      rw [Nat.add_zero] at c0
      clear hc
      have j1 : (k : Int) < (l.length : Int) := by omega
      have HT := hide (List.take_succ_eq_append_getElem hkl)
      generalize (l[k]'hkl) = y at *
      obtain ⟨yk, ys, yv⟩ := y
      simp only at c0 c1 c2
      have hHas := Has1_ref yk ⟨fr, to⟩ (wr.alloc (.cells #[.string fr, .string to] SpT)).drew wr.heap.size (heap_alloc_new wr _)
      have hbA : Below wr.heap.size wr (wr.alloc (.cells #[.string fr, .string to] SpT)).drew := (below_a1 wr _).drew
      have hsz : wr.heap.size ≤ (wr.alloc (.cells #[.string fr, .string to] SpT)).drew.heap.size := hbA.size
      cases hh : Sp.Sp.has ⟨fr, to⟩ yk
      · rw [hh] at hHas
        have HGN : Hid (G ++ [⟨yk, ys, yv⟩] = (l.take (k + 1)).filter fun r => !Sp.Sp.has ⟨fr, to⟩ r.key) := by
          show _ = _
          rw [HT.out, List.filter_append, ← HG.out]; simp [hh]
        go_wp2_with fail
        go_region_law (first | (go_simp; go_at_call 55; refine hHas.mono ?_; rintro e w2 ⟨rfl, hb2⟩; have hb3 := hide (hbA.trans (hb2.mono hsz)); clear hb2))
        all_goals
          have hb4 := hide (hbel.trans (hb3.out.mono hwr))
          have hs4 := (hb3.out.block _ hsl).trans hs
          have HO4 := hide (own_below hown hb3.out)
          have t4 : w2.cell? ⟨br, 0, none⟩ = some (.slice (some ⟨b, off, none⟩) l.length cap) := (hb3.out.cell (p := ⟨br, 0, none⟩) hbrl).trans t0
          have d0 := (hb3.out.cell (p := ⟨b, off + k * 3, none⟩) hbl).trans c0
          have d1 := (hb3.out.cell (p := ⟨b, off + k * 3 + 1, none⟩) hbl).trans c1
          have d2 := (hb3.out.cell (p := ⟨b, off + k * 3 + 2, none⟩) hbl).trans c2
          have hsz4 : w.heap.size + 1 ≤ w2.heap.size := by have := (Array.getElem?_eq_some_iff.1 hs4).1; omega
          have HS4 := hide hs4
          clear hHas hbA hsz hb3 c0 c1 c2 s0 s1 t0 hs4
          go_wp2_with (at_builtin; refine wpList_push (enc := rwenc) (k := 3) rfl (.tmp 29) (.tmp 37) RowsT rfl RowT noRw 40 Try.underlying26 row_info rfl (by decide) rwenc_len rwenc_one (w.heap.size + 1) _ G rfl (own_below HO4.out (below_a1 w2 _)) w2.heap.size ⟨yk, ys, yv⟩ rfl (heap_alloc_new w2 _) (by omega) (by omega) (by simp; omega) ?_; intro v5 w5 hown5 hg5 hat5; have B5 := hide ((hb4.out.alloc hb4.out.size _).grown hg5 (by simp; omega) (fun k e => Nat.le_trans (Nat.le_succ _) (HO4.out.lt k e).1)); have HS5 := hide ((hg5.block w.heap.size (by simp; omega) (fun e => by have := (HO4.out.lt _ e.symm).1; omega)).trans ((heap_alloc_old _ _ (by omega)).trans HS4.out)); obtain ⟨N, hN⟩ : ∃ N, N = G ++ [⟨yk, ys, yv⟩] := ⟨_, rfl⟩; rw [← hN] at hown5 HGN; have HNL : Hid (N.length ≤ k + 1) := (by show _ ≤ _; rw [hN, List.length_append]; simp; omega); obtain ⟨a5, c5, rfl⟩ := Gk.own_slice hown5; have H5 := hide hown5; clear hown5 hg5 hat5 hN)
          exact ⟨⟨k + 1, N, by omega, by go_num, HGN, HNL.out, H5.out, HS5.out, B5.out⟩, by simp [intOf]; omega⟩
      · rw [hh] at hHas
        have HGN : Hid (G = (l.take (k + 1)).filter fun r => !Sp.Sp.has ⟨fr, to⟩ r.key) := by
          show _ = _
          rw [HT.out, List.filter_append, ← HG.out]; simp [hh]
        go_wp2_with fail
        go_region_law (first | (go_simp; go_at_call 55; refine hHas.mono ?_; rintro e w2 ⟨rfl, hb2⟩; have hb3 := hide (hbA.trans (hb2.mono hsz)); clear hb2))
        all_goals
          have hb4 := hbel.trans (hb3.out.mono hwr)
          have hs4 := (hb3.out.block _ hsl).trans hs
          have HO4 := hide (own_below hown hb3.out)
          clear hHas hbA hsz hb3 c0 c1 c2 s0 s1 t0
          go_wp2
          exact ⟨⟨k + 1, G, by omega, by go_num, HGN, by omega, HO4.out, hs4, hb4⟩, by simp [intOf]; omega⟩
    · have j1 : ¬ (k : Int) < (l.length : Int) := by omega
      have HE : Hid (G = l.filter fun r => !Sp.Sp.has ⟨fr, to⟩ r.key) := by
        have := HG.out
        rw [List.take_of_length_le (by omega)] at this
        exact this
      obtain ⟨n, hn⟩ : ∃ n, n = (l.filter fun r => Sp.Sp.has ⟨fr, to⟩ r.key).length := ⟨_, rfl⟩
      have hfl := filt_len (fun r => Sp.Sp.has ⟨fr, to⟩ r.key) l
      rw [← HE.out, ← hn] at hfl
      have hsub : (l.length : Int) - (G.length : Int) = (n : Int) := by omega
      have hgw := (hbel.block br hlt).trans hg
      have ftw := unfrozen_of_block hgw 0
      have HR9 := hide (RH.put hgw (RL.of_own hown) (HE.out ▸ hok.filter (fun r => !Sp.Sp.has ⟨fr, to⟩ r.key)))
      have HT9 : Hid (Turn br w (wr.setCell ⟨br, 0, none⟩ (.slice gv G.length gc))) := (Only.of_below hbel).trans (Only.of_set (own := fun b => b = br) _ rfl _)
      have HN := hide hn
      clear HG hfl hn
      go_wp2
      go_ret
      rw [← HE.out, ← HN.out]
      exact ⟨rfl, HR9.out, HT9.out⟩

set_option maxRecDepth 100000 in
set_option maxHeartbeats 1600000 in
theorem Fork_ref (br : Nat) (l : List Rw) (w : World) (hR : RH w br l) :
    Calls Try.prog 13 #[ptr br] w fun e w' => ∃ b, e = .returned (ptr b) ∧ RH w' b l ∧ w.heap.size ≤ b ∧ Below w.heap.size w w' := by
  obtain ⟨hok, a, cap, hg, hl⟩ := id hR
  have hlen := hok.len
  have hlt := hR.lt
  have hnil := hl.nocap
  have t0 : w.cell? ⟨br, 0, none⟩ = some (.slice a l.length cap) := cellB hg 0 rfl
  have hb0 := below_a1 w (.cells #[] RowT)
  have HL := hide hl
  have HM : Hid ((w.alloc (.cells #[] RowT)).ownsRow w.heap.size RowT 3 (.slice (some ⟨w.heap.size, 0, none⟩) 0 0) 0 (rc rwenc [])) := ownR_made w
  clear hl
  go_enter Try.func13, Try.ntmps13
  go_wp2_with (at_builtin; refine wpList_append_row (enc := rwenc) (k := 3) rfl (.tmp 3) (.tmp 7) RowsT rfl RowT noRw 40 Try.underlying26 row_info rfl (by decide) rwenc_len rwenc_one w.heap.size _ ([] : List Rw) rfl HM.out a l l.length cap rfl rfl (HL.out.below hb0).lies hnil (by simp; omega) (by simp; omega) hb0.size ?_; intro v3 w3 hown3 hg3 hat3; have hb3 := hide (hb0.grown hg3 hb0.size (fun k hk => by cases hk; exact Nat.le_refl _)); simp only [List.nil_append] at hown3; obtain ⟨a3, c3, rfl⟩ := Gk.own_slice hown3; have HO3 := hide hown3; clear hown3 hg3 hat3)
  have hn3 := heap_alloc_new w3 (.cells #[.slice a3 l.length c3] RTabT)
  have hba := below_a1 w3 (.cells #[.slice a3 l.length c3] RTabT)
  go_ret
  exact ⟨_, rfl, ⟨hok, a3, c3, hn3, (RL.of_own HO3.out).below hba⟩, hb3.out.size, hb3.out.trans (hba.mono hb3.out.size)⟩

end Go.Proofs.Ythdempdiibjabaa.Tr
