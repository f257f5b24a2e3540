/- RingPoints: the law's walk. -/
import Derived.Test.YtdgfbkkjeogigaaDoorRfBook
import Derived.Test.YtdgfbkkjeogigaaDoorGArgsB
import Derived.Test.YtdgfbkkjeogigaaDoorRgWorks
namespace Go.Proofs.YtdgfbkkjeogigaaDoor.Rf
open Go.RowKit Go.Joins Gk Rg

set_option maxHeartbeats 6400000 in
set_option maxRecDepth 100000 in
theorem points_lawY (hPY : ∀ (a : Option Addr) (cap : Nat) (ws : List Int) (_ : May ws) (w : World) (_ : Lies w ienc a ws) (_ : Tab w),
    Calls Tryd.prog 10 #[.slice a ws.length cap] w fun e w' => ∃ a1 c1 a2 c2 l, e = .returned (.tuple #[.slice a1 (List.length l) c1, .slice a2 (List.length l) c2, .int .i64 0]) ∧ Below w.heap.size w w' ∧ Hid (Row w' uenc U64T 1 (.slice a1 l.length c1) l ∧ Row w' cenc IntT 1 (.slice a2 l.length c2) l ∧ Srt ws l))
    (a : Option Addr) (cap : Nat) (ws : List Int) (s : ByteArray) (w : World) (hI : IntsAt w a cap ws) (hbd : ws.length * 8 ≤ 140737488351232) (hs : s.size ≤ 140737488351232) (hT : Tab w) (hM : May ws) :
    Calls Tryd.prog 3 #[.slice a ws.length cap, .string s] w fun e w' => e = .returned (.bool true) ∧ Below w.heap.size w w' := by
  have mixed : Tryd.prog.follows .mixedOrders = true := by kernel_rfl
  have hl := hI.lies
  have hL := lend_ints a cap ws w hl hI.nil hbd
  have hH1 := fun W => hash_any s W (by omega)
  have hH2 := fun W => hash_ref s W (by omega)
  have hn8 := hM.n2
  go_enter Tryd.func3, Tryd.ntmps3
  go_wp2_with fail
  refine hL.mono ?_
  rintro e w1 ⟨g, c, rfl, ho1, hb1⟩
  have hP1 := hPY (some ⟨g, 0, none⟩) c ws hM w1 (lent_ints ho1 rfl) (hT.below hb1)
  go_wp2_with fail
  refine hP1.mono ?_
  rintro e w2 ⟨a1, c1, a2, c2, l, rfl, hb2, HR2⟩
  have hv2 := hb1.trans (hb2.mono hb1.size)
  have hP2 := points_ref a cap ws hM w2 (hl.below hv2)
  go_wp2_with fail
  refine hP2.mono ?_
  rintro e w3 ⟨a3, c3, a4, c4, l', rfl, hb3, HR3⟩
  obtain rfl : l = l' := Srt.unique HR2.out.2.2 HR3.out.2.2
  have hv3 := hv2.trans (hb3.mono hv2.size)
  have HU2 := hide (Row.below HR2.out.1 hb3)
  have HC2 := hide (Row.below HR2.out.2.1 hb3)
  have HU3 := hide HR3.out.1
  have HC3 := hide HR3.out.2.1
  have hl1024 : l.length ≤ 1024 := by rw [HR3.out.2.2.perm.length_eq]; exact length_pts_le hM
  have HO3 := hide (own_below (own_below ho1 hb2) hb3)
  have hS := same_ints cenc (fun p : Pt => (p.1 : Int)) (fun _ => rfl) a2 a4 c2 c4 l w3 (Row.lies HC2.out) (Row.lies HC3.out) (by omega)
  clear HR2 HR3 hP1 hP2 hL ho1 HC2 HC3
  go_wp2_with fail
  refine hS.mono ?_
  rintro e w4 ⟨rfl, hb4⟩
  have hv4 := hv3.trans (hb4.mono hv3.size)
  replace HU2 := hide (Row.below HU2.out hb4)
  replace HU3 := hide (Row.below HU3.out hb4)
  replace HO3 := hide (own_below HO3.out hb4)
  clear hS hb2 hb3 hv2 hv3 hb4
  go_wp2
  go_loopw [12] (fun iv wr => ∃ k : Nat, k ≤ l.length ∧ iv = .int .i64 k ∧ Below w4.heap.size w4 wr) (fun iv _ => l.length + 1 - (intOf iv).toNat)
  case atStart => exact ⟨0, Nat.zero_le _, rfl, Below.refl _ _⟩
  case round =>
    obtain ⟨k, hk, rfl, hb⟩ := hrel
    by_cases hkl : k < l.length
    · have j1 : (k : Int) < (l.length : Int) := by omega
      obtain ⟨g1, cap1, e1, hg1, hc1⟩ := (Row.below HU2.out hb).at uenc_len k hkl
      obtain ⟨g2, cap2, e2, hg2, hc2⟩ := (Row.below HU3.out hb).at uenc_len k hkl
      cases e1
      cases e2
      have d1 := hc1 0 _ rfl
      have d2 := hc2 0 _ rfl
      rw [Nat.mul_one, Nat.add_zero] at d1 d2
      generalize hp l[k] = x at d1 d2
      clear hc1 hc2
      go_wp2_with fail
      refine wp_region_quiet_lit (by kernel_rfl) (by kernel_rfl) ?_
      refine QW.out ?_
      repeat (refine QW.step (fun K hK => ?_); go_simp; refine hK _ ?_; clear hK K)
      refine QW.nil ?_
      rintro w7 ⟨nq, rfl⟩
      have hb7 := hb.trans (below_draws w4.heap.size wr nq)
      clear d1 d2
      generalize wr.drewN nq = w8 at hb7 ⊢
      go_wp2_with fail
      exact ⟨⟨k + 1, hkl, step_i k, hb7⟩, step_n k (l.length + 1) (by omega)⟩
    · have j1 : ¬ (k : Int) < (l.length : Int) := by omega
      clear hk hkl HU2 HU3
      have hvw := hv4.trans (hb.mono hv4.size)
      have HO5 := hide (own_below HO3.out hb)
      have hC1 := check_any (some ⟨g, 0, none⟩) c ws wr (lent_ints HO5.out rfl) (by omega)
      have hC2 := check_ref a cap ws wr (hl.below hvw) (by omega)
      have hK := kept_ints g c a cap ws wr HO5.out (hl.below hvw) (by omega)
      have hW := fun W (hb : Below w.heap.size w W) => works_any W (hT.below hb)
      go_wp2_with fail
      refine (hH1 wr).mono ?_
      rintro e w5 ⟨rfl, hw5⟩
      obtain rfl := hw5.symm
      go_wp2_with fail
      refine (hH2 _).mono ?_
      rintro e w6 ⟨rfl, hw6⟩
      obtain rfl := hw6.symm
      go_wp2_with fail
      refine hC1.mono ?_
      rintro e w7 ⟨rfl, hw7⟩
      obtain rfl := hw7.symm
      go_wp2_with fail
      refine hC2.mono ?_
      rintro e w8 ⟨rfl, hw8⟩
      obtain rfl := hw8.symm
      go_wp2_with fail
      refine hK.mono ?_
      rintro e w9 ⟨rfl, hb9⟩
      have hv9 := hvw.trans (hb9.mono hvw.size)
      go_wp2_with fail
      refine (hW w9 hv9).mono ?_
      rintro e w10 ⟨rfl, hb10⟩
      have hv10 := hv9.trans (hb10.mono hv9.size)
      go_wp2
      go_ret
      exact ⟨rfl, hv10⟩

set_option maxHeartbeats 6400000 in
set_option maxRecDepth 100000 in
theorem points_lawN (hPN : ∀ (a : Option Addr) (cap : Nat) (ws : List Int) (_ : ¬ May ws) (w : World) (_ : Lies w ienc a ws) (_ : ws.length ≤ 9223372036854775807),
    Calls Tryd.prog 10 #[.slice a ws.length cap] w fun e w' => e = .returned (.tuple #[.slice none 0 0, .slice none 0 0, .int .i64 1]) ∧ w' = w)
    (a : Option Addr) (cap : Nat) (ws : List Int) (s : ByteArray) (w : World) (hI : IntsAt w a cap ws) (hbd : ws.length * 8 ≤ 140737488351232) (hs : s.size ≤ 140737488351232) (hT : Tab w) (hM : ¬ May ws) :
    Calls Tryd.prog 3 #[.slice a ws.length cap, .string s] w fun e w' => e = .returned (.bool true) ∧ Below w.heap.size w w' := by
  have mixed : Tryd.prog.follows .mixedOrders = true := by kernel_rfl
  have hl := hI.lies
  have hL := lend_ints a cap ws w hl hI.nil hbd
  have hH1 := fun W => hash_any s W (by omega)
  have hH2 := fun W => hash_ref s W (by omega)
  go_enter Tryd.func3, Tryd.ntmps3
  go_wp2_with fail
  refine hL.mono ?_
  rintro e w1 ⟨g, c, rfl, ho1, hb1⟩
  have hP1 := hPN (some ⟨g, 0, none⟩) c ws hM w1 (lent_ints ho1 rfl) (by omega)
  have hP2 := points_ref_no a cap ws hM w1 (hl.below hb1) (by omega)
  have hS := same_ints ienc id (fun _ => rfl) none none 0 0 [] w1 (Or.inl rfl) (Or.inl rfl) (by simp)
  simp only [List.length_nil] at hS
  go_wp2_with fail
  refine hP1.mono ?_
  rintro e w2 ⟨rfl, hw2⟩
  obtain rfl := hw2.symm
  go_wp2_with fail
  refine hP2.mono ?_
  rintro e w3 ⟨rfl, hw3⟩
  obtain rfl := hw3.symm
  go_wp2_with fail
  refine hS.mono ?_
  rintro e w4 ⟨rfl, hb4⟩
  have hv4 := hb1.trans (hb4.mono hb1.size)
  have HO4 := hide (own_below ho1 hb4)
  clear hS hP1 hP2 hL ho1 hb4
  go_wp2
  go_loopw [12] (fun iv wr => iv = .int .i64 0 ∧ wr = w4) (fun _ _ => 0)
  case atStart => exact ⟨rfl, rfl⟩
  case round =>
    obtain ⟨rfl, rfl⟩ := hrel
    have hvw := hv4
    have HO5 := HO4
    have hC1 := check_any (some ⟨g, 0, none⟩) c ws wr (lent_ints HO5.out rfl) (by omega)
    have hC2 := check_ref a cap ws wr (hl.below hvw) (by omega)
    have hK := kept_ints g c a cap ws wr HO5.out (hl.below hvw) (by omega)
    have hW := fun W (hb : Below w.heap.size w W) => works_any W (hT.below hb)
    go_wp2_with fail
    refine (hH1 wr).mono ?_
    rintro e w5 ⟨rfl, hw5⟩
    obtain rfl := hw5.symm
    go_wp2_with fail
    refine (hH2 _).mono ?_
    rintro e w6 ⟨rfl, hw6⟩
    obtain rfl := hw6.symm
    go_wp2_with fail
    refine hC1.mono ?_
    rintro e w7 ⟨rfl, hw7⟩
    obtain rfl := hw7.symm
    go_wp2_with fail
    refine hC2.mono ?_
    rintro e w8 ⟨rfl, hw8⟩
    obtain rfl := hw8.symm
    go_wp2_with fail
    refine hK.mono ?_
    rintro e w9 ⟨rfl, hb9⟩
    have hv9 := hvw.trans (hb9.mono hvw.size)
    go_wp2_with fail
    refine (hW w9 hv9).mono ?_
    rintro e w10 ⟨rfl, hb10⟩
    have hv10 := hv9.trans (hb10.mono hv9.size)
    go_wp2
    go_ret
    exact ⟨rfl, hv10⟩

end Go.Proofs.YtdgfbkkjeogigaaDoor.Rf
