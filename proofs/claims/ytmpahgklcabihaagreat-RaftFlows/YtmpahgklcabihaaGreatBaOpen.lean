/- Layer 15: load and Open. -/
import Derived.Test.YtmpahgklcabihaaGreatBaAll
import Derived.Test.YtmpahgklcabihaaGreatBaCall
namespace Go.Proofs.YtmpahgklcabihaaGreat.Ba
open Go.RowKit Go.Joins Go.Proofs.YtmpahgklcabihaaGreat.Gk
open Go.Proofs.YtmpahgklcabihaaGreat.Dk (St Bs)
open Go.Proofs.YtmpahgklcabihaaGreat.Rl (En Lo LH ER ptr blk eenc EnT)

/-- all of it is another one's -/
theorem BH.fill {w : World} {bb bd bl : Nat} {v : Value} {n : Int} {S : St} {s : Bl} {D : Nat → Prop} (h : BH w bb bd bl v n S s D) {w1 : World} {bl' : Nat} {v' : Value} {s' : Bl} (hb : Below w.heap.size w w1) (hl : LH w1 bl' s'.lo v') (hnew : ∀ k, Rl.own w1 bl' k → w.heap.size ≤ k) :
    BH (((w1.setCell ⟨bb, 2, none⟩ (.int .i64 s'.t)).setCell ⟨bb, 3, none⟩ (.int .i64 s'.v)).setCell ⟨bb, 4, none⟩ (ptr bl')) bb bd bl' v' n S s' D ∧
      Tu (bo w bb bl D) (bo (((w1.setCell ⟨bb, 2, none⟩ (.int .i64 s'.t)).setCell ⟨bb, 3, none⟩ (.int .i64 s'.v)).setCell ⟨bb, 4, none⟩ (ptr bl')) bb bl' D) w (((w1.setCell ⟨bb, 2, none⟩ (.int .i64 s'.t)).setCell ⟨bb, 3, none⟩ (.int .i64 s'.v)).setCell ⟨bb, 4, none⟩ (ptr bl')) := by
  have hlt := h.lt
  have hk : ∀ k, k ≠ bb → (((w1.setCell ⟨bb, 2, none⟩ (.int .i64 s'.t)).setCell ⟨bb, 3, none⟩ (.int .i64 s'.v)).setCell ⟨bb, 4, none⟩ (ptr bl')).heap[k]? = w1.heap[k]? := fun k hk => by
    rw [Below.heap_setCell _ ⟨bb, 4, none⟩ _ k hk, Below.heap_setCell _ ⟨bb, 3, none⟩ _ k hk, Below.heap_setCell _ ⟨bb, 2, none⟩ _ k hk]
  have hl2 : ∀ k, Rl.own w1 bl' k → k ≠ bb := fun k ho e => by have := hnew k ho; omega
  have e := Rl.own_same (bl := bl') (hk bl' (hl2 bl' (Or.inl rfl)))
  have hb1 := (hb.block bb hlt).trans h.box
  refine ⟨⟨by rw [block_setCell (block_setCell (block_setCell hb1 _) _) _]; rfl, (h.disk.below hb).frame (by simp) fun k hd => hk k fun e => h.nb (e ▸ hd), hl.stay fun k ho => hk k (hl2 k ho), h.nb, fun k ho hd => ?_⟩,
    ⟨⟨hb.os, hb.tape, hb.output, by simpa using hb.size, fun k hk2 hn => (hk k fun e => hn (Or.inr (Or.inl e))).trans (hb.block k hk2)⟩, fun k hd => ?_⟩⟩
  · rw [e] at ho; have := hnew k ho; have := h.disk.lt k hd; omega
  · rcases hd with hd | hd | hd
    · exact Or.inl (Or.inl hd)
    · exact Or.inl (Or.inr (Or.inl hd))
    · rw [e] at hd; exact Or.inr (hnew k hd)
/-- what is cut off -/
def ldd (S : St) (rs : List Rc) (tl : Bs) : St := if tl = [] then S else (S.cut nmB (frs rs).length).2
section
variable {bb bd : Nat} {n : Int} {S : St} {X : Nat → Prop}
set_option maxRecDepth 100000 in
set_option maxHeartbeats 8000000 in
theorem load_any (rs : List Rc) (tl : Bs) (w : World) (h : BB w bb bd n S Bl.new X) (hn : 1 ≤ n) (hd : (S.read nmB).1 = frs rs ++ tl) (ht : Torn tl) (ho : Oks n Bl.new rs) (hl : (frs rs ++ tl).length ≤ 262144) (hcut : tl ≠ [] → (S.cut nmB (frs rs).length).1 = 0) :
    Calls Tryz.prog 50 #[ptr bb] w fun r w' => r = .returned (.int .i64 0) ∧ ∃ X', BB w' bb bd n (ldd S rs tl) (run Bl.new rs) X' ∧ Tu X X' w w' := by
  have HB := hide h
  obtain ⟨bl, vl, c0, c1, c2, c3, c4, hlog⟩ := h.cells
  have HR := hide (by obtain ⟨D, hD, _⟩ := h.disk; exact Dk.read_any w hD.held nmS (by decide))
  rw [show nmS.data.toList = nmB from rfl, hd] at HR
  obtain ⟨file, hfile⟩ : ∃ file : ByteArray, ByteArray.mk (frs rs ++ tl).toArray = file := ⟨_, rfl⟩
  have hfd : file.data.toList = frs rs ++ tl := by rw [← hfile]
  have hfs : file.size = (frs rs ++ tl).length := by rw [Lib.size_eq, hfd]
  rw [hfile] at HR
  generalize (S.read nmB).2 = cr at *
  clear hfile hlog c2 c3 c4
  go_enter Tryz.func50, Tryz.ntmps50
  go_wp2_with fail
  refine HR.out.mono ?_
  rintro r w1 ⟨rfl, hb1⟩
  clear HR c0 c1
  obtain ⟨_, _, _, c1, _, _, _, _⟩ := (h.below hb1).cells
  have hG2 : RG (w1.alloc (.cells #[.int .i64 n, .int .i64 0, .int .i64 (-1), .slice none 0 0] RgT)) w1.heap.size n Bl.new (.slice none 0 0) := ⟨heap_alloc_new w1 _, ER.nil _⟩
  have hb2 : Below w1.heap.size w1 (w1.alloc (.cells #[.int .i64 n, .int .i64 0, .int .i64 (-1), .slice none 0 0] RgT)) := (Below.refl _ _).alloc (Nat.le_refl _) _
  have HT := hide (takeAll_any w1.heap.size n Bl.new rs tl file _ hG2 hfd ht ho (Bl.Ok.new hn) rfl (by omega))
  have HB2 := hide hb2
  clear hG2 hb2
  go_wp2_with fail
  refine HT.out.mono ?_
  clear HT
  rintro r w3 ⟨rfl, v3, hA3⟩
  obtain ⟨a3, p3, rfl, _⟩ := hA3.rg.row.slice
  have hz12 := HB2.out.size
  have hb03 : Below w.heap.size w w3 := by
    have h1 := hb1.trans (HB2.out.mono hb1.size)
    exact ⟨hA3.only.os.trans h1.os, hA3.only.tape.trans h1.tape, hA3.only.output.trans h1.output, Nat.le_trans h1.size hA3.only.size, fun k hk => (hA3.only.block k (Nat.lt_of_lt_of_le hk h1.size) (by have := hb1.size; omega)).trans (h1.block k hk)⟩
  have hBB3 := HB.out.below hb03
  have hok : (run Bl.new rs).Ok n := (Bl.Ok.new hn).run ho
  have hmany : (run Bl.new rs).es.length ≤ 1000000 := by
    have h1 := run_many Bl.new rs
    have h2 := frs_many rs
    have h3 : (frs rs).length ≤ 262144 := by rw [List.length_append] at hl; omega
    simp only [Bl.new, List.length_nil] at h1
    show (run Bl.new rs).es.length ≤ _
    unfold Bl.new; omega
  have hes := hok.es (by omega)
  have HLO := hide (fun W (hl : Gk.Lies W eenc a3 (run Bl.new rs).es) => logOf_any a3 p3 (run Bl.new rs).es W hl hes)
  generalize hsr : run Bl.new rs = s at *
  have HSR := hide hsr
  clear hsr
  have k1 := hA3.rg.c1
  have k2 := hA3.rg.c2
  have k3 := hA3.rg.c3
  obtain ⟨bl3, v3, D3, hBH3, rfl⟩ := hBB3
  obtain ⟨_, _, d2, d3, d4⟩ := hBH3.c
  have f2 := hBH3.fz 2
  have f3 := hBH3.fz 3
  have f4 := hBH3.fz 4
  have hbg3 := hA3.rg.lt
  have hbb3 := hBH3.lt
  have hne : w1.heap.size ≠ bb := by have := HB.out.blt; have := hb1.size; omega
  have HLI := hide ((hA3.rg.row.below (Below.refl _ w3).drew).lies)
  have HBH3 := hide hBH3
  have HKP := hide (fun W (hb : Below w3.heap.size w3.drew W) (j : Nat) => hb.cell (p := ⟨w1.heap.size, j, none⟩) hbg3)
  have HKB := hide (fun W (hb : Below w3.heap.size w3.drew W) => HBH3.out.below (w' := W) ((Below.refl _ w3).drew.trans hb))
  generalize w1.heap.size = bg at *
  clear hA3 hBH3 hok hes hb1 HB2 hz12
  go_wp2
  go_region_law (first | (go_simp; go_at_call 51; refine (HLO.out w3.drew HLI.out).mono ?_; rintro r w4 ⟨bl4, rfl, hM4⟩; have k1' := (HKP.out w4 hM4.bel 1).trans k1; have k2' := (HKP.out w4 hM4.bel 2).trans k2; have hB4 := (HKB.out w4 hM4.bel).1; have d2' := hB4.c.2.2.1; have d3' := hB4.c.2.2.2.1; have d4' := hB4.c.2.2.2.2; have f2' := hB4.fz 2; have f3' := hB4.fz 3; have f4' := hB4.fz 4))
  all_goals
    obtain ⟨v4, hL4⟩ := hM4.log
    obtain ⟨hF, hTF⟩ := HBH3.out.fill (s' := s) ((Below.refl _ w3).drew.trans hM4.bel) hL4 hM4.new
    have HF := hide hF.pack
    have HTF := hide ((Tu.of_below hb03).trans hTF)
    obtain ⟨W5, hW5⟩ : ∃ W5, ((w4.setCell ⟨bb, 2, none⟩ (.int .i64 s.t)).setCell ⟨bb, 3, none⟩ (.int .i64 s.v)).setCell ⟨bb, 4, none⟩ (ptr bl4) = W5 := ⟨_, rfl⟩
    rw [hW5] at HF HTF ⊢
    clear hW5 hF hTF hL4 hM4 hB4 d2' d3' d4' f2' f3' f4' k1' k2' d2 d3 d4 f2 f3 f4 k1 k2 k3 HKP HKB HLI HLO HBH3
    by_cases htl : tl = []
    · have he : ((frs rs).length : Int) = (file.size : Int) := by rw [hfs, htl, List.append_nil]
      have he' : (((frs rs).length : Int) == (file.size : Int)) = true := by rw [he]; simp
      have HL := hide (show ldd S rs tl = S by rw [ldd, if_pos htl])
      clear hfs he hl hd hfd htl
      go_wp2
      go_ret
      rw [HL.out, HSR.out]
      exact ⟨rfl, _, HF.out, HTF.out⟩
    · have hpos := List.length_pos_iff.2 htl
      have he : ¬ ((frs rs).length = file.size) := by rw [hfs, List.length_append]; omega
      have he' : (((frs rs).length : Int) == (file.size : Int)) = false := by rw [beq_eq_false_iff_ne]; omega
      have hlf : (frs rs).length ≤ 262144 := by rw [List.length_append] at hl; omega
      have HC := hide (HF.out.call (fun own h1 h2 h3 => Dk.cut_any W5 h2 h3 nmS (frs rs).length (by decide) (by omega) (by omega)))
      rw [show nmS.data.toList = nmB from rfl, hcut htl] at HC
      have HL := hide (show ldd S rs tl = (S.cut nmB (frs rs).length).2 by rw [ldd, if_neg htl])
      obtain ⟨_, _, d0, _⟩ := HF.out.cells
      clear hfs hl hd hfd hcut
      go_wp2_with fail
      refine HC.out.mono ?_
      rintro r w6 ⟨rfl, X6, hB6, hT6⟩
      go_wp2
      go_ret
      rw [HL.out, HSR.out]
      exact ⟨rfl, X6, hB6, HTF.out.trans hT6⟩
end
set_option maxRecDepth 100000 in
set_option maxHeartbeats 4000000 in
theorem Open_any (bd : Nat) (n : Int) (S : St) (D : Nat → Prop) (rs : List Rc) (tl : Bs) (w : World) (h : DH w bd S D) (hn : 1 ≤ n) (hn2 : n ≤ 16) (hd : (S.read nmB).1 = frs rs ++ tl) (ht : Torn tl) (ho : Oks n Bl.new rs) (hl : (frs rs ++ tl).length ≤ 262144) (hcut : tl ≠ [] → (S.cut nmB (frs rs).length).1 = 0) :
    Calls Tryz.prog 24 #[ptr bd, .int .i64 n] w fun r w' => ∃ bb, r = .returned (.tuple #[ptr bb, .int .i64 0]) ∧ ∃ X', BB w' bb bd n (ldd S rs tl) (run Bl.new rs) X' ∧ Tu D X' w w' := by
  have HN := hide (Rl.New_any w)
  have g1 : ¬ n < 1 := by omega
  have g2 : ¬ 16 < n := by omega
  have HLD := hide (fun W bb X (hB : BB W bb bd n S Bl.new X) => load_any (X := X) rs tl W hB hn hd ht ho hl hcut)
  generalize ldd S rs tl = S' at *
  generalize run Bl.new rs = s at *
  clear hd ht ho hl hcut
  go_enter Tryz.func24, Tryz.ntmps24
  go_wp2_with fail
  refine HN.out.mono ?_
  rintro r w1 ⟨rfl, hL1, hw1⟩
  have hb1 : Below w.heap.size w w1 := by rw [hw1]; exact (Below.refl _ _).alloc (Nat.le_refl _) _
  have hz1 : w.heap.size < w1.heap.size := hL1.lt
  clear HN hw1
  have hb2 : Below w1.heap.size w1 (w1.alloc (.cells #[ptr bd, .int .i64 n, .int .i64 0, .int .i64 (-1), ptr w.heap.size] BalT)) := (Below.refl _ _).alloc (Nat.le_refl _) _
  have hb12 := hb1.trans (hb2.mono hb1.size)
  have hown : ∀ k, Rl.own (w1.alloc (.cells #[ptr bd, .int .i64 n, .int .i64 0, .int .i64 (-1), ptr w.heap.size] BalT)) w.heap.size k → k = w.heap.size := by
    intro k hk
    rw [Rl.own_same (hb2.block _ hz1)] at hk
    rcases hk with rfl | hk
    · rfl
    · rw [hL1.lbk] at hk; cases hk
  have hBH : BH (w1.alloc (.cells #[ptr bd, .int .i64 n, .int .i64 0, .int .i64 (-1), ptr w.heap.size] BalT)) w1.heap.size bd w.heap.size (.slice none 0 0) n S Bl.new D :=
    ⟨heap_alloc_new w1 _, h.below hb12, hL1.below hb2, fun hD => by have := h.lt _ hD; omega, fun k hk hD => by have := h.lt _ hD; have := hown k hk; omega⟩
  have HL := hide (HLD.out _ _ _ hBH.pack)
  have HT : Hid (Tu D (bo (w1.alloc (.cells #[ptr bd, .int .i64 n, .int .i64 0, .int .i64 (-1), ptr w.heap.size] BalT)) w1.heap.size w.heap.size D) w (w1.alloc (.cells #[ptr bd, .int .i64 n, .int .i64 0, .int .i64 (-1), ptr w.heap.size] BalT))) := by
    refine ⟨Only.of_below hb12, fun k hk => ?_⟩
    rcases hk with hk | hk | hk
    · exact Or.inl hk
    · right; omega
    · right; have := hown k hk; omega
  clear hBH hown hL1 HLD hb12 hb2
  go_wp2_with fail
  refine HL.out.mono ?_
  rintro r w3 ⟨rfl, X3, hB3, hT3⟩
  go_wp2
  go_ret2
  exact ⟨_, rfl, X3, hB3, HT.out.trans hT3⟩
end Go.Proofs.YtmpahgklcabihaaGreat.Ba
