/- Walks over skylarkref02: Rename. -/
import Derived.Test.YtokcknfbanpjjaaECut
namespace Go.Proofs.Ytokcknfbanpjjaa.Dk
open Go.RowKit Go.Maps Go.Joins Gk

/-- what a disk has, and what is not there yet -/
abbrev tightR (w : World) (br : Nat) (v : Value) : Nat → Prop := fun b => (b = br ∨ v.ownBlock = some b) ∨ w.heap.size ≤ b
theorem RHeldL.toTight {w : World} {own : Nat → Prop} {br room : Nat} {l : Fls} {v : Value} {fused : Bool} {left : Int} {down : Bool} (h : RHeldL w own br room l v fused left down) : RHeldL w (tightR w br v) br room l v fused left down :=
  ⟨h.block, h.row, Or.inl (Or.inl rfl), fun _ hg => Or.inl (Or.inr hg)⟩
theorem tightR_fresh (w : World) (br : Nat) (v : Value) : Fresh (tightR w br v) w := fun _ hb => Or.inr hb
theorem RHeldL.tight_own {w : World} {own : Nat → Prop} {br room : Nat} {l : Fls} {v : Value} {fused : Bool} {left : Int} {down : Bool} (h : RHeldL w own br room l v fused left down) (hfr : Fresh own w) : ∀ b, tightR w br v b → own b := fun b hb => by
  rcases hb with (rfl | hb) | hb
  · exact h.ownD
  · exact h.ownR b hb
  · exact hfr b hb

set_option maxHeartbeats 1600000 in
theorem rRename_any {own : Nat → Prop} {br : Nat} {S : St} (w : World) (h : RHeld w own br S) (hfr : Fresh own w) (s t : ByteArray) (hs : s.size ≤ 140737488351232) (hts : t.size ≤ 140737488351232) :
    Calls Try.prog 17 #[.pointer (some ⟨br, 0, none⟩), .string s, .string t] w fun e w' => e = .returned (.int .i64 (S.rename s.data.toList t.data.toList).1) ∧ RHeld w' own br (S.rename s.data.toList t.data.toList).2 ∧ Only own w w' := by
  obtain ⟨v, fused, left, hL, hF, hok⟩ := h
  have HOK := hide (hok.rename s.data.toList t.data.toList)
  have hN1 := fun W => rNamed_any s W hs
  have hN2 := fun W => rNamed_any t W hts
  have hK := known_any w hL hok.many hok.rising s hs
  cases hn1 : named s.data.toList
  · have hv : S.rename s.data.toList t.data.toList = (20, S) := by simp [St.rename, hn1]
    rw [hv]
    rw [hn1] at hN1
    have HL := hide hL
    clear hL hv hK
    go_enter Try.func17, Try.ntmps17
    go_wp2_with fail
    refine (hN1 _).mono ?_
    rintro e w1 ⟨rfl, rfl⟩
    go_wp2
    go_ret
    exact ⟨rfl, ⟨v, fused, left, HL.out, hF, hok⟩, Only.refl _ _⟩
  · rw [hn1] at hN1
    cases hn2 : named t.data.toList
    · have hv : S.rename s.data.toList t.data.toList = (20, S) := by simp [St.rename, hn2]
      rw [hv]
      rw [hn2] at hN2
      have HL := hide hL
      clear hL hv hK
      go_enter Try.func17, Try.ntmps17
      go_wp2_with fail
      refine (hN1 _).mono ?_
      rintro e w1 ⟨rfl, rfl⟩
      go_wp2_with fail
      refine (hN2 _).mono ?_
      rintro e w1 ⟨rfl, rfl⟩
      go_wp2
      go_ret
      exact ⟨rfl, ⟨v, fused, left, HL.out, hF, hok⟩, Only.refl _ _⟩
    · rw [hn2] at hN2
      cases hg : getL s.data.toList S.files with
      | none =>
        have hv : S.rename s.data.toList t.data.toList = (5, S) := by simp [St.rename, hn1, hn2, hg]
        have hkv : knownV S.files s.data.toList = .tuple #[RV3 ⟨#[]⟩ ⟨#[]⟩ 0, .int .i64 5] := by simp [knownV, hn1, hg]
        rw [hv]
        rw [hkv] at hK
        have HL := hide hL
        clear hL hv hkv
        go_enter Try.func17, Try.ntmps17
        go_wp2_with fail
        refine (hN1 _).mono ?_
        rintro e w1 ⟨rfl, rfl⟩
        go_wp2_with fail
        refine (hN2 _).mono ?_
        rintro e w1 ⟨rfl, rfl⟩
        go_wp2_with (go_at_call 41; refine hK.mono ?_; rintro e w1 ⟨rfl, hb1⟩)
        go_ret
        exact ⟨rfl, ⟨v, fused, left, HL.out.below (hb1.alloc hb1.size _), hF, hok⟩, Only.of_below (hb1.alloc hb1.size _)⟩
      | some f =>
        have hkv : knownV S.files s.data.toList = .tuple #[RV3 (txt s.data.toList) (txt f.data) f.safe, .int .i64 0] := by simp [knownV, hn1, hg]
        rw [hkv] at hK
        have HL := hide hL
        have hv : S.rename s.data.toList t.data.toList = S.do fun l => putL t.data.toList f (delL s.data.toList l) := by simp [St.rename, hn1, hn2, hg]
        rw [hv] at HOK ⊢
        clear hv hkv
        cases ht : (taken S.fuse S.down).1
        · rw [do_no ht] at HOK ⊢
          have hR := ready_at ht hL hF
          clear hL
          go_enter Try.func17, Try.ntmps17
          go_wp2_with fail
          refine (hN1 _).mono ?_
          rintro e w1 ⟨rfl, rfl⟩
          go_wp2_with fail
          refine (hN2 _).mono ?_
          rintro e w1 ⟨rfl, rfl⟩
          go_wp2_with fail
          refine hK.mono ?_
          rintro e w1 ⟨rfl, hb1⟩
          clear hK
          go_wp2_with fail
          refine (hR _ (hb1.alloc hb1.size _)).mono ?_
          rintro e w2 ⟨left', rfl, hL2, hF2, ho2, -⟩
          clear hR
          go_wp2
          go_ret
          exact ⟨rfl, ⟨v, fused, left', hL2, hF2, HOK.out⟩, (Only.of_below (hb1.alloc hb1.size _)).trans ho2⟩
        · rw [do_yes ht] at HOK ⊢
          have hR := ready_at ht hL hF
          have hlr := fun g hg' => hL.rowLt (g := g) hg'
          have hlb := hL.lt
          clear hL
          go_enter Try.func17, Try.ntmps17
          go_wp2_with fail
          refine (hN1 _).mono ?_
          rintro e w1 ⟨rfl, rfl⟩
          go_wp2_with fail
          refine (hN2 _).mono ?_
          rintro e w1 ⟨rfl, rfl⟩
          go_wp2_with fail
          refine hK.mono ?_
          rintro e w1 ⟨rfl, hb1⟩
          clear hK hN1 hN2
          have hz1 := hb1.size
          go_wp2_with fail
          refine (hR _ (hb1.alloc hb1.size _)).mono ?_
          rintro e w2 ⟨left', rfl, hL2, hF2, ho2, hg2⟩
          have hoo := (Only.of_below (own := own) (hb1.alloc hb1.size (.cells #[.string (txt s.data.toList), .string (txt f.data), .int .i64 f.safe] RFil))).trans ho2
          have hnb : br ≠ w1.heap.size := by omega
          have hblk : w2.heap[w1.heap.size]? = some (.cells #[.string (txt s.data.toList), .string (txt f.data), .int .i64 f.safe] RFil (0, 0)) := (hg2.block _ (by simp) (fun e => hnb (by simpa using e.symm))).trans (heap_alloc_new w1 _)
          have hbf := (Array.getElem?_eq_some_iff.1 hblk).1
          have hfr2 := hfr.later hoo.size
          have hD := rDrop_any w2 hL2.toTight (tightR_fresh _ _ _) hok.many hok.rising s
          have hnt : ¬ tightR w2 br v w1.heap.size := fun hb => by
            rcases hb with (hb | hb) | hb
            · exact hnb hb.symm
            · have := hlr _ hb; omega
            · omega
          have HTO := hide (hL2.tight_own hfr2)
          clear hR ho2 hL2
          go_wp2_with fail
          refine hD.mono ?_
          rintro e w3 ⟨rfl, ⟨v3, hL3⟩, ho3⟩
          have hblk3 := (ho3.block _ hbf hnt).trans hblk
          have hoo3 := hoo.trans (ho3.mono fun b _ hb => HTO.out b hb)
          have hL3' := hL3.owns (own' := own) (fun b _ hb => HTO.out b hb)
          have hz3 := hoo3.size
          have hnr3 : ∀ g', v3.ownBlock = some g' → g' ≠ w1.heap.size := fun g' hg' e => hnt (e ▸ hL3.ownR g' hg')
          have k0 : w3.cell? ⟨w1.heap.size, 0, none⟩ = some (.string (txt s.data.toList)) := cell_of_block hblk3 0
          have k1 : w3.cell? ⟨w1.heap.size, 1, none⟩ = some (.string (txt f.data)) := cell_of_block hblk3 1
          have k2 : w3.cell? ⟨w1.heap.size, 2, none⟩ = some (.int .i64 f.safe) := cell_of_block hblk3 2
          have z0 := unfrozen_of_block hblk3 0
          have hL4 := hL3'.setOther hnb hnr3 0 (.string t)
          have hO4 : Only own w3 (w3.setCell ⟨w1.heap.size, 0, none⟩ (.string t)) := Only.of_set w3 (a := ⟨w1.heap.size, 0, none⟩) (hfr _ hz1) _
          have hdl : (delL s.data.toList S.files).length ≤ 64 := by have := delL_length hok.rising hg; have := hok.many; omega
          have hP := rPut_any _ hL4 (hfr.later (Nat.le_trans hz3 hO4.size)) hdl hok.rising.del t.data.toList f
          have htt : txt t.data.toList = t := rfl
          simp only [fval, htt] at hP
          have HO4 := hide (hoo3.trans hO4)
          clear hD hL3 hL3' hL4 hO4 ho3 hoo3 hblk hblk3
          go_wp2_with fail
          refine hP.mono ?_
          rintro e w5 ⟨rfl, ⟨v5, hL5⟩, ho5⟩
          clear hP k0 k1 k2 z0
          go_wp2
          go_ret
          exact ⟨rfl, ⟨v5, fused, left', hL5, hF2, HOK.out⟩, HO4.out.trans ho5⟩

end Go.Proofs.Ytokcknfbanpjjaa.Dk
