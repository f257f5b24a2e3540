/- Walks over skylarkref02: Cut. -/
import Derived.Test.YtokcknfbanpjjaaECalls
namespace Go.Proofs.Ytokcknfbanpjjaa.Dk
open Go.RowKit Go.Maps Go.Joins Gk

theorem txt_cut (k : Bs) (n : Nat) : (txt k).extract 0 n = txt (k.take n) := by
  apply ByteArray.ext
  apply Array.ext'
  rw [ByteArray.data_extract, Array.toList_extract]
  simp [txt, List.extract]
/-- a disk stays where its own two blocks do -/
theorem RHeldL.keep {w w' : World} {own : Nat → Prop} {br room : Nat} {l : Fls} {v : Value} {fused : Bool} {left : Int} {down : Bool} (h : RHeldL w own br room l v fused left down) (h1 : w'.heap[br]? = w.heap[br]?) (h2 : ∀ g, v.ownBlock = some g → w'.heap[g]? = w.heap[g]?) : RHeldL w' own br room l v fused left down :=
  ⟨h1.trans h.block, ownsRow_stay h.row h2, h.ownD, h.ownR⟩
/-- a cell of a block that came later -/
theorem RHeldL.setOther {w : World} {own : Nat → Prop} {br room : Nat} {l : Fls} {v : Value} {fused : Bool} {left : Int} {down : Bool} (h : RHeldL w own br room l v fused left down) {bf : Nat} (h1 : br ≠ bf) (h2 : ∀ g, v.ownBlock = some g → g ≠ bf) (i : Nat) (u : Value) : RHeldL (w.setCell ⟨bf, i, none⟩ u) own br room l v fused left down :=
  h.keep (Below.heap_setCell w _ _ _ h1) fun g hg => Below.heap_setCell w _ _ _ (h2 g hg)

set_option maxHeartbeats 1600000 in
theorem rCut_any {own : Nat → Prop} {br : Nat} {S : St} (w : World) (h : RHeld w own br S) (hfr : Fresh own w) (s : ByteArray) (n : Int) (hs : s.size ≤ 140737488351232) :
    Calls Try.prog 13 #[.pointer (some ⟨br, 0, none⟩), .string s, .int .i64 n] w fun e w' => e = .returned (.int .i64 (S.cut s.data.toList n).1) ∧ RHeld w' own br (S.cut s.data.toList n).2 ∧ Only own w w' := by
  obtain ⟨v, fused, left, hL, hF, hok⟩ := h
  have HOK := hide (hok.cut s.data.toList n)
  have hK := known_any w hL hok.many hok.rising s hs
  cases hnm : named s.data.toList
  · have hv : S.cut s.data.toList n = (20, S) := by simp [St.cut, hnm]
    have hkv : knownV S.files s.data.toList = .tuple #[RV3 ⟨#[]⟩ ⟨#[]⟩ 0, .int .i64 20] := by simp [knownV, hnm]
    rw [hv]
    rw [hkv] at hK
    have HL := hide hL
    clear hL hv hkv
    go_enter Try.func13, Try.ntmps13
    go_wp2_with (go_at_call 41; refine hK.mono ?_; rintro e w1 ⟨rfl, hb1⟩)
    go_ret
    exact ⟨rfl, ⟨v, fused, left, HL.out.below (hb1.alloc hb1.size _), hF, hok⟩, Only.of_below (hb1.alloc hb1.size _)⟩
  · cases hg : getL s.data.toList S.files with
    | none =>
      have hv : S.cut s.data.toList n = (5, S) := by simp [St.cut, hnm, hg]
      have hkv : knownV S.files s.data.toList = .tuple #[RV3 ⟨#[]⟩ ⟨#[]⟩ 0, .int .i64 5] := by simp [knownV, hnm, hg]
      rw [hv]
      rw [hkv] at hK
      have HL := hide hL
      clear hL hv hkv
      go_enter Try.func13, Try.ntmps13
      go_wp2_with (go_at_call 41; refine hK.mono ?_; rintro e w1 ⟨rfl, hb1⟩)
      go_ret
      exact ⟨rfl, ⟨v, fused, left, HL.out.below (hb1.alloc hb1.size _), hF, hok⟩, Only.of_below (hb1.alloc hb1.size _)⟩
    | some f =>
      have hkv : knownV S.files s.data.toList = .tuple #[RV3 (txt s.data.toList) (txt f.data) f.safe, .int .i64 0] := by simp [knownV, hnm, hg]
      rw [hkv] at hK
      have HL := hide hL
      have hsz : (txt f.data).size = f.data.length := by rw [Lib.size_eq, txt_list]
      by_cases hbad : n < 0 ∨ (f.data.length : Int) < n
      · have hv : S.cut s.data.toList n = (1, S) := by simp [St.cut, hnm, hg, hbad]
        rw [hv]
        clear hL hv hkv
        by_cases hn0 : n < 0
        · go_enter Try.func13, Try.ntmps13
          go_wp2_with (go_at_call 41; refine hK.mono ?_; rintro e w1 ⟨rfl, hb1⟩)
          go_ret
          exact ⟨rfl, ⟨v, fused, left, HL.out.below (hb1.alloc hb1.size _), hF, hok⟩, Only.of_below (hb1.alloc hb1.size _)⟩
        · have hn1 : (f.data.length : Int) < n := by omega
          have hn1' : ((txt f.data).size : Int) < n := by rw [hsz]; exact hn1
          go_enter Try.func13, Try.ntmps13
          go_wp2_with (go_at_call 41; refine hK.mono ?_; rintro e w1 ⟨rfl, hb1⟩)
          go_ret
          exact ⟨rfl, ⟨v, fused, left, HL.out.below (hb1.alloc hb1.size _), hF, hok⟩, Only.of_below (hb1.alloc hb1.size _)⟩
      · obtain ⟨m, rfl⟩ : ∃ m : Nat, n = (m : Int) := ⟨n.toNat, by omega⟩
        have hm : m ≤ f.data.length := by omega
        have hv : S.cut s.data.toList (m : Int) = S.do (putL s.data.toList ⟨f.data.take m, min f.safe m⟩) := by simp only [St.cut, hnm, hg]; rw [if_neg (by simp), if_neg hbad]; simp
        rw [hv] at HOK ⊢
        clear hv hkv hbad
        have i0 : (0 : Int) ≤ (m : Int) := by omega
        have i1 : (m : Int) ≤ ((txt f.data).size : Int) := by rw [hsz]; omega
        cases ht : (taken S.fuse S.down).1
        · rw [do_no ht] at HOK ⊢
          have hR := ready_at ht hL hF
          clear hL
          go_enter Try.func13, Try.ntmps13
          go_wp2_with fail
          refine hK.mono ?_
          rintro e w1 ⟨rfl, hb1⟩
          clear hK
          go_wp2_with fail
          refine (hR _ (hb1.alloc hb1.size _)).mono ?_
          rintro e w2 ⟨left', rfl, hL2, hF2, ho2, -⟩
          clear hR
          go_wp2
          go_ret
          exact ⟨rfl, ⟨v, fused, left', hL2, hF2, HOK.out⟩, (Only.of_below (hb1.alloc hb1.size _)).trans ho2⟩
        · rw [do_yes ht] at HOK ⊢
          have hR := ready_at ht hL hF
          have hlr := fun g hg' => hL.rowLt (g := g) hg'
          have hlb := hL.lt
          clear hL
          go_enter Try.func13, Try.ntmps13
          go_wp2_with fail
          refine hK.mono ?_
          rintro e w1 ⟨rfl, hb1⟩
          clear hK
          have hz1 := hb1.size
          go_wp2_with fail
          refine (hR _ (hb1.alloc hb1.size _)).mono ?_
          rintro e w2 ⟨left', rfl, hL2, hF2, ho2, hg2⟩
          have hoo := (Only.of_below (own := own) (hb1.alloc hb1.size (.cells #[.string (txt s.data.toList), .string (txt f.data), .int .i64 f.safe] RFil))).trans ho2
          have hnb : br ≠ w1.heap.size := by omega
          have hblk : w2.heap[w1.heap.size]? = some (.cells #[.string (txt s.data.toList), .string (txt f.data), .int .i64 f.safe] RFil (0, 0)) := (hg2.block _ (by simp) (fun e => hnb (by simpa using e.symm))).trans (heap_alloc_new w1 _)
          have k0 : w2.cell? ⟨w1.heap.size, 0, none⟩ = some (.string (txt s.data.toList)) := cell_of_block hblk 0
          have k1 : w2.cell? ⟨w1.heap.size, 1, none⟩ = some (.string (txt f.data)) := cell_of_block hblk 1
          have k2 : w2.cell? ⟨w1.heap.size, 2, none⟩ = some (.int .i64 f.safe) := cell_of_block hblk 2
          have z1 := unfrozen_of_block hblk 1
          have z2 := unfrozen_of_block hblk 2
          clear hR ho2
          have hL4 := (hL2.setOther hnb (fun g' hg' => by have := hlr g' hg'; omega) 1 (.string ((txt f.data).extract 0 m))).setOther hnb (fun g' hg' => by have := hlr g' hg'; omega) 2 (.int .i64 (min (f.safe : Int) (m : Int)))
          have hO4 : Only own w2 ((w2.setCell ⟨w1.heap.size, 1, none⟩ (.string ((txt f.data).extract 0 m))).setCell ⟨w1.heap.size, 2, none⟩ (.int .i64 (min (f.safe : Int) (m : Int)))) := (Only.of_set w2 (a := ⟨w1.heap.size, 1, none⟩) (hfr _ hz1) _).trans (Only.of_set _ (a := ⟨w1.heap.size, 2, none⟩) (hfr _ hz1) _)
          have hP := rPut_any _ hL4 (hfr.later (Nat.le_trans hoo.size hO4.size)) hok.many hok.rising s.data.toList ⟨f.data.take m, min f.safe m⟩
          have hmin : ((min f.safe m : Nat) : Int) = min (f.safe : Int) (m : Int) := by omega
          simp only [fval, hmin] at hP
          rw [← txt_cut] at hP
          have HO4 := hide hO4
          clear hL4 hO4 hL2
          go_wp2_with fail
          refine hP.mono ?_
          rintro e w5 ⟨rfl, ⟨v5, hL5⟩, ho5⟩
          clear hP k0 k1 k2 z1 z2
          go_wp2
          go_ret
          exact ⟨rfl, ⟨v5, fused, left', hL5, hF2, HOK.out⟩, (hoo.trans HO4.out).trans ho5⟩

end Go.Proofs.Ytokcknfbanpjjaa.Dk
