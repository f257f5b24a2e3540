/- Walks over skylarkref02: Remove, Rename, Cut, Append. -/
import Derived.Test.YtokcknfbanpjjaaEPutC
namespace Go.Proofs.Ytokcknfbanpjjaa.Dk
open Go.RowKit Go.Maps Go.Joins Gk

theorem Only.of_grown_br {own : Nat → Prop} {w w' : World} {br : Nat} (h : w.grownBy w' (some br)) (ho : own br) : Only own w w' :=
  Only.of_grown h fun k e => by cases e; exact ho

theorem do_no {S : St} {g : Fls → Fls} (h : (taken S.fuse S.down).1 = false) : S.do g = (21, S.take.2) := by
  unfold St.do; rw [if_neg]; show ¬ (taken S.fuse S.down).1 = true; rw [h]; simp
theorem do_yes {S : St} {g : Fls → Fls} (h : (taken S.fuse S.down).1 = true) : S.do g = (0, { S.take.2 with files := g S.files }) := by
  unfold St.do; rw [if_pos]; exact h

/-- ready, in whatever world comes behind -/
theorem ready_at {w : World} {own : Nat → Prop} {br : Nat} {S : St} {v : Value} {fused : Bool} {left : Int} {b : Bool} (ht : (taken S.fuse S.down).1 = b) (hL : RHeldL w own br S.room S.files v fused left S.down) (hF : FuseIs S.fuse fused left) (W : World) (hb : Below w.heap.size w W) :
    Calls Try.prog 37 #[.pointer (some ⟨br, 0, none⟩)] W fun e w' => ∃ left', e = .returned (.bool b) ∧ RHeldL w' own br S.take.2.room S.take.2.files v fused left' S.take.2.down ∧ FuseIs S.take.2.fuse fused left' ∧ Only own W w' ∧ W.grownBy w' (some br) := by
  have := ready_any W (hL.below hb) hF
  rw [ht] at this
  refine this.mono ?_
  rintro e w' ⟨left', rfl, h1, h2, h3⟩
  exact ⟨left', rfl, h1, h2, Only.of_grown_br h3 hL.ownD, h3⟩

set_option maxHeartbeats 1600000 in
theorem rRemove_any {own : Nat → Prop} {br : Nat} {S : St} (w : World) (h : RHeld w own br S) (hfr : Fresh own w) (s : ByteArray) (hs : s.size ≤ 140737488351232) :
    Calls Try.prog 19 #[.pointer (some ⟨br, 0, none⟩), .string s] w fun e w' => e = .returned (.int .i64 (S.remove s.data.toList).1) ∧ RHeld w' own br (S.remove s.data.toList).2 ∧ Only own w w' := by
  obtain ⟨v, fused, left, hL, hF, hok⟩ := h
  have HOK := hide (hok.remove s.data.toList)
  have hK := known_any w hL hok.many hok.rising s hs
  cases hnm : named s.data.toList
  · have hv : S.remove s.data.toList = (20, S) := by simp [St.remove, hnm]
    have hkv : knownV S.files s.data.toList = .tuple #[RV3 ⟨#[]⟩ ⟨#[]⟩ 0, .int .i64 20] := by simp [knownV, hnm]
    rw [hv]
    rw [hkv] at hK
    have HL := hide hL
    clear hL hv hkv
    go_enter Try.func19, Try.ntmps19
    go_wp2_with (go_at_call 41; refine hK.mono ?_; rintro e w1 ⟨rfl, hb1⟩)
    go_ret
    exact ⟨rfl, ⟨v, fused, left, HL.out.below (hb1.alloc hb1.size _), hF, hok⟩, Only.of_below (hb1.alloc hb1.size _)⟩
  · cases hg : getL s.data.toList S.files with
    | none =>
      have hv : S.remove s.data.toList = (5, S) := by simp [St.remove, hnm, hg]
      have hkv : knownV S.files s.data.toList = .tuple #[RV3 ⟨#[]⟩ ⟨#[]⟩ 0, .int .i64 5] := by simp [knownV, hnm, hg]
      rw [hv]
      rw [hkv] at hK
      have HL := hide hL
      clear hL hv hkv
      go_enter Try.func19, Try.ntmps19
      go_wp2_with (go_at_call 41; refine hK.mono ?_; rintro e w1 ⟨rfl, hb1⟩)
      go_ret
      exact ⟨rfl, ⟨v, fused, left, HL.out.below (hb1.alloc hb1.size _), hF, hok⟩, Only.of_below (hb1.alloc hb1.size _)⟩
    | some f =>
      have hv : S.remove s.data.toList = S.do (delL s.data.toList) := by simp [St.remove, hnm, hg]
      have hkv : knownV S.files s.data.toList = .tuple #[RV3 (txt s.data.toList) (txt f.data) f.safe, .int .i64 0] := by simp [knownV, hnm, hg]
      rw [hv] at HOK ⊢
      rw [hkv] at hK
      have HL := hide hL
      clear hv hkv
      cases ht : (taken S.fuse S.down).1
      · rw [do_no ht] at HOK ⊢
        have hR := ready_at ht hL hF
        clear hL
        go_enter Try.func19, Try.ntmps19
        go_wp2_with fail
        refine hK.mono ?_
        rintro e w1 ⟨rfl, hb1⟩
        clear hK
        go_wp2_with fail
        refine (hR _ (hb1.alloc hb1.size _)).mono ?_
        rintro e w2 ⟨left', rfl, hL2, hF2, ho2, -⟩
        clear hR
        go_wp2
        go_ret
        exact ⟨rfl, ⟨v, fused, left', hL2, hF2, HOK.out⟩, (Only.of_below (hb1.alloc hb1.size _)).trans ho2⟩
      · rw [do_yes ht] at HOK ⊢
        have hR := ready_at ht hL hF
        clear hL
        go_enter Try.func19, Try.ntmps19
        go_wp2_with fail
        refine hK.mono ?_
        rintro e w1 ⟨rfl, hb1⟩
        clear hK
        go_wp2_with fail
        refine (hR _ (hb1.alloc hb1.size _)).mono ?_
        rintro e w2 ⟨left', rfl, hL2, hF2, ho2, -⟩
        have hoo := (Only.of_below (own := own) (hb1.alloc hb1.size _)).trans ho2
        have hD := rDrop_any w2 hL2 (hfr.later hoo.size) hok.many hok.rising s
        clear hR ho2
        go_wp2_with fail
        refine hD.mono ?_
        rintro e w3 ⟨rfl, ⟨v3, hL3⟩, ho3⟩
        clear hD
        go_wp2
        go_ret
        exact ⟨rfl, ⟨v3, fused, left', hL3, hF2, HOK.out⟩, hoo.trans ho3⟩

end Go.Proofs.Ytokcknfbanpjjaa.Dk
