/- Layer 7, the document's answer: changes: Owner, To, End. -/
import Derived.Test.YtcmdglmcmifflaaDoorLrCh
namespace Go.Proofs.YtcmdglmcmifflaaDoor.Ly
open Go.RowKit Go.Joins Go.Sort Gk Rg

/-- the weights by which a key lies, as the document has it -/
def Ch.rws (c : Ch) (key : ByteArray) : List Int := if c.done || bl key c.cur then c.will.ws else c.was.ws
theorem Ch.mayWas {c : Ch} (h : c.may = true) : May c.was.ws := (La.may_iff.1 (by rw [Ch.may] at h; simp only [Bool.and_eq_true] at h; exact h.1)).2.2
theorem Ch.mayWill {c : Ch} (h : c.may = true) : May c.will.ws := (La.may_iff.1 (by rw [Ch.may] at h; simp only [Bool.and_eq_true] at h; exact h.2.1)).2.2

set_option maxRecDepth 100000 in
set_option maxHeartbeats 1600000 in
theorem owner_ref (c : Ch) (key : ByteArray) (w : World) (h : c.At w) (hs : c.cur.size ≤ 9223372036854775807) (hk : key.size ≤ 9223372036854775807) :
    Calls Tryd.prog 14 #[c.val, .string key] w fun e w' => RowKit.Below w.heap.size w w' ∧
      ((c.may = false ∧ e = .returned (.tuple #[.int .i64 0, .int .i64 70])) ∨ (c.may = true ∧ e = .returned (.tuple #[.int .i64 (Rf.fnd (hashL key.data.toList) (Rf.insAll (pts (c.rws key)))), .int .i64 0]))) := by
  have hb0 := below_b1 w (.cells c.cells RCT)
  have hx0 := Ch.Box.new c RCT w
  have hM := cmay_ref c _ (h.below hb0) hs
  cases hm : c.may
  · rw [hm] at hM
    go_enter Tryd.func14, Tryd.ntmps14
    go_wp2_with fail
    refine hM.mono ?_
    rintro e w1 ⟨rfl, hb1⟩
    have hb2 := hb0.trans (hb1.mono hb0.size)
    go_wp2
    go_ret2
    first
      | exact ⟨hb2, Or.inl ⟨trivial, rfl⟩⟩
      | exact ⟨hb2, Or.inl rfl⟩
      | exact ⟨hb2, rfl⟩
  · rw [hm] at hM
    have hW1 := Ch.mayWas hm
    have hW2 := Ch.mayWill hm
    have hbl := less_bl key c.cur
    clear hm
    cases hd : c.done
    · cases hB : bl key c.cur
      · rw [hB] at hbl
        rw [show c.rws key = c.was.ws by unfold Ch.rws; rw [hd, hB]; rfl]
        have HD := hide hd
        clear hd hB
        go_enter Tryd.func14, Tryd.ntmps14
        go_wp2_with fail
        refine hM.mono ?_
        rintro e w1 ⟨rfl, hb1⟩
        have hb2 := hb0.trans (hb1.mono hb0.size)
        have hx1 : c.Box RCT w.heap.size w1 := ⟨(hb1.block _ hx0.lt).trans hx0.blk⟩
        have c1 := hx1.c1
        have c3 := hx1.c3
        have c4 := hx1.c4
        have c5 := hx1.c5
        rw [HD.out] at c5
        have hO := Rf.of_ref c.was.a c.was.c c.was.ws hW1 key hk w1 (h.h1.lies.below hb2)
        clear hM hx0 hb1
        go_wp2_with fail
        refine hO.mono ?_
        rintro e w2 ⟨rfl, hb3⟩
        have hb4 := hb2.trans (hb3.mono hb2.size)
        clear hO hb3
        go_wp2
        go_ret2
        first
          | exact ⟨hb4, Or.inr ⟨trivial, rfl⟩⟩
          | exact ⟨hb4, Or.inr rfl⟩
          | exact ⟨hb4, rfl⟩
      · rw [hB] at hbl
        rw [show c.rws key = c.will.ws by unfold Ch.rws; rw [hd, hB]; rfl]
        have HD := hide hd
        clear hd hB
        go_enter Tryd.func14, Tryd.ntmps14
        go_wp2_with fail
        refine hM.mono ?_
        rintro e w1 ⟨rfl, hb1⟩
        have hb2 := hb0.trans (hb1.mono hb0.size)
        have hx1 : c.Box RCT w.heap.size w1 := ⟨(hb1.block _ hx0.lt).trans hx0.blk⟩
        have c1 := hx1.c1
        have c3 := hx1.c3
        have c4 := hx1.c4
        have c5 := hx1.c5
        rw [HD.out] at c5
        have hO := Rf.of_ref c.will.a c.will.c c.will.ws hW2 key hk w1 (h.h2.lies.below hb2)
        clear hM hx0 hb1
        go_wp2_with fail
        refine hO.mono ?_
        rintro e w2 ⟨rfl, hb3⟩
        have hb4 := hb2.trans (hb3.mono hb2.size)
        clear hO hb3
        go_wp2
        go_ret2
        first
          | exact ⟨hb4, Or.inr ⟨trivial, rfl⟩⟩
          | exact ⟨hb4, Or.inr rfl⟩
          | exact ⟨hb4, rfl⟩
    · rw [show c.rws key = c.will.ws by unfold Ch.rws; rw [hd]; rfl]
      have HD := hide hd
      clear hd
      go_enter Tryd.func14, Tryd.ntmps14
      go_wp2_with fail
      refine hM.mono ?_
      rintro e w1 ⟨rfl, hb1⟩
      have hb2 := hb0.trans (hb1.mono hb0.size)
      have hx1 : c.Box RCT w.heap.size w1 := ⟨(hb1.block _ hx0.lt).trans hx0.blk⟩
      have c1 := hx1.c1
      have c3 := hx1.c3
      have c4 := hx1.c4
      have c5 := hx1.c5
      rw [HD.out] at c5
      have hO := Rf.of_ref c.will.a c.will.c c.will.ws hW2 key hk w1 (h.h2.lies.below hb2)
      clear hM hx0 hb1
      go_wp2_with fail
      refine hO.mono ?_
      rintro e w2 ⟨rfl, hb3⟩
      have hb4 := hb2.trans (hb3.mono hb2.size)
      clear hO hb3
      go_wp2
      go_ret2
      first
        | exact ⟨hb4, Or.inr ⟨trivial, rfl⟩⟩
        | exact ⟨hb4, Or.inr rfl⟩
        | exact ⟨hb4, rfl⟩

end Go.Proofs.YtcmdglmcmifflaaDoor.Ly
