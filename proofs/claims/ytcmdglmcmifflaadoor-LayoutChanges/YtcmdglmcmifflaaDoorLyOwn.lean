/- Walks over layout.go: Owner. -/
import Derived.Test.YtcmdglmcmifflaaDoorLyChk
import Derived.Test.YtcmdglmcmifflaaDoorRgOwn
namespace Go.Proofs.YtcmdglmcmifflaaDoor.Ly
open Go.RowKit Go.Joins Go.Sort Gk Rg

/-- the weights by which a key lies -/
def Ch.past (c : Ch) (key : ByteArray) : Bool := isEnd c.cur c.done || bl key c.cur
def Ch.ows (c : Ch) (key : ByteArray) : List Int := if c.past key then c.will.ws else c.was.ws
/-- what Owner answers -/
def OwnPost (w : World) (c : Ch) (key : ByteArray) (e : Ending) (w' : World) : Prop := Below w.heap.size w w' ∧
  ((c.may = false ∧ e = .returned (.tuple #[.int .i64 0, .int .i64 70])) ∨ (c.may = true ∧ e = .returned (.tuple #[.int .i64 (ow (c.ows key) (hashL key.data.toList)), .int .i64 0])))

theorem Ch.may_was {c : Ch} (h : c.may = true) : May c.was.ws := (La.may_iff.1 (by rw [Ch.may] at h; simp only [Bool.and_eq_true] at h; exact h.1)).2.2
theorem Ch.may_will {c : Ch} (h : c.may = true) : May c.will.ws := (La.may_iff.1 (by rw [Ch.may] at h; simp only [Bool.and_eq_true] at h; exact h.2.1)).2.2

set_option maxHeartbeats 6400000 in
set_option maxRecDepth 100000 in
theorem own_call (c : Ch) (key : ByteArray) (w : World) (h : c.At w) (hs : c.cur.size ≤ 9223372036854775807) (hk : key.size ≤ 9223372036854775807) (hT : Tab w) :
    Calls Tryd.prog 13 #[c.val, .string key] w fun e w' => OwnPost w c key e w' := by
  have hK := fun (W : World) (hg : Below w.heap.size w W) => check_any c W (h.below hg) hs
  have hS := fun (W : World) => stands_any c W
  have hP := fun (W : World) => isPast_any c.cur c.done key W
  have hO1 := fun (W : World) (hg : Below w.heap.size w W) (hm : c.may = true) => of_ow c.was.a c.was.c c.was.ws (Ch.may_was hm) key hk W (h.h1.lies.below hg) (hT.below hg)
  have hO2 := fun (W : World) (hg : Below w.heap.size w W) (hm : c.may = true) => of_ow c.will.a c.will.c c.will.ws (Ch.may_will hm) key hk W (h.h2.lies.below hg) (hT.below hg)
  have HBX := hide (Ch.Box.new c 37 w)
  have hG0 : Below w.heap.size w (w.alloc (.cells c.cells 37)) := below_alloc1 _ _
  obtain ⟨W0, hW0⟩ : ∃ W0, w.alloc (.cells c.cells 37) = W0 := ⟨_, rfl⟩
  have HW := hide hW0
  rw [hW0] at HBX hG0
  clear hW0 h
  obtain ⟨b, hb⟩ : ∃ b, w.heap.size = b := ⟨_, rfl⟩
  have HBb := hide hb
  rw [hb] at HBX
  clear hb
  have HE := hide (show c.chk = if c.may = true then 0 else 70 from rfl)
  obtain ⟨z, hz⟩ : ∃ z, c.chk = z := ⟨_, rfl⟩
  rw [hz] at HE hK
  clear hz
  have HY := hide (fun (h : c.past key = true) => (show c.ows key = c.will.ws by rw [Ch.ows, if_pos h]))
  have HN := hide (fun (h : ¬ c.past key = true) => (show c.ows key = c.was.ws by rw [Ch.ows, if_neg h]))
  obtain ⟨p, hp⟩ : ∃ p, c.past key = p := ⟨_, rfl⟩
  have hp' : (isEnd c.cur c.done || bl key c.cur) = p := hp
  rw [hp] at HY HN
  rw [hp'] at hP
  clear hp hp'
  obtain ⟨m, hm⟩ : ∃ m, c.may = m := ⟨_, rfl⟩
  have HM := hide hm
  rw [hm] at HE hO1 hO2
  clear hm
  obtain ⟨PP, hPP⟩ : ∃ PP, OwnPost w c key = PP := ⟨_, rfl⟩
  have HPP := hide hPP
  rw [hPP]
  clear hPP
  generalize hhh : hashL key.data.toList = hh at hO1 hO2
  have HH := hide hhh
  clear hhh
  obtain ⟨⟨v, a, n, ws⟩, ⟨v', a', n', ws'⟩, t, d⟩ := c
  dsimp only [Ch.val, Ch.cells] at *
  generalize hx1 : ow ws hh = x1 at hO1
  generalize hx2 : ow ws' hh = x2 at hO2
  have X1 := hide hx1
  have X2 := hide hx2
  clear hx1 hx2
  go_enter Tryd.func13, Tryd.ntmps13
  go_wp2_with fail
  rw [HW.out, HBb.out]
  refine (hK W0 hG0).mono ?_
  rintro e w1 ⟨rfl, hg1⟩
  have hB1 : Below w.heap.size w w1 := hG0.trans (hg1.below.mono hG0.size)
  replace HBX := hide (HBX.out.gr hg1)
  clear hg1 HW hG0
  cases m
  · have hz70 : z = 70 := HE.out
    subst hz70
    go_wp2
    rw [← HPP.out]
    exact ⟨hB1, Or.inl ⟨HM.out, rfl⟩⟩
  · have hz0 : z = 0 := HE.out
    replace hO1 := fun W h => hO1 W h rfl
    replace hO2 := fun W h => hO2 W h rfl
    subst hz0
    have k0 := HBX.out.c0; have k1 := HBX.out.c1; have k2 := HBX.out.c2; have k3 := HBX.out.c3; have k4 := HBX.out.c4; have k5 := HBX.out.c5
    dsimp only at k0 k1 k2 k3 k4 k5
    go_wp2_with fail
    refine (hS w1).mono ?_
    rintro e w2 ⟨rfl, hg2⟩
    go_wp2_with fail
    refine (hP w2).mono ?_
    rintro e w3 ⟨rfl, hg3⟩
    have hB3 : Below w.heap.size w w3 := hB1.trans ((hg2.trans hg3).below.mono hB1.size)
    replace HBX := hide (HBX.out.gr (hg2.trans hg3))
    clear hg2 hg3 k0 k1 k2 k3 k4 k5
    have k1 := HBX.out.c1; have k3 := HBX.out.c3
    dsimp only at k1 k3
    cases p
    · go_wp2_with fail
      refine (hO1 w3 hB3).mono ?_
      rintro e w4 ⟨rfl, hb4⟩
      go_wp2
      rw [← HPP.out]
      exact ⟨hB3.trans (hb4.mono hB3.size), Or.inr ⟨HM.out, by show Ending.returned (.tuple #[.int .i64 x1, .int .i64 0]) = _; rw [HN.out (by simp), HH.out, X1.out]⟩⟩
    · go_wp2_with fail
      refine (hO2 w3 hB3).mono ?_
      rintro e w4 ⟨rfl, hb4⟩
      go_wp2
      rw [← HPP.out]
      exact ⟨hB3.trans (hb4.mono hB3.size), Or.inr ⟨HM.out, by show Ending.returned (.tuple #[.int .i64 x2, .int .i64 0]) = _; rw [HY.out (by simp), HH.out, X2.out]⟩⟩

end Go.Proofs.YtcmdglmcmifflaaDoor.Ly
