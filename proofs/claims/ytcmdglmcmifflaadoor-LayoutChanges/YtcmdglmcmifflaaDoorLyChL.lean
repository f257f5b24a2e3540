/- LayoutChanges: the law. -/
import Derived.Test.YtcmdglmcmifflaaDoorLyChP
import Derived.Deep.CutRange
import Derived.Deep.CutBlock
import Derived.Deep.RegionHeld3
namespace Go.Proofs.YtcmdglmcmifflaaDoor.Ly
open Go.RowKit Go.Joins Go.Sort Gk Rg Rf

theorem LB.drew {w : World} {c T1 T2 : Ch} {L1 L2 : La} {cb xb yb tb ib lb mb : Nat} {W : World} (h : LB w c T1 T2 L1 L2 cb xb yb tb ib lb mb W) : LB w c T1 T2 L1 L2 cb xb yb tb ib lb mb W.drew := h.below (RowKit.Below.refl _ _).drew
theorem six {w : World} {b T : Nat} (h : w.heap[b]? = some (.cells zcells T (0, 0))) :
    (w.cell? ⟨b, 0, none⟩ = some (.int .i64 0) ∧ w.cell? ⟨b, 1, none⟩ = some (.slice none 0 0) ∧ w.cell? ⟨b, 2, none⟩ = some (.int .i64 0) ∧ w.cell? ⟨b, 3, none⟩ = some (.slice none 0 0) ∧ w.cell? ⟨b, 4, none⟩ = some (.string ⟨#[]⟩) ∧ w.cell? ⟨b, 5, none⟩ = some (.bool false)) ∧
    (w.frozen? ⟨b, 0, none⟩ = false ∧ w.frozen? ⟨b, 1, none⟩ = false ∧ w.frozen? ⟨b, 2, none⟩ = false ∧ w.frozen? ⟨b, 3, none⟩ = false ∧ w.frozen? ⟨b, 4, none⟩ = false ∧ w.frozen? ⟨b, 5, none⟩ = false) :=
  ⟨⟨cell6 h 0 rfl, cell6 h 1 rfl, cell6 h 2 rfl, cell6 h 3 rfl, cell6 h 4 rfl, cell6 h 5 rfl⟩, unfrozen_of_block h 0, unfrozen_of_block h 1, unfrozen_of_block h 2, unfrozen_of_block h 3, unfrozen_of_block h 4, unfrozen_of_block h 5⟩
theorem sixA {w : World} {b T : Nat} (h : w.heap[b]? = some (.cells zcells T (0, 0))) (o : Obj) :
    ((w.alloc o).cell? ⟨b, 0, none⟩ = some (.int .i64 0) ∧ (w.alloc o).cell? ⟨b, 1, none⟩ = some (.slice none 0 0) ∧ (w.alloc o).cell? ⟨b, 2, none⟩ = some (.int .i64 0) ∧ (w.alloc o).cell? ⟨b, 3, none⟩ = some (.slice none 0 0) ∧ (w.alloc o).cell? ⟨b, 4, none⟩ = some (.string ⟨#[]⟩) ∧ (w.alloc o).cell? ⟨b, 5, none⟩ = some (.bool false)) ∧
    ((w.alloc o).frozen? ⟨b, 0, none⟩ = false ∧ (w.alloc o).frozen? ⟨b, 1, none⟩ = false ∧ (w.alloc o).frozen? ⟨b, 2, none⟩ = false ∧ (w.alloc o).frozen? ⟨b, 3, none⟩ = false ∧ (w.alloc o).frozen? ⟨b, 4, none⟩ = false ∧ (w.alloc o).frozen? ⟨b, 5, none⟩ = false) :=
  six ((heap_alloc_old _ _ (Array.getElem?_eq_some_iff.1 h).1).trans h)
theorem ltB {w : World} {b : Nat} {o : Obj} (h : w.heap[b]? = some o) : ¬ b = w.heap.size ∧ ¬ w.heap.size = b := by
  have := (Array.getElem?_eq_some_iff.1 h).1
  omega
theorem keepB {a b : World} {x : Nat} {o : Obj} (hg : Gr a b) (h : a.heap[x]? = some o) : b.heap[x]? = some o := (hg.below.block x (Array.getElem?_eq_some_iff.1 h).1).trans h
theorem blk1 {U w1 : World} {o : Obj} (hg : Gr (U.alloc o) w1) : w1.heap[U.heap.size]? = some o := keepB hg (heap_alloc_new U o)
theorem blk1d {U w1 : World} {o : Obj} (hg : Gr (U.alloc o).drew w1) : w1.heap[U.heap.size]? = some o := keepB hg (heap_alloc_new U o)
theorem blk2ad {U w1 : World} {o o' : Obj} (hg : Gr ((U.alloc o).alloc o').drew w1) : w1.heap[U.heap.size]? = some o := keepB hg ((heap_alloc_old _ _ (by simp)).trans (heap_alloc_new U o))
theorem blk2bd {U w1 : World} {o o' : Obj} (hg : Gr ((U.alloc o).alloc o').drew w1) : w1.heap[U.heap.size + 1]? = some o' := by
  have h0 := heap_alloc_new (U.alloc o) o'
  rw [World.size_alloc] at h0
  exact keepB hg h0
theorem blk2a {U w1 : World} {o o' : Obj} (hg : Gr ((U.alloc o).alloc o') w1) : w1.heap[U.heap.size]? = some o := keepB hg ((heap_alloc_old _ _ (by simp)).trans (heap_alloc_new U o))
theorem blk2b {U w1 : World} {o o' : Obj} (hg : Gr ((U.alloc o).alloc o') w1) : w1.heap[U.heap.size + 1]? = some o' := by
  have := keepB hg (heap_alloc_new (U.alloc o) o')
  rwa [World.size_alloc] at this
theorem allocB {w : World} {b : Nat} {o o' : Obj} (h : w.heap[b]? = some o) : (w.alloc o').heap[b]? = some o := (heap_alloc_old _ _ (Array.getElem?_eq_some_iff.1 h).1).trans h
theorem newB2 {w : World} {o o' : Obj} : ((w.alloc o).alloc o').heap[w.heap.size + 1]? = some o' := by
  have h := heap_alloc_new (w.alloc o) o'
  rwa [World.size_alloc] at h
abbrev Ch.set (c : Ch) (W : World) (b : Nat) : World := set6 W b (.int .i64 c.was.v) (.slice c.was.a c.was.ws.length c.was.c) (.int .i64 c.will.v) (.slice c.will.a c.will.ws.length c.will.c) (.string c.cur) (.bool c.done)
/-- what the first region leaves -/
abbrev Lf (c : Ch) (w : World) (cb xb yb : Nat) (W : World) : Prop := c.Box LCT cb W ∧ c.Box CT xb W ∧ c.Box RCT yb W ∧ RowKit.Below cb w W
theorem obj_ne {W : World} {a b : Nat} {cs cs' : Array Value} {T T' : TypeId} (h : W.heap[a]? = some (.cells cs T (0, 0))) (h' : W.heap[b]? = some (.cells cs' T' (0, 0))) (hT : T ≠ T') : a ≠ b := by
  intro e; rw [e, h'] at h; cases h; exact hT rfl
section
variable {c : Ch} {w V : World} {cb xb yb : Nat} (ho : c.Box LCT cb V) (hw : RowKit.Below cb w V)
include ho hw
theorem lf0 (hx : c.Box CT xb V) (hy : c.Box RCT yb V) : Lf c w cb xb yb V := ⟨ho, hx, hy, hw⟩
theorem lfx (hx : V.heap[xb]? = some (.cells zcells CT (0, 0))) (hy : c.Box RCT yb V) (hc : cb ≤ xb) : Lf c w cb xb yb (c.set V xb) :=
  ⟨⟨(set6_other V xb cb (obj_ne ho.blk hx (by decide)) ..).trans ho.blk⟩, ⟨set6_blk hx ..⟩, ⟨(set6_other V xb yb (obj_ne hy.blk hx (by decide)) ..).trans hy.blk⟩, set6_below hw hc ..⟩
theorem lfy (hx : c.Box CT xb V) (hy : V.heap[yb]? = some (.cells zcells RCT (0, 0))) (hc : cb ≤ yb) : Lf c w cb xb yb (c.set V yb) :=
  ⟨⟨(set6_other V yb cb (obj_ne ho.blk hy (by decide)) ..).trans ho.blk⟩, ⟨(set6_other V yb xb (obj_ne hx.blk hy (by decide)) ..).trans hx.blk⟩, ⟨set6_blk hy ..⟩, set6_below hw hc ..⟩
theorem lfxy (hx : V.heap[xb]? = some (.cells zcells CT (0, 0))) (hy : V.heap[yb]? = some (.cells zcells RCT (0, 0))) (hc : cb ≤ xb) (hd : cb ≤ yb) : Lf c w cb xb yb (c.set (c.set V xb) yb) :=
  lfy (V := c.set V xb) ⟨(set6_other V xb cb (obj_ne ho.blk hx (by decide)) ..).trans ho.blk⟩ (set6_below hw hc ..) ⟨set6_blk hx ..⟩ ((set6_other V xb yb (obj_ne hy hx (by decide)) ..).trans hy) hd
theorem lfyx (hx : V.heap[xb]? = some (.cells zcells CT (0, 0))) (hy : V.heap[yb]? = some (.cells zcells RCT (0, 0))) (hc : cb ≤ xb) (hd : cb ≤ yb) : Lf c w cb xb yb (c.set (c.set V yb) xb) :=
  lfx (V := c.set V yb) ⟨(set6_other V yb cb (obj_ne ho.blk hy (by decide)) ..).trans ho.blk⟩ (set6_below hw hd ..) ((set6_other V yb xb (obj_ne hx hy (by decide)) ..).trans hx) ⟨set6_blk hy ..⟩ hc
end
set_option maxRecDepth 100000 in
set_option maxHeartbeats 80000000 in
theorem changes_law (c : Ch) (key : ByteArray) (cu : ByteArray) (w : World) (h : c.At w) (hs : c.cur.size ≤ 9223372036854775807) (hk : key.size ≤ 140737488351232) (hc : cu.size ≤ 140737488351232) (hT : Tab w) :
    Calls Tryd.prog 4 #[c.val, .string key, .string cu] w fun e w' => e = .returned (.bool true) ∧ RowKit.Below w.heap.size w w' := by
  have hx0 : c.Box LCT w.heap.size (w.alloc (.cells c.cells LCT)) := Ch.Box.new c LCT w
  have hb0 := below_b1 w (.cells c.cells LCT)
  have HX0 := hide (And.intro hx0 hb0)
  have HH := hide (And.intro h hT)
  go_enter Tryd.func4, Tryd.ntmps4
  go_upto_region 1 with fail
  have a0 := hx0.c0
  have a1 := hx0.c1
  have a2 := hx0.c2
  have a3 := hx0.c3
  have a4 := hx0.c4
  have a5 := hx0.c5
  clear hx0 hb0 h hT
  generalize hcb : w.heap.size = cb at *
  generalize w.alloc (.cells c.cells LCT) = w0 at *
  go_cut [7, 8] from 21 to 142 (fun xv yv wc => ∃ xb yb : Nat, xv = .pointer (some ⟨xb, 0, none⟩) ∧ yv = .pointer (some ⟨yb, 0, none⟩) ∧ Lf c w cb xb yb wc)
  case first =>
    have hx0 := hide HX0.out.1
    have aA0 := fun o => ((hx0.out).below (below_b1 w0 o)).c0
    have aA1 := fun o => ((hx0.out).below (below_b1 w0 o)).c1
    have aA2 := fun o => ((hx0.out).below (below_b1 w0 o)).c2
    have aA3 := fun o => ((hx0.out).below (below_b1 w0 o)).c3
    have aA4 := fun o => ((hx0.out).below (below_b1 w0 o)).c4
    have aA5 := fun o => ((hx0.out).below (below_b1 w0 o)).c5
    have aB0 := fun o o' => (((hx0.out).below (below_b1 w0 o)).below (below_b1 (w0.alloc o) o')).c0
    have aB1 := fun o o' => (((hx0.out).below (below_b1 w0 o)).below (below_b1 (w0.alloc o) o')).c1
    have aB2 := fun o o' => (((hx0.out).below (below_b1 w0 o)).below (below_b1 (w0.alloc o) o')).c2
    have aB3 := fun o o' => (((hx0.out).below (below_b1 w0 o)).below (below_b1 (w0.alloc o) o')).c3
    have aB4 := fun o o' => (((hx0.out).below (below_b1 w0 o)).below (below_b1 (w0.alloc o) o')).c4
    have aB5 := fun o o' => (((hx0.out).below (below_b1 w0 o)).below (below_b1 (w0.alloc o) o')).c5
    go_region_law (first
      | (go_simp; go_at_call 11; refine (theirs_any c _).mono ?_; rintro e w1 ⟨rfl, hg1⟩; have G1 : Hid (Gr w0 w1) := (by first | exact (Gr.refl w0).drew.trans hg1 | exact ((Gr.refl w0).drew.alloc _).trans hg1 | exact (((Gr.refl w0).drew.alloc _).alloc _).trans hg1 | exact (((Gr.refl w0).alloc _).drew).trans hg1 | exact ((((Gr.refl w0).alloc _).alloc _).drew).trans hg1); have HX1 := hide (hx0.out.gr G1.out); have b0 := HX1.out.c0; have b1 := HX1.out.c1; have b2 := HX1.out.c2; have b3 := HX1.out.c3; have b4 := HX1.out.c4; have b5 := HX1.out.c5; have bA0 := fun o => ((HX1.out).below (below_b1 w1 o)).c0; have bA1 := fun o => ((HX1.out).below (below_b1 w1 o)).c1; have bA2 := fun o => ((HX1.out).below (below_b1 w1 o)).c2; have bA3 := fun o => ((HX1.out).below (below_b1 w1 o)).c3; have bA4 := fun o => ((HX1.out).below (below_b1 w1 o)).c4; have bA5 := fun o => ((HX1.out).below (below_b1 w1 o)).c5; have bB0 := fun o o' => (((HX1.out).below (below_b1 w1 o)).below (below_b1 (w1.alloc o) o')).c0; have bB1 := fun o o' => (((HX1.out).below (below_b1 w1 o)).below (below_b1 (w1.alloc o) o')).c1; have bB2 := fun o o' => (((HX1.out).below (below_b1 w1 o)).below (below_b1 (w1.alloc o) o')).c2; have bB3 := fun o o' => (((HX1.out).below (below_b1 w1 o)).below (below_b1 (w1.alloc o) o')).c3; have bB4 := fun o o' => (((HX1.out).below (below_b1 w1 o)).below (below_b1 (w1.alloc o) o')).c4; have bB5 := fun o o' => (((HX1.out).below (below_b1 w1 o)).below (below_b1 (w1.alloc o) o')).c5; (first | (have S1 : Gr (w0.alloc (.cells zcells CT)).drew w1 := hg1; have Q1 : Hid (w1.heap[w0.heap.size]? = some (.cells zcells CT (0, 0))) := hide (blk1d S1); clear S1; obtain ⟨qn1, qn2⟩ := ltB Q1.out) | (have S1 : Gr (w0.alloc (.cells zcells RCT)).drew w1 := hg1; have Q1 : Hid (w1.heap[w0.heap.size]? = some (.cells zcells RCT (0, 0))) := hide (blk1d S1); clear S1; obtain ⟨qn1, qn2⟩ := ltB Q1.out) | (have S1 : Gr ((w0.alloc (.cells zcells CT)).alloc (.cells zcells RCT)).drew w1 := hg1; have Q1 : Hid (w1.heap[w0.heap.size]? = some (.cells zcells CT (0, 0))) := hide (blk2ad S1); have Q2 : Hid (w1.heap[w0.heap.size + 1]? = some (.cells zcells RCT (0, 0))) := hide (blk2bd S1); clear S1; obtain ⟨qn1, qn2⟩ := ltB Q1.out; obtain ⟨qn3, qn4⟩ := ltB Q2.out) | (have S1 : Gr ((w0.alloc (.cells zcells RCT)).alloc (.cells zcells CT)).drew w1 := hg1; have Q1 : Hid (w1.heap[w0.heap.size]? = some (.cells zcells RCT (0, 0))) := hide (blk2ad S1); have Q2 : Hid (w1.heap[w0.heap.size + 1]? = some (.cells zcells CT (0, 0))) := hide (blk2bd S1); clear S1; obtain ⟨qn1, qn2⟩ := ltB Q1.out; obtain ⟨qn3, qn4⟩ := ltB Q2.out) | skip); clear hg1 aA0 aB0 aA1 aB1 aA2 aB2 aA3 aB3 aA4 aB4 aA5 aB5 a0 a1 a2 a3 a4 a5)
      | (go_simp; go_at_call 12; refine (ours_any c _).mono ?_; rintro e w2 ⟨rfl, hg2⟩; have G2 : Hid (Gr w1 w2) := (by first | exact hg2 | exact (Gr.alloc1 _ _).trans hg2 | exact ((Gr.alloc1 _ _).alloc _).trans hg2); (first | (have S1 : Gr (w1.alloc (.cells zcells CT)) w2 := hg2; have P0 := hide (blk1 S1); clear S1; obtain ⟨⟨pcc0, pcc1, pcc2, pcc3, pcc4, pcc5⟩, ⟨pcf0, pcf1, pcf2, pcf3, pcf4, pcf5⟩⟩ := six P0.out; have pcC0 := fun o => (sixA P0.out o).1.1; have pcC1 := fun o => (sixA P0.out o).1.2.1; have pcC2 := fun o => (sixA P0.out o).1.2.2.1; have pcC3 := fun o => (sixA P0.out o).1.2.2.2.1; have pcC4 := fun o => (sixA P0.out o).1.2.2.2.2.1; have pcC5 := fun o => (sixA P0.out o).1.2.2.2.2.2; have pcF0 := fun o => (sixA P0.out o).2.1; have pcF1 := fun o => (sixA P0.out o).2.2.1; have pcF2 := fun o => (sixA P0.out o).2.2.2.1; have pcF3 := fun o => (sixA P0.out o).2.2.2.2.1; have pcF4 := fun o => (sixA P0.out o).2.2.2.2.2.1; have pcF5 := fun o => (sixA P0.out o).2.2.2.2.2.2; obtain ⟨pn1, pn2⟩ := ltB P0.out) | (have S1 : Gr (w1.alloc (.cells zcells RCT)) w2 := hg2; have P0 := hide (blk1 S1); clear S1; obtain ⟨⟨pcc0, pcc1, pcc2, pcc3, pcc4, pcc5⟩, ⟨pcf0, pcf1, pcf2, pcf3, pcf4, pcf5⟩⟩ := six P0.out; have pcC0 := fun o => (sixA P0.out o).1.1; have pcC1 := fun o => (sixA P0.out o).1.2.1; have pcC2 := fun o => (sixA P0.out o).1.2.2.1; have pcC3 := fun o => (sixA P0.out o).1.2.2.2.1; have pcC4 := fun o => (sixA P0.out o).1.2.2.2.2.1; have pcC5 := fun o => (sixA P0.out o).1.2.2.2.2.2; have pcF0 := fun o => (sixA P0.out o).2.1; have pcF1 := fun o => (sixA P0.out o).2.2.1; have pcF2 := fun o => (sixA P0.out o).2.2.2.1; have pcF3 := fun o => (sixA P0.out o).2.2.2.2.1; have pcF4 := fun o => (sixA P0.out o).2.2.2.2.2.1; have pcF5 := fun o => (sixA P0.out o).2.2.2.2.2.2; obtain ⟨pn1, pn2⟩ := ltB P0.out) | (have S1 : Gr ((w1.alloc (.cells zcells CT)).alloc (.cells zcells RCT)) w2 := hg2; have P1 := hide (blk2a S1); have P2 := hide (blk2b S1); clear S1; obtain ⟨⟨pac0, pac1, pac2, pac3, pac4, pac5⟩, ⟨paf0, paf1, paf2, paf3, paf4, paf5⟩⟩ := six P1.out; obtain ⟨⟨pbc0, pbc1, pbc2, pbc3, pbc4, pbc5⟩, ⟨pbf0, pbf1, pbf2, pbf3, pbf4, pbf5⟩⟩ := six P2.out; obtain ⟨pn1, pn2⟩ := ltB P1.out) | (have S1 : Gr ((w1.alloc (.cells zcells RCT)).alloc (.cells zcells CT)) w2 := hg2; have P1 := hide (blk2a S1); have P2 := hide (blk2b S1); clear S1; obtain ⟨⟨pac0, pac1, pac2, pac3, pac4, pac5⟩, ⟨paf0, paf1, paf2, paf3, paf4, paf5⟩⟩ := six P1.out; obtain ⟨⟨pbc0, pbc1, pbc2, pbc3, pbc4, pbc5⟩, ⟨pbf0, pbf1, pbf2, pbf3, pbf4, pbf5⟩⟩ := six P2.out; obtain ⟨pn1, pn2⟩ := ltB P1.out) | skip); (first | (have R1 := hide (keepB G2.out Q1.out); have R2 := hide (keepB G2.out Q2.out); obtain ⟨⟨rac0, rac1, rac2, rac3, rac4, rac5⟩, ⟨raf0, raf1, raf2, raf3, raf4, raf5⟩⟩ := six R1.out; obtain ⟨⟨rbc0, rbc1, rbc2, rbc3, rbc4, rbc5⟩, ⟨rbf0, rbf1, rbf2, rbf3, rbf4, rbf5⟩⟩ := six R2.out; obtain ⟨rn1, rn2⟩ := ltB R1.out; obtain ⟨rn3, rn4⟩ := ltB R2.out) | (have R1 := hide (keepB G2.out Q1.out); obtain ⟨⟨rac0, rac1, rac2, rac3, rac4, rac5⟩, ⟨raf0, raf1, raf2, raf3, raf4, raf5⟩⟩ := six R1.out; have raC0 := fun o => (sixA R1.out o).1.1; have raC1 := fun o => (sixA R1.out o).1.2.1; have raC2 := fun o => (sixA R1.out o).1.2.2.1; have raC3 := fun o => (sixA R1.out o).1.2.2.2.1; have raC4 := fun o => (sixA R1.out o).1.2.2.2.2.1; have raC5 := fun o => (sixA R1.out o).1.2.2.2.2.2; have raF0 := fun o => (sixA R1.out o).2.1; have raF1 := fun o => (sixA R1.out o).2.2.1; have raF2 := fun o => (sixA R1.out o).2.2.2.1; have raF3 := fun o => (sixA R1.out o).2.2.2.2.1; have raF4 := fun o => (sixA R1.out o).2.2.2.2.2.1; have raF5 := fun o => (sixA R1.out o).2.2.2.2.2.2; obtain ⟨rn1, rn2⟩ := ltB R1.out) | skip); clear hg2 b0 bA0 bB0 b1 bA1 bB1 b2 bA2 bB2 b3 bA3 bB3 b4 bA4 bB4 b5 bA5 bB5))
    all_goals
      as_aux_lemma =>
        have HB2 := hide (hx0.out.gr (Gr.trans G1.out G2.out))
        have s1 := G1.out.below.size
        have s2 := G2.out.below.size
        have s0 := hx0.out.lt
        have HW2 := hide (HX0.out.2.trans ((Gr.trans G1.out G2.out).below.mono (by omega)))
        go_wp2_with fail
        go_meet
        refine ⟨_, _, rfl, rfl, ?_⟩
        first | (with_reducible refine lfxy ?_ ?_ ?_ ?_ ?_ ?_ <;> (first | with_reducible exact HB2.out | with_reducible exact HB2.out.below (below_b1 _ _) | with_reducible exact (HB2.out.below (below_b1 _ _)).below (below_b1 _ _) | with_reducible exact HW2.out | with_reducible exact HW2.out.alloc (by omega) _ | with_reducible exact (HW2.out.alloc (by omega) _).alloc (by simp; omega) _ | with_reducible exact P0.out | with_reducible exact P1.out | with_reducible exact P2.out | with_reducible exact R1.out | with_reducible exact R2.out | with_reducible exact allocB P0.out | with_reducible exact allocB R1.out | with_reducible exact heap_alloc_new _ _ | with_reducible exact ⟨heap_alloc_new _ _⟩ | with_reducible exact ⟨newB2⟩ | with_reducible exact ⟨allocB (heap_alloc_new _ _)⟩ | with_reducible exact newB2 | with_reducible exact allocB (heap_alloc_new _ _) | omega)) | (with_reducible refine lfyx ?_ ?_ ?_ ?_ ?_ ?_ <;> (first | with_reducible exact HB2.out | with_reducible exact HB2.out.below (below_b1 _ _) | with_reducible exact (HB2.out.below (below_b1 _ _)).below (below_b1 _ _) | with_reducible exact HW2.out | with_reducible exact HW2.out.alloc (by omega) _ | with_reducible exact (HW2.out.alloc (by omega) _).alloc (by simp; omega) _ | with_reducible exact P0.out | with_reducible exact P1.out | with_reducible exact P2.out | with_reducible exact R1.out | with_reducible exact R2.out | with_reducible exact allocB P0.out | with_reducible exact allocB R1.out | with_reducible exact heap_alloc_new _ _ | with_reducible exact ⟨heap_alloc_new _ _⟩ | with_reducible exact ⟨newB2⟩ | with_reducible exact ⟨allocB (heap_alloc_new _ _)⟩ | with_reducible exact newB2 | with_reducible exact allocB (heap_alloc_new _ _) | omega)) | (with_reducible refine lfx ?_ ?_ ?_ ?_ ?_ <;> (first | with_reducible exact HB2.out | with_reducible exact HB2.out.below (below_b1 _ _) | with_reducible exact (HB2.out.below (below_b1 _ _)).below (below_b1 _ _) | with_reducible exact HW2.out | with_reducible exact HW2.out.alloc (by omega) _ | with_reducible exact (HW2.out.alloc (by omega) _).alloc (by simp; omega) _ | with_reducible exact P0.out | with_reducible exact P1.out | with_reducible exact P2.out | with_reducible exact R1.out | with_reducible exact R2.out | with_reducible exact allocB P0.out | with_reducible exact allocB R1.out | with_reducible exact heap_alloc_new _ _ | with_reducible exact ⟨heap_alloc_new _ _⟩ | with_reducible exact ⟨newB2⟩ | with_reducible exact ⟨allocB (heap_alloc_new _ _)⟩ | with_reducible exact newB2 | with_reducible exact allocB (heap_alloc_new _ _) | omega)) | (with_reducible refine lfy ?_ ?_ ?_ ?_ ?_ <;> (first | with_reducible exact HB2.out | with_reducible exact HB2.out.below (below_b1 _ _) | with_reducible exact (HB2.out.below (below_b1 _ _)).below (below_b1 _ _) | with_reducible exact HW2.out | with_reducible exact HW2.out.alloc (by omega) _ | with_reducible exact (HW2.out.alloc (by omega) _).alloc (by simp; omega) _ | with_reducible exact P0.out | with_reducible exact P1.out | with_reducible exact P2.out | with_reducible exact R1.out | with_reducible exact R2.out | with_reducible exact allocB P0.out | with_reducible exact allocB R1.out | with_reducible exact heap_alloc_new _ _ | with_reducible exact ⟨heap_alloc_new _ _⟩ | with_reducible exact ⟨newB2⟩ | with_reducible exact ⟨allocB (heap_alloc_new _ _)⟩ | with_reducible exact newB2 | with_reducible exact allocB (heap_alloc_new _ _) | omega)) | (with_reducible refine lf0 ?_ ?_ ?_ ?_ <;> (first | with_reducible exact HB2.out | with_reducible exact HB2.out.below (below_b1 _ _) | with_reducible exact (HB2.out.below (below_b1 _ _)).below (below_b1 _ _) | with_reducible exact HW2.out | with_reducible exact HW2.out.alloc (by omega) _ | with_reducible exact (HW2.out.alloc (by omega) _).alloc (by simp; omega) _ | with_reducible exact P0.out | with_reducible exact P1.out | with_reducible exact P2.out | with_reducible exact R1.out | with_reducible exact R2.out | with_reducible exact allocB P0.out | with_reducible exact allocB R1.out | with_reducible exact heap_alloc_new _ _ | with_reducible exact ⟨heap_alloc_new _ _⟩ | with_reducible exact ⟨newB2⟩ | with_reducible exact ⟨allocB (heap_alloc_new _ _)⟩ | with_reducible exact newB2 | with_reducible exact allocB (heap_alloc_new _ _) | omega))
  case rest =>
   as_aux_lemma =>
    clear a0 a1 a2 a3 a4 a5
    obtain ⟨xb, yb, rfl, rfl, hO, hXb, hYb, hB⟩ := hcut
    have hB' : RowKit.Below w.heap.size w wc := by rw [hcb]; exact hB
    have HL := hide (LA.mk (w := w) hO hXb hYb (HH.out.1.below hB') (HH.out.2.below hB') hB')
    clear hO hXb hYb hB hB' HX0
    have x0 := HL.out.x.c0
    have x1 := HL.out.x.c1
    have x2 := HL.out.x.c2
    have x3 := HL.out.x.c3
    have x4 := HL.out.x.c4
    have x5 := HL.out.x.c5
    go_wp2_with fail
    refine (own_a c key wc HL.out.ca hs (by omega) HL.out.tab).mono ?_
    rintro e w2 ⟨rfl, hb2⟩
    have HL2 := hide (HL.out.below hb2)
    clear HL hb2 x0 x1 x2 x3 x4 x5
    have y0 := HL2.out.y.c0
    have y1 := HL2.out.y.c1
    have y2 := HL2.out.y.c2
    have y3 := HL2.out.y.c3
    have y4 := HL2.out.y.c4
    have y5 := HL2.out.y.c5
    go_wp2_with fail
    refine (own_b c key w2 HL2.out.ca hs (by omega)).mono ?_
    rintro e w3 ⟨rfl, hb3⟩
    have HL3 := hide (HL2.out.below hb3)
    clear HL2 hb3 y0 y1 y2 y3 y4 y5
    have x0 := HL3.out.x.c0
    have x1 := HL3.out.x.c1
    have x2 := HL3.out.x.c2
    have x3 := HL3.out.x.c3
    have x4 := HL3.out.x.c4
    have x5 := HL3.out.x.c5
    go_wp2_with fail
    refine (to_a c cu w3 HL3.out.ca hs hc).mono ?_
    rintro e w4 ⟨T1, rfl, hT1, hA1, hb4⟩
    have HL4 := hide ((HL3.out.below hb4).below (below_b1 w4 (.cells T1.cells CT)))
    have HT1 := hide (And.intro hT1 (And.intro (hA1.below (below_b1 w4 (.cells T1.cells CT))) (Ch.Box.new T1 CT w4)))
    clear HL3 hb4 hT1 hA1 x0 x1 x2 x3 x4 x5
    go_upto_region 5 with fail
    generalize htb : w4.heap.size = tb at *
    generalize w4.alloc (.cells T1.cells CT) = w5 at *
    have y0 := HL4.out.y.c0
    have y1 := HL4.out.y.c1
    have y2 := HL4.out.y.c2
    have y3 := HL4.out.y.c3
    have y4 := HL4.out.y.c4
    have y5 := HL4.out.y.c5
    go_wp2_with fail
    refine (to_b c cu w5 HL4.out.ca hs hc).mono ?_
    rintro e w6 ⟨T2, rfl, hT2, hA2, hb6⟩
    have hbb := below_b1 w6 (.cells T2.cells RCT)
    have HL6 := hide ((HL4.out.below hb6).below hbb)
    have HT1' := hide (And.intro HT1.out.1 (And.intro ((HT1.out.2.1.below hb6).below hbb) ((HT1.out.2.2.below hb6).below hbb)))
    have HT2 := hide (And.intro hT2 (And.intro (hA2.below hbb) (Ch.Box.new T2 RCT w6)))
    clear HL4 HT1 hb6 hbb hT2 hA2 y0 y1 y2 y3 y4 y5
    go_upto_region 6 with fail
    generalize hib : w6.heap.size = ib at *
    generalize w6.alloc (.cells T2.cells RCT) = w7 at *
    have x0 := HL6.out.x.c0
    have x1 := HL6.out.x.c1
    have x2 := HL6.out.x.c2
    have x3 := HL6.out.x.c3
    have x4 := HL6.out.x.c4
    have x5 := HL6.out.x.c5
    go_wp2_with fail
    refine (end_a c w7 HL6.out.ca hs).mono ?_
    rintro e w8 ⟨L1, rfl, hE1, hA3, hb8⟩
    have hbb := below_b1 w8 (.cells #[.int .i64 L1.v, .slice L1.a L1.ws.length L1.c] LCT2)
    have HL8 := hide ((HL6.out.below hb8).below hbb)
    have HT1 := hide (And.intro HT1'.out.1 (And.intro ((HT1'.out.2.1.below hb8).below hbb) ((HT1'.out.2.2.below hb8).below hbb)))
    have HT2' := hide (And.intro HT2.out.1 (And.intro ((HT2.out.2.1.below hb8).below hbb) ((HT2.out.2.2.below hb8).below hbb)))
    have HE1 := hide (And.intro hE1 (And.intro (hA3.below hbb) (heap_alloc_new w8 (.cells #[.int .i64 L1.v, .slice L1.a L1.ws.length L1.c] LCT2))))
    clear HL6 HT1' HT2 hb8 hbb hE1 hA3 x0 x1 x2 x3 x4 x5
    go_upto_region 7 with fail
    generalize hlb : w8.heap.size = lb at *
    generalize w8.alloc (.cells #[.int .i64 L1.v, .slice L1.a L1.ws.length L1.c] LCT2) = w9 at *
    have y0 := HL8.out.y.c0
    have y1 := HL8.out.y.c1
    have y2 := HL8.out.y.c2
    have y3 := HL8.out.y.c3
    have y4 := HL8.out.y.c4
    have y5 := HL8.out.y.c5
    go_wp2_with fail
    refine (end_b c w9 HL8.out.ca hs).mono ?_
    rintro e w10 ⟨L2, rfl, hE2, hA4, hb10⟩
    have hbb := below_b1 w10 (.cells #[.int .i64 L2.v, .slice L2.a L2.ws.length L2.c] LCT2)
    have HL10 := (HL8.out.below hb10).below hbb
    have hlb1 : w9.heap[lb]? = some _ := HE1.out.2.2
    have hLB : LB w c T1 T2 L1 L2 cb xb yb tb ib lb w10.heap.size (w10.alloc (.cells #[.int .i64 L2.v, .slice L2.a L2.ws.length L2.c] LCT2)) :=
      ⟨HL10.o, HL10.x, HL10.y, ((HT1.out.2.2.below hb10).below hbb), ((HT2'.out.2.2.below hb10).below hbb), allocB ((hb10.block _ (Array.getElem?_eq_some_iff.1 hlb1).1).trans hlb1), heap_alloc_new w10 _, HL10.ca, ((HT1.out.2.1.below hb10).below hbb), ((HT2'.out.2.1.below hb10).below hbb), ((HE1.out.2.1.below hb10).below hbb), hA4.below hbb, HL10.tab, HL10.low⟩
    have HSp := hide (And.intro HT1.out.1 (And.intro HT2'.out.1 (And.intro HE1.out.1 hE2)))
    have HLB := hide hLB
    clear HL8 HL10 HT1 HT2' HE1 hb10 hbb hE2 hA4 hlb1 hLB y0 y1 y2 y3 y4 y5
    go_upto_region 8 with fail
    generalize hmb : w10.heap.size = mb at *
    generalize w10.alloc (.cells #[.int .i64 L2.v, .slice L2.a L2.ws.length L2.c] LCT2) = w11 at *
    clear htb hib hlb hmb hcb
    have hmay : (c.may = true ∧ c.chk = 0) ∨ (c.may = false ∧ c.chk = 70) := by
      unfold Ch.chk
      cases c.may
      · exact Or.inr ⟨rfl, rfl⟩
      · exact Or.inl ⟨rfl, rfl⟩
    have K1 : Hid (∀ W, S8 w c T1 T2 L1 L2 cb xb yb tb ib lb mb W → Calls Tryd.prog 19 #[c.was.val] W fun e w' => e = .returned (.int .i64 c.was.chk) ∧ S8 w c T1 T2 L1 L2 cb xb yb tb ib lb mb w') := hide fun W h => (layCheck_any c.was W h.2.ca.h1).mono fun e w' ⟨e1, hg⟩ => ⟨e1, S8.of (h.2.below hg.below)⟩
    have K2 : Hid (∀ W, S8 w c T1 T2 L1 L2 cb xb yb tb ib lb mb W → Calls Tryd.prog 20 #[c.was.val] W fun e w' => e = .returned (.int .i64 c.was.chk) ∧ S8 w c T1 T2 L1 L2 cb xb yb tb ib lb mb w') := hide fun W h => (lcheck_ref c.was W h.2.ca.h1).mono fun e w' ⟨e1, hg⟩ => ⟨e1, S8.of (h.2.below hg)⟩
    have K3 : Hid (∀ W, S8 w c T1 T2 L1 L2 cb xb yb tb ib lb mb W → Calls Tryd.prog 21 #[c.val] W fun e w' => e = .returned (.int .i64 c.chk) ∧ S8 w c T1 T2 L1 L2 cb xb yb tb ib lb mb w') := hide fun W h => (check_any c W h.2.ca hs).mono fun e w' ⟨e1, hg⟩ => ⟨e1, S8.of (h.2.below hg.below)⟩
    have K4 : Hid (∀ W, S8 w c T1 T2 L1 L2 cb xb yb tb ib lb mb W → Calls Tryd.prog 22 #[c.val] W fun e w' => e = .returned (.bool c.may) ∧ S8 w c T1 T2 L1 L2 cb xb yb tb ib lb mb w') := hide fun W h => (cmay_ref c W h.2.ca hs).mono fun e w' ⟨e1, hg⟩ => ⟨e1, S8.of (h.2.below hg)⟩
    have hS := S8.of HLB.out
    have hv1 := HSp.out.1.v1.trans HSp.out.2.1.v1.symm
    have hw1 := HSp.out.1.w1.trans HSp.out.2.1.w1.symm
    have hv2 := HSp.out.1.v2.trans HSp.out.2.1.v2.symm
    have hw2 := HSp.out.1.w2.trans HSp.out.2.1.w2.symm
    have hv3 := HSp.out.2.2.1.v.trans HSp.out.2.2.2.v.symm
    have hw3 := HSp.out.2.2.1.ws.trans HSp.out.2.2.2.ws.symm
    have hcu := HSp.out.2.1.cur.trans HSp.out.1.cur.symm
    have hd1 := HSp.out.1.done
    have hd2 := HSp.out.2.1.done
    obtain ⟨b0, hb0⟩ : ∃ b0, (decide (c.was.v = c.will.v) && decide (c.was.ws = c.will.ws)) = b0 := ⟨_, rfl⟩
    have E1 : Hid (∀ W, S10 w c T1 T2 L1 L2 cb xb yb tb ib lb mb T1.cur W → Calls Tryd.prog 23 #[T1.was.val, T2.was.val] W fun e w' => e = .returned (.bool true) ∧ S10 w c T1 T2 L1 L2 cb xb yb tb ib lb mb T1.cur w') := hide fun W h => (lequal_ref T1.was T2.was W h.2.ta.h1 h.2.ia.h1).mono fun e w' ⟨e1, hg⟩ => ⟨by rw [e1, hv1, hw1]; simp, S10.of rfl hd1 hcu hd2 (h.2.below hg)⟩
    have E2 : Hid (∀ W, S10 w c T1 T2 L1 L2 cb xb yb tb ib lb mb T1.cur W → Calls Tryd.prog 23 #[T1.will.val, T2.will.val] W fun e w' => e = .returned (.bool true) ∧ S10 w c T1 T2 L1 L2 cb xb yb tb ib lb mb T1.cur w') := hide fun W h => (lequal_ref T1.will T2.will W h.2.ta.h2 h.2.ia.h2).mono fun e w' ⟨e1, hg⟩ => ⟨by rw [e1, hv2, hw2]; simp, S10.of rfl hd1 hcu hd2 (h.2.below hg)⟩
    have E3 : Hid (∀ W, S10 w c T1 T2 L1 L2 cb xb yb tb ib lb mb T1.cur W → Calls Tryd.prog 23 #[L1.val, L2.val] W fun e w' => e = .returned (.bool true) ∧ S10 w c T1 T2 L1 L2 cb xb yb tb ib lb mb T1.cur w') := hide fun W h => (lequal_ref L1 L2 W h.2.la h.2.ma).mono fun e w' ⟨e1, hg⟩ => ⟨by rw [e1, hv3, hw3]; simp, S10.of rfl hd1 hcu hd2 (h.2.below hg)⟩
    have E4 : Hid (∀ W, S10 w c T1 T2 L1 L2 cb xb yb tb ib lb mb T1.cur W → Calls Tryd.prog 24 #[c.was.val, c.will.val] W fun e w' => e = .returned (.bool b0) ∧ S10 w c T1 T2 L1 L2 cb xb yb tb ib lb mb T1.cur w') := hide fun W h => (equal_any c.was c.will W h.2.ca.h1 h.2.ca.h2).mono fun e w' ⟨e1, hg⟩ => ⟨by rw [e1, hb0], S10.of rfl hd1 hcu hd2 (h.2.below hg.below)⟩
    have E5 : Hid (∀ W, S10 w c T1 T2 L1 L2 cb xb yb tb ib lb mb T1.cur W → Calls Tryd.prog 23 #[c.was.val, c.will.val] W fun e w' => e = .returned (.bool b0) ∧ S10 w c T1 T2 L1 L2 cb xb yb tb ib lb mb T1.cur w') := hide fun W h => (lequal_ref c.was c.will W h.2.ca.h1 h.2.ca.h2).mono fun e w' ⟨e1, hg⟩ => ⟨by rw [e1, hb0], S10.of rfl hd1 hcu hd2 (h.2.below hg)⟩
    have E6 : Hid (∀ W, S10 w c T1 T2 L1 L2 cb xb yb tb ib lb mb T1.cur W → Calls Tryd.prog 25 #[] W fun e w' => e = .returned (.bool true) ∧ S10 w c T1 T2 L1 L2 cb xb yb tb ib lb mb T1.cur w') := hide fun W h => (works_any W h.2.tab).mono fun e w' ⟨e1, hg⟩ => ⟨e1, S10.of rfl hd1 hcu hd2 (h.2.below hg)⟩
    have HD := hide (fun (W : World) (h : LB w c T1 T2 L1 L2 cb xb yb tb ib lb mb W) => (S10.of rfl hd1 hcu hd2 h : S10 w c T1 T2 L1 L2 cb xb yb tb ib lb mb T1.cur W))
    clear hv1 hw1 hv2 hw2 hv3 hw3 hcu hd1 hd2 hb0 HSp
    rcases hmay with ⟨m1, m2⟩ | ⟨m1, m2⟩
    all_goals
      rw [m1] at K4
      rw [m2] at K3
      clear m1 m2
      go_region_held3 (S8 w c T1 T2 L1 L2 cb xb yb tb ib lb mb) (first | with_reducible exact S8.of (LB.drew (And.right (by assumption))) | with_reducible assumption)
        (first | (go_at_call 19; refine (K1.out _ (by assumption)).mono ?_; rintro e w20 ⟨rfl, hS20⟩) | (go_at_call 20; refine (K2.out _ (by assumption)).mono ?_; rintro e w21 ⟨rfl, hS21⟩) | (go_at_call 21; refine (K3.out _ (by assumption)).mono ?_; rintro e w22 ⟨rfl, hS22⟩) | (go_at_call 22; refine (K4.out _ (by assumption)).mono ?_; rintro e w23 ⟨rfl, hS23⟩))
      have HLB2 := hide hS23.2
      have hS := HD.out w23 HLB2.out
      clear K1 K2 K3 K4 hS20 hS21 hS22 hS23
      go_upto_region 10 with fail
      go_region_held3 (S10 w c T1 T2 L1 L2 cb xb yb tb ib lb mb T1.cur) (first | with_reducible exact HD.out _ (LB.drew (And.right (by assumption))) | with_reducible assumption)
        (first | (go_at_call 23; with_reducible refine (E1.out _ (by assumption)).mono ?_; rintro e w30 ⟨rfl, hS30⟩) | (go_at_call 23; with_reducible refine (E2.out _ (by assumption)).mono ?_; rintro e w31 ⟨rfl, hS31⟩) | (go_at_call 23; with_reducible refine (E3.out _ (by assumption)).mono ?_; rintro e w32 ⟨rfl, hS32⟩) | (go_at_call 24; with_reducible refine (E4.out _ (by assumption)).mono ?_; rintro e w33 ⟨rfl, hS33⟩) | (go_at_call 23; with_reducible refine (E5.out _ (by assumption)).mono ?_; rintro e w34 ⟨rfl, hS34⟩) | (go_at_call 25; with_reducible refine (E6.out _ (by assumption)).mono ?_; rintro e w35 ⟨rfl, hS35⟩))
      have HB := hide hS35.2.low
      clear hS hS30 hS31 hS32 hS33 hS34 hS35
      go_wp2
      go_ret
      exact ⟨rfl, HB.out⟩
end Go.Proofs.YtcmdglmcmifflaaDoor.Ly
