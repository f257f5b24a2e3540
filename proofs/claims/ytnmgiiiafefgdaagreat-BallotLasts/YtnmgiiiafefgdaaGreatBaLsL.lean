/- Layer 15: BallotLasts: nothing is forgotten. -/
import Derived.Test.YtnmgiiiafefgdaaGreatBaLsP
import Derived.Deep.CutRange
import Derived.Deep.CutBlock
namespace Go.Proofs.YtnmgiiiafefgdaaGreat.Ba
open Go.RowKit Go.Joins Go.Proofs.YtnmgiiiafefgdaaGreat.Gk
open Go.Proofs.YtnmgiiiafefgdaaGreat.Dk (St Bs)
open Go.Proofs.YtnmgiiiafefgdaaGreat.Rl (En Lo LH ER ptr blk eenc EnT EnsT)

/-- what was told, and the draws, in a region that draws its order -/
abbrev LS (bL gb o : Nat) (v0 v1 v2 vq : Value) (w3 W : World) : Prop :=
  (W.cell? ⟨bL, 0, none⟩ = some v0 ∧ W.cell? ⟨bL, 1, none⟩ = some v1 ∧ W.cell? ⟨bL, 2, none⟩ = some v2 ∧ W.cell? ⟨gb, o, none⟩ = some vq) ∧ bL < W.heap.size ∧ gb < W.heap.size ∧ Below w3.heap.size w3 W
theorem LS.call {bL gb o : Nat} {v0 v1 v2 vq : Value} {w3 a b : World} (hb : Below a.heap.size a b) (h : LS bL gb o v0 v1 v2 vq w3 a) : LS bL gb o v0 v1 v2 vq w3 b := by
  obtain ⟨⟨c0, c1, c2, c3⟩, h1, h2, h3⟩ := h
  have hc : ∀ j, b.cell? ⟨bL, j, none⟩ = a.cell? ⟨bL, j, none⟩ := fun j => hb.cell (p := ⟨bL, j, none⟩) h1
  have hq : b.cell? ⟨gb, o, none⟩ = a.cell? ⟨gb, o, none⟩ := hb.cell (p := ⟨gb, o, none⟩) h2
  exact ⟨⟨(hc 0).trans c0, (hc 1).trans c1, (hc 2).trans c2, hq.trans c3⟩, Nat.lt_of_lt_of_le h1 hb.size, Nat.lt_of_lt_of_le h2 hb.size, h3.trans (hb.mono h3.size)⟩
theorem LS.drew {bL gb o : Nat} {v0 v1 v2 vq : Value} {w3 a : World} (h : LS bL gb o v0 v1 v2 vq w3 a) : LS bL gb o v0 v1 v2 vq w3 a.drew := h.call ((Below.refl _ _).drew)
/-- at the beginning of a stretch -/
structure Be (w W : World) (bd bL : Nat) (S : St) (rs : List Rc) (s : Bl) (aL : Option Addr) (cL : Nat) (D : Nat → Prop) : Prop where
  dh : DH W bd S D
  di : DI 3 S rs
  up : Up S
  rn : s = run Bl.new rs
  lb : LB w W bL s aL cL D
  nw : Nw w W D
/-- within a stretch, and at its end -/
structure Mid (w W : World) (bd bb bL : Nat) (u : Bool) (S : St) (rs more : List Rc) (s : Bl) (aL : Option Addr) (cL : Nat) (X : Nat → Prop) : Prop where
  b : BB W bb bd 3 S s X
  rn : s = run Bl.new rs
  oks : Oks 3 Bl.new (rs ++ more)
  data : (fl S).data = frs (rs ++ more)
  safe : (fl S).safe = (frs rs).length
  und : u = false → more = []
  lb : LB w W bL s aL cL X
  nw : Nw w W X
theorem Mid.lw {w W : World} {bd bb bL : Nat} {S : St} {rs more : List Rc} {s : Bl} {aL : Option Addr} {cL : Nat} {X : Nat → Prop} (h : Mid w W bd bb bL false S rs more s aL cL X) : Lw W bb bd S s rs X := by
  have e := h.und rfl
  have h1 := h.data
  have h2 := h.oks
  rw [e, List.append_nil] at h1 h2
  exact ⟨h.b, ⟨h1, h.safe, h2⟩, h.rn⟩
set_option maxRecDepth 100000 in
set_option maxHeartbeats 20000000 in
theorem lasts_law (a : Option Addr) (cap : Nat) (gs : List GoV) (w : World) (hl : GosAt w a cap gs) :
    Calls Tryz.prog 4 #[.slice a gs.length cap] w fun r w' => r = .returned (.bool true) ∧ Below w.heap.size w w' := by
  have hgl : gs.length ≤ 9223372036854775807 := Nat.le_trans hl.room hl.max
  have HN := hide (Dk.new_ok 262144 w (by decide))
  go_enter Tryz.func4, Tryz.ntmps4
  go_wp2_with fail
  refine HN.out.mono ?_
  clear HN
  rintro r w1 ⟨bd, rfl, hH1, hb1⟩
  have hD1 := DH.new hH1
  have N1 : Nw w w1 (fun k => w.heap.size ≤ k ∧ k < w1.heap.size) := ⟨hb1, fun _ h => h.1⟩
  have HW := hide (works_any w1)
  generalize (fun k => w.heap.size ≤ k ∧ k < w1.heap.size) = D1 at *
  clear hH1 hb1
  go_wp2_with fail
  refine HW.out.mono ?_
  clear HW
  rintro r w2 ⟨rfl, hb2⟩
  have hD2 := hD1.below hb2
  have N2 := N1.below hb2
  have hLB : LB w (w2.alloc (.cells #[.int .i64 0, .int .i64 (-1), .slice none 0 0] TdT)) w2.heap.size Bl.new none 0 D1 :=
    ⟨heap_alloc_new w2 _, ER.nil _, (fun h => by have := hD2.lt _ h; omega), (fun g hg => by cases hg), N2.bel.size⟩
  have hb3 : Below w2.heap.size w2 (w2.alloc (.cells #[.int .i64 0, .int .i64 (-1), .slice none 0 0] TdT)) := (Below.refl _ _).alloc (Nat.le_refl _) _
  have hD3 := hD2.below hb3
  have N3 := N2.below hb3
  have HS := hide (And.intro hLB (And.intro hD3 N3))
  clear hD1 N1 hb2 hD2 N2 hLB hb3 hD3 N3
  go_wp2
  generalize w2.heap.size = bL at *
  go_loopw [6] (fun iv W => ∃ (k : Nat) (S : St) (rs : List Rc) (s : Bl) (aL : Option Addr) (cL : Nat) (D : Nat → Prop), k ≤ gs.length ∧ k ≤ 8 ∧ iv = .int .i64 k ∧ Be w W bd bL S rs s aL cL D) (fun iv _ => gs.length - (intOf iv).toNat)
  case atStart => exact ⟨0, _, [], _, _, _, _, Nat.zero_le _, Nat.zero_le _, rfl, HS.out.2.1, DI.new 3 _, ⟨rfl, rfl⟩, rfl, HS.out.1, HS.out.2.2⟩
  case round =>
    as_aux_lemma =>
      clear HS
      obtain ⟨k, S, rs, s, aL, cL, D, hk1, hk2, rfl, hBe⟩ := hrel
      by_cases hin : k < gs.length ∧ k < 8
      · obtain ⟨hin1, hin2⟩ := hin
        obtain ⟨gb, goff, rfl, hcs⟩ := hl.cells k hin1
        have hok := hl.each _ (List.getElem_mem hin1)
        generalize gs[k] = gv at *
        have j1 : (k : Int) < (gs.length : Int) := by omega
        have j2 : (k : Int) < 8 := by omega
        have HO := hide (Open_di wr hBe.dh hBe.di)
        rw [← hBe.rn] at HO
        have HCS := hide hcs
        have HBe := hide hBe
        clear hcs hBe
        go_wp2_with fail
        refine HO.out.mono ?_
        clear HO
        rintro r w3 ⟨bb, rfl, X3, hB3, ht3⟩
        have hL3 : Lw w3 bb bd S s rs X3 := ⟨hB3, HBe.out.di, HBe.out.rn⟩
        have LB3 := HBe.out.lb.tu ht3
        have N3 := HBe.out.nw.tu ht3
        have l0 := LB3.cs.1
        have l1 := LB3.cs.2.1
        have l2 := LB3.cs.2.2
        have q2 := (HCS.out w3 N3.bel).2.2
        have HL3 := hide hL3
        have HLB3 := hide LB3
        have HN3 := hide N3
        have hm3 := hL3.many
        have hzb : gb < w3.heap.size := World.block_lt_of_cell? w3 _ q2
        have hzl := LB3.lt
        have hLS : LS bL gb (goff + k * 3 + 2) (.int .i64 s.t) (.int .i64 s.v) (.slice aL s.es.length cL) (.slice gv.da gv.ds.length gv.dc) w3 w3 := ⟨⟨l0, l1, l2, q2⟩, hzl, hzb, Below.refl _ _⟩
        have HOf := hide (fun W (h : LS bL gb (goff + k * 3 + 2) (.int .i64 s.t) (.int .i64 s.v) (.slice aL s.es.length cL) (.slice gv.da gv.ds.length gv.dc) w3 W) => of_any W (HL3.out.b.below h.2.2.2) HL3.out.es)
        have HSm := hide (fun W a4 c4 (hE : ER W (.slice a4 s.es.length c4) s.es) (h : LS bL gb (goff + k * 3 + 2) (.int .i64 s.t) (.int .i64 s.v) (.slice aL s.es.length cL) (.slice gv.da gv.ds.length gv.dc) w3 W) => same_yes s.t s.v s.es a4 c4 aL cL W hE (HLB3.out.er.below h.2.2.2) (by omega))
        clear hL3 LB3 N3 hB3 ht3 l0 l1 l2 q2
        by_cases hds : 4096 < gv.ds.length
        · have hds' : (4096 : Int) < (gv.ds.length : Int) := by omega
          go_wp2
          go_region_held3 (LS bL gb (goff + k * 3 + 2) (.int .i64 s.t) (.int .i64 s.v) (.slice aL s.es.length cL) (.slice gv.da gv.ds.length gv.dc) w3) (first | with_reducible exact LS.drew (by assumption) | with_reducible exact LS.call (by assumption) (by assumption) | with_reducible assumption)
            (first | (go_at_call 15; refine (HOf.out _ (by assumption)).mono ?_; rintro r w4 ⟨a4, c4, rfl, hE4, hn4, hb4⟩) | (go_at_call 14; refine (HSm.out _ a4 c4 (by assumption) (by assumption)).mono ?_; rintro r w5 ⟨rfl, hb5⟩))
          have hLS5 : LS bL gb (goff + k * 3 + 2) (.int .i64 s.t) (.int .i64 s.v) (.slice aL s.es.length cL) (.slice gv.da gv.ds.length gv.dc) w3 w5 := by assumption
          have q2' := hLS5.1.2.2.2
          have HN5 := hide (HN3.out.below hLS5.2.2.2)
          clear hLS5 HOf HSm HL3 HLB3 HN3 hE4 hn4 hb4 hb5 HBe hLS
          go_wp2
          go_ret
          exact ⟨rfl, HN5.out.bel⟩
        · have hds' : ¬ (4096 : Int) < (gv.ds.length : Int) := by omega
          go_wp2
          go_region_held3 (LS bL gb (goff + k * 3 + 2) (.int .i64 s.t) (.int .i64 s.v) (.slice aL s.es.length cL) (.slice gv.da gv.ds.length gv.dc) w3) (first | with_reducible exact LS.drew (by assumption) | with_reducible exact LS.call (by assumption) (by assumption) | with_reducible assumption)
            (first | (go_at_call 15; refine (HOf.out _ (by assumption)).mono ?_; rintro r w4 ⟨a4, c4, rfl, hE4, hn4, hb4⟩) | (go_at_call 14; refine (HSm.out _ a4 c4 (by assumption) (by assumption)).mono ?_; rintro r w5 ⟨rfl, hb5⟩))
          have hLS5 : LS bL gb (goff + k * 3 + 2) (.int .i64 s.t) (.int .i64 s.v) (.slice aL s.es.length cL) (.slice gv.da gv.ds.length gv.dc) w3 w5 := by assumption
          have hb35 := hLS5.2.2.2
          have hL5 := HL3.out.below hb35
          have HLB5 := hide (HLB3.out.below hb35)
          have HN5 := hide (HN3.out.below hb35)
          have hup := HBe.out.up
          obtain ⟨y1, y2, _⟩ := sync_up hup
          have hDI6 := hL5.d.sync hup
          have HSy := hide (hL5.b.call (fun own h1 h2 h3 => Dk.sync_any w5 h2))
          rw [y1] at HSy
          have hrn := hL5.s
          have HDI6 := hide hDI6
          generalize S.sync.2 = S6 at *
          clear hLS5 hb35 hL5 y1 hDI6 HOf HSm HL3 HLB3 HN3 hE4 hn4 hb4 hb5 HBe hLS
          go_wp2_with fail
          refine HSy.out.mono ?_
          clear HSy
          rintro r w6 ⟨rfl, X6, hB6, hT6⟩
          have hLB6 := HLB5.out.tu hT6
          have hN6 := HN5.out.tu hT6
          have hAm := among_any gv.fuse 40 w6 (by decide) (by decide) hok.f.1 hok.f.2
          obtain ⟨F, hF⟩ : ∃ F : Nat, gv.fuse % 40 = F := ⟨(gv.fuse % 40).toNat, by omega⟩
          rw [hF] at hAm
          have hFb : F < 40 := by omega
          have q1 := (HCS.out w6 hN6.bel).2.1
          have HFu := hide (hB6.call (fun own h1 h2 h3 => Dk.fuse_any w6 h2 F (by omega)))
          have HDI7 := hide (HDI6.out.light F)
          generalize (S6.light F).2 = S7 at *
          generalize (S6.light F).1 = c7 at *
          clear hF HDI6 HLB5 HN5 hB6 hT6
          go_wp2_with (first | (go_at_call 18; refine hAm.mono ?_; rintro r w7 ⟨rfl, hw7⟩; rw [← hw7]; clear hw7))
          refine HFu.out.mono ?_
          clear HFu
          rintro r w7 ⟨rfl, X7, hB7, hT7⟩
          have HMid : Hid (Mid w w7 bd bb bL false S7 rs [] s aL cL X7) := ⟨hB7, hrn, by rw [List.append_nil]; exact HDI7.out.oks, by rw [List.append_nil]; exact HDI7.out.data, HDI7.out.safe, fun _ => rfl, hLB6.tu hT7, hN6.tu hT7⟩
          clear hAm q1 hLB6 hN6 hB7 hT7 HDI7
          go_upto_block 2 with fail
          go_cut [9] from 29 to 185 (fun uv wc => ∃ (u : Bool) (S : St) (rs more : List Rc) (s : Bl) (aL : Option Addr) (cL : Nat) (X : Nat → Prop), uv = .bool u ∧ Mid w wc bd bb bL u S rs more s aL cL X)
          case first =>
            as_aux_lemma =>
              have hgl2 : gv.l.length ≤ 9223372036854775807 := Nat.le_trans hok.l.room hok.l.max
              go_wp2_with fail
              go_loopw [9, 10] (fun uv jv W => ∃ (j : Nat) (u : Bool) (S : St) (rs more : List Rc) (s : Bl) (aL : Option Addr) (cL : Nat) (X : Nat → Prop), j ≤ gv.l.length ∧ j ≤ 20 ∧ uv = .bool u ∧ jv = .int .i64 j ∧ Mid w W bd bb bL u S rs more s aL cL X) (fun _ jv _ => gv.l.length - (intOf jv).toNat)
              case atStart => exact ⟨0, false, _, _, _, _, _, _, _, Nat.zero_le _, Nat.zero_le _, rfl, rfl, HMid.out⟩
              case round =>
                as_aux_lemma =>
                  clear HMid
                  obtain ⟨j, u, S, rs, more, s, aL, cL, X, hj1, hj2, rfl, rfl, hM⟩ := hrel
                  have q0 := (HCS.out wr hM.nw.bel).1
                  have HM := hide hM
                  refine (Classical.em (j < gv.l.length ∧ j < 20 ∧ u = false)).elim (fun hgo => ?g1) (fun hgo => ?g2)
                  case g2 =>
                    clear hM
                    by_cases c1 : j < gv.l.length
                    · have c1' : (j : Int) < (gv.l.length : Int) := by omega
                      by_cases c2 : j < 20
                      · have hu : u = true := by cases u; exact absurd ⟨c1, c2, rfl⟩ hgo; rfl
                        subst hu
                        go_wp2
                        go_meet
                        exact ⟨_, _, _, _, _, _, _, _, rfl, HM.out⟩
                      · go_wp2
                        go_meet
                        exact ⟨_, _, _, _, _, _, _, _, rfl, HM.out⟩
                    · have c1' : ¬ (j : Int) < (gv.l.length : Int) := by omega
                      go_wp2
                      go_meet
                      exact ⟨_, _, _, _, _, _, _, _, rfl, HM.out⟩
                  case g1 =>
                    obtain ⟨c1, c2, rfl⟩ := hgo
                    have c1' : (j : Int) < (gv.l.length : Int) := by omega
                    have c2' : (j : Int) < 20 := by omega
                    have hL := hM.lw
                    have hm := hL.many
                    have HOf := hide (of_any wr hM.b hL.es)
                    clear hM
                    go_wp2_with fail
                    refine HOf.out.mono ?_
                    clear HOf
                    rintro r w8 ⟨a8, c8, rfl, hE8, hn8, hb8⟩
                    have hb9 : Below w8.heap.size w8 (w8.alloc (.cells #[.int .i64 s.t, .int .i64 s.v, .slice a8 s.es.length c8] TdT)) := (Below.refl _ _).alloc (Nat.le_refl _) _
                    have hL9 := (hL.below hb8).below hb9
                    have hLB9 := (HM.out.lb.below hb8).below hb9
                    have hN9 := (HM.out.nw.below hb8).below hb9
                    have hWs : LB w (w8.alloc (.cells #[.int .i64 s.t, .int .i64 s.v, .slice a8 s.es.length c8] TdT)) w8.heap.size s a8 c8 X := by
                      have hz8 := hb8.size
                      refine ⟨heap_alloc_new w8 _, hE8.below hb9, fun e => ?_, fun g hg e => ?_, ?_⟩
                      · have := hL.b.lt e; omega
                      · have := hL.b.lt e; have := hn8 g hg; omega
                      · have := HM.out.nw.bel.size; omega
                    obtain ⟨ab, aoff, hal, hac⟩ := hok.l.cells j c1
                    have hxok := (hok.l.each _ (List.getElem_mem c1)).below hN9.bel
                    generalize gv.l[j] = x at *
                    have q0' := (HCS.out _ hN9.bel).1
                    rw [hal] at q0'
                    obtain ⟨x0, x1, x2, x3, x4, x5⟩ := hac _ hN9.bel
                    have HCl := hide (call_any x _ hL9 hxok)
                    have HLB9 := hide hLB9
                    have HN9 := hide hN9
                    have HWs := hide hWs
                    clear hE8 hn8 hb8 hb9 hL hL9 hLB9 hN9 hWs hac hxok q0
                    go_wp2_with fail
                    clear x0 x1 x2 x3 x4 x5 q0'
                    refine HCl.out.mono ?_
                    clear HCl
                    rintro r w10 ⟨c, S', s', X', rfl, hB10, hOut, hT10⟩
                    generalize w8.heap.size = bW at *
                    have hLB10 := HLB9.out.tu hT10
                    have hN10 := HN9.out.tu hT10
                    have hWs10 := HWs.out.tu hT10
                    clear HLB9 HN9 HWs
                    rcases hOut with ⟨rs', o1, o2, o3, o4, o5, o6⟩ | ⟨o1, o2, o3⟩ | ⟨more', o1, o2, o3, o4, o5, o6⟩
                    · have hL10 : Lw w10 bb bd S' s' rs' X' := ⟨hB10, o3, o4⟩
                      have o1' : (c == 21) = false := by simpa using o1
                      have o2' : (c == 22) = false := by simpa using o2
                      have HOf := hide (of_any w10 hB10 hL10.es)
                      have HL10 := hide hL10
                      have HLB10 := hide hLB10
                      have HN10 := hide hN10
                      clear hL10 hLB10 hN10 hWs10 hB10 hT10 o5 o6
                      go_wp2_with fail
                      refine HOf.out.mono ?_
                      clear HOf
                      rintro r w11 ⟨a11, c11, rfl, hE11, hn11, hb11⟩
                      have hLB11 := HLB10.out.below hb11
                      obtain ⟨k0, k1, k2⟩ := hLB11.cs
                      have f0 := hLB11.fz 0
                      have f1 := hLB11.fz 1
                      have f2 := hLB11.fz 2
                      have HP := hide (hLB11.put (s' := s') hE11 (fun g hg e => by have := HL10.out.b.lt e; have := hn11 g hg; omega))
                      have HPB := hide (hLB11.bb (HL10.out.b.below hb11) s' a11 c11)
                      have HPN := hide (hLB11.nw (HN10.out.below hb11) s' a11 c11)
                      have HD := hide o3
                      have HO4 := hide o4
                      clear hE11 hn11 hLB11 o3 o4
                      go_wp2
                      go_roundw
                      case rel => exact ⟨j + 1, false, S', rs', [], s', a11, c11, X', by omega, by omega, rfl, by go_num, ⟨HPB.out, HO4.out, by rw [List.append_nil]; exact HD.out.oks, by rw [List.append_nil]; exact HD.out.data, HD.out.safe, fun _ => rfl, HP.out, HPN.out⟩⟩
                      case measure => simp [intOf]; omega
                    · subst o1 o2 o3
                      have hLe : Es s'.es := (Mid.lw HM.out).es
                      have HOf := hide (of_any w10 hB10 hLe)
                      have HLB10 := hide hLB10
                      have HN10 := hide hN10
                      clear hLB10 hN10 hWs10 hB10 hT10
                      go_wp2_with fail
                      refine HOf.out.mono ?_
                      clear HOf
                      rintro r w11 ⟨a11, c11, rfl, hE11, hn11, hb11⟩
                      have hLB11 := HLB10.out.below hb11
                      obtain ⟨k0, k1, k2⟩ := hLB11.cs
                      have f0 := hLB11.fz 0
                      have f1 := hLB11.fz 1
                      have f2 := hLB11.fz 2
                      have HPN := hide (hLB11.nw (HN10.out.below hb11) s' a11 c11)
                      clear hE11 hn11 hLB11
                      go_wp2
                      go_ret
                      exact ⟨rfl, HPN.out.bel⟩
                    · subst o1 o2
                      have hLe : Es s'.es := (Mid.lw HM.out).es
                      have hmm : s'.es.length ≤ 32768 := hm
                      obtain ⟨k0, k1, k2⟩ := hWs10.cs
                      have hzW := hWs10.lt
                      have hLS : LS bW bW 0 (.int .i64 s'.t) (.int .i64 s'.v) (.slice a8 s'.es.length c8) (.int .i64 s'.t) w10 w10 := ⟨⟨k0, k1, k2, k0⟩, hzW, hzW, Below.refl _ _⟩
                      have HOf := hide (fun W (h : LS bW bW 0 (.int .i64 s'.t) (.int .i64 s'.v) (.slice a8 s'.es.length c8) (.int .i64 s'.t) w10 W) => of_any W (hB10.below h.2.2.2) hLe)
                      have HSm := hide (fun W a4 c4 (hE : ER W (.slice a4 s'.es.length c4) s'.es) (h : LS bW bW 0 (.int .i64 s'.t) (.int .i64 s'.v) (.slice a8 s'.es.length c8) (.int .i64 s'.t) w10 W) => same_yes s'.t s'.v s'.es a4 c4 a8 c8 W hE (hWs10.er.below h.2.2.2) (by omega))
                      have HMd := hide (fun W (hb : Below w10.heap.size w10 W) => (⟨hB10.below hb, HM.out.rn, o4, o5, o6, (fun e => by cases e), hLB10.below hb, hN10.below hb⟩ : Mid w W bd bb bL true S' rs more' s' aL cL X'))
                      clear k0 k1 k2 hWs10 hLB10 hN10 hB10 hT10 o3 o4 o5 o6
                      go_wp2
                      go_region_held3 (LS bW bW 0 (.int .i64 s'.t) (.int .i64 s'.v) (.slice a8 s'.es.length c8) (.int .i64 s'.t) w10) (first | with_reducible exact LS.drew (by assumption) | with_reducible exact LS.call (by assumption) (by assumption) | with_reducible assumption)
                        (first | (go_at_call 15; refine (HOf.out _ (by assumption)).mono ?_; rintro r w11 ⟨a11, c11, rfl, hE11, hn11, hb11⟩) | (go_at_call 14; refine (HSm.out _ a11 c11 (by assumption) (by assumption)).mono ?_; rintro r w12 ⟨rfl, hb12⟩))
                      have hLS12 : LS bW bW 0 (.int .i64 s'.t) (.int .i64 s'.v) (.slice a8 s'.es.length c8) (.int .i64 s'.t) w10 w12 := by assumption
                      have HMe := hide (HMd.out w12 hLS12.2.2.2)
                      clear HOf HSm HMd hLS12 hE11 hn11 hb11 hb12 hLS
                      go_wp2
                      go_roundw
                      case rel => exact ⟨j + 1, true, S', rs, more', s', aL, cL, X', by omega, by omega, rfl, by go_num, HMe.out⟩
                      case measure => simp [intOf]; omega
          case rest =>
            as_aux_lemma =>
              clear HMid
              obtain ⟨u, S, rs, more, s, aL, cL, X, rfl, hM⟩ := hcut
              have q2 := (HCS.out wc hM.nw.bel).2.2
              have HCr := hide (hM.b.call (fun own h1 h2 h3 => Dk.crash_any wc h2 gv.da gv.dc gv.ds (ints_lies hok.ds hM.nw h1) hok.ds.room hok.ds.nil hok.ds.max hok.ds.each))
              obtain ⟨j, tl, t1, t2, t3, t4, t5, t6, t7, t8⟩ := crash_open hM.b.ok rs more hM.oks hM.data hM.safe gv.ds (by omega)
              generalize (S.crash gv.ds).2 = S9 at *
              generalize (S.crash gv.ds).1 = c9 at *
              have HM := hide hM
              clear hM
              go_wp2_with fail
              refine HCr.out.mono ?_
              clear HCr q2
              rintro r w9 ⟨rfl, X9, hB9, hT9⟩
              have hLB9 := HM.out.lb.tu hT9
              have hN9 := HM.out.nw.tu hT9
              obtain ⟨D9, hD9, hsub⟩ := hB9.disk
              have hLB9' := hLB9.sub hsub
              have hN9' : Nw w w9 D9 := ⟨hN9.bel, fun k hk => hN9.new k (hsub k hk)⟩
              have HO := hide (Open_any bd 3 S9 D9 (rs ++ more.take j) tl w9 hD9 (by decide) (by decide) t2 t1 t4 t3 t5)
              have hon : On s (run Bl.new (rs ++ more.take j)) := by
                rw [run_append, ← HM.out.rn]
                exact on_run (by have := (Oks.append.1 t4).2; rw [← HM.out.rn] at this; exact this)
              have hsame : u = false → run Bl.new (rs ++ more.take j) = s := fun hu => by
                rw [HM.out.und hu, HM.out.rn]; simp
              have hes2 : Es (run Bl.new (rs ++ more.take j)).es := ((Bl.Ok.new (by decide)).run t4).es (by
                have h1 := run_many Bl.new (rs ++ more.take j)
                have h2 := frs_many (rs ++ more.take j)
                have h3 : Bl.new.es.length = 0 := rfl
                rw [List.length_append] at t3
                omega)
              have hm2 := hes2.many
              obtain ⟨s2, hs2⟩ : ∃ s2, run Bl.new (rs ++ more.take j) = s2 := ⟨_, rfl⟩
              rw [hs2] at HO hon hsame hes2 hm2
              have HS2 := hide hs2
              have HDI := hide t6
              have HUP := hide t7
              generalize ldd S9 (rs ++ more.take j) tl = S10 at *
              clear t1 t2 t3 t4 t5 t6 t7 t8 hs2 hLB9 hN9 hB9 hT9 hsub hD9
              go_wp2_with fail
              refine HO.out.mono ?_
              clear HO
              rintro r w10 ⟨b2, rfl, X10, hB10, hT10⟩
              have hLB10 := hLB9'.tu hT10
              have hN10 := hN9'.tu hT10
              have HOf := hide (of_any w10 hB10 hes2)
              have HB10 := hide hB10
              have HLB10 := hide hLB10
              have HN10 := hide hN10
              clear hLB9' hN9' hB10 hT10 hLB10 hN10
              go_wp2_with fail
              refine HOf.out.mono ?_
              clear HOf
              rintro r w11 ⟨a11, c11, rfl, hE11, hn11, hb11⟩
              have hb12 : Below w11.heap.size w11 (w11.alloc (.cells #[.int .i64 s2.t, .int .i64 s2.v, .slice a11 s2.es.length c11] TdT)) := (Below.refl _ _).alloc (Nat.le_refl _) _
              have hz11 := hb11.size
              have HLB9z := hide (show bL < w11.heap.size from Nat.lt_of_lt_of_le HLB10.out.lt hz11)
              have hB12 := (HB10.out.below hb11).below hb12
              have hLB12 := (HLB10.out.below hb11).below hb12
              have hN12 := (HN10.out.below hb11).below hb12
              have hE12 := hE11.below hb12
              have hx12 := heap_alloc_new w11 (.cells #[.int .i64 s2.t, .int .i64 s2.v, .slice a11 s2.es.length c11] TdT)
              have HSm : Hid (u = false → Calls Tryz.prog 14 #[.agg #[.int .i64 s2.t, .int .i64 s2.v, .slice a11 s2.es.length c11], .agg #[.int .i64 s.t, .int .i64 s.v, .slice aL s.es.length cL]] (w11.alloc (.cells #[.int .i64 s2.t, .int .i64 s2.v, .slice a11 s2.es.length c11] TdT)) fun r w' => r = .returned (.bool true) ∧ Below (w11.alloc (.cells #[.int .i64 s2.t, .int .i64 s2.v, .slice a11 s2.es.length c11] TdT)).heap.size (w11.alloc (.cells #[.int .i64 s2.t, .int .i64 s2.v, .slice a11 s2.es.length c11] TdT)) w') := fun hu => by
                have e := hsame hu
                have h2 := hLB12.er
                rw [← e] at h2 ⊢
                exact same_yes s2.t s2.v s2.es a11 c11 aL cL _ hE12 h2 hm2
              have HNR := hide (show ∀ g, blk (.slice a11 s2.es.length c11) = some g → ¬ X10 g from fun g hg e => by have := HB10.out.lt e; have := hn11 g hg; omega)
              have HH := hide (And.intro hB12 (And.intro hLB12 (And.intro hN12 (And.intro hE12 hx12))))
              generalize hW12 : w11.alloc (.cells #[.int .i64 s2.t, .int .i64 s2.v, .slice a11 s2.es.length c11] TdT) = W12 at *
              clear hB12 hLB12 hN12 hE12 hx12 hb12 HB10 HLB10 HN10 hE11 hn11 hb11
              obtain ⟨hB12, hLB12, hN12, hE12, hx12⟩ := HH.out
              obtain ⟨l0, l1, l2⟩ := hLB12.cs
              have n0 : W12.cell? ⟨w11.heap.size, 0, none⟩ = some (.int .i64 s2.t) := by rw [cell_of_block hx12]; rfl
              have n1 : W12.cell? ⟨w11.heap.size, 1, none⟩ = some (.int .i64 s2.v) := by rw [cell_of_block hx12]; rfl
              have n2 : W12.cell? ⟨w11.heap.size, 2, none⟩ = some (.slice a11 s2.es.length c11) := by rw [cell_of_block hx12]; rfl
              have hneN : w11.heap.size ≠ bL := by
                intro e
                have := HLB9z.out
                omega
              have hon1 := hon.1
              have g1 : ¬ s2.t < s.t := by omega
              have HFin : Hid (∀ W, Below W12.heap.size W12 W → ∃ D, Be w (put3 W bL s2 a11 c11) bd bL S10 (rs ++ more.take j) s2 a11 c11 D) := fun W hb => by
                have hLBW := hLB12.below hb
                have h1 := hLBW.put (s' := s2) (hE12.below hb) HNR.out
                have h2 := hLBW.bb (hB12.below hb) s2 a11 c11
                have h3 := hLBW.nw (hN12.below hb) s2 a11 c11
                obtain ⟨D, hD, hsub⟩ := h2.disk
                exact ⟨D, hD, HDI.out, HUP.out, HS2.out.symm, h1.sub hsub, ⟨h3.bel, fun k hk => h3.new k (hsub k hk)⟩⟩
              have HFz := hide (fun W (hb : Below W12.heap.size W12 W) => hLB12.below hb)
              have HNx := hide (fun W (hb : Below W12.heap.size W12 W) => (hb.block w11.heap.size (Array.getElem?_eq_some_iff.1 hx12).1).trans hx12)
              clear hB12 hLB12 hN12 hE12 hx12 HH HNR hes2 hm2 HS2 HDI HUP
              cases u with
              | true =>
                have f0 := (HFz.out W12 (Below.refl _ _)).fz 0
                have f1 := (HFz.out W12 (Below.refl _ _)).fz 1
                have f2 := (HFz.out W12 (Below.refl _ _)).fz 2
                by_cases e1 : s2.t = s.t
                · by_cases e2 : s.v = -1
                  · have e1' : (s2.t == s.t) = true := by simpa using e1
                    have e2' : (s.v == -1) = true := by simpa using e2
                    have E1 := hide e1
                    have E2 := hide e2
                    rw [e2] at l1
                    clear e1 e2 hsame hon
                    go_wp2
                    go_roundw
                    case rel =>
                      obtain ⟨D, hD⟩ := HFin.out W12 (Below.refl _ _)
                      exact ⟨k + 1, S10, rs ++ more.take j, s2, a11, c11, D, by omega, by omega, by go_num, hD⟩
                    case measure => simp [intOf]; omega
                  · have e3 := hon.2 e1 e2
                    have e1' : (s2.t == s.t) = true := by simpa using e1
                    have e2' : (s.v == -1) = false := by simpa using e2
                    have e3' : (s2.v == s.v) = true := by simpa using e3
                    have e2'' : (s.v != -1) = true := by simpa using e2
                    have e3'' : (s2.v != s.v) = false := by simpa using e3
                    have E1 := hide e1
                    have E3 := hide e3
                    rw [e1] at n0
                    rw [e3] at n1
                    clear e1 e2 e3 hsame hon
                    go_wp2
                    go_roundw
                    case rel =>
                      obtain ⟨D, hD⟩ := HFin.out W12 (Below.refl _ _)
                      unfold put3 at hD
                      rw [E1.out, E3.out] at hD
                      exact ⟨k + 1, S10, rs ++ more.take j, s2, a11, c11, D, by omega, by omega, by go_num, hD⟩
                    case measure => simp [intOf]; omega
                · have e1' : (s2.t == s.t) = false := by simpa using e1
                  clear hsame hon
                  go_wp2
                  go_roundw
                  case rel =>
                    obtain ⟨D, hD⟩ := HFin.out W12 (Below.refl _ _)
                    exact ⟨k + 1, S10, rs ++ more.take j, s2, a11, c11, D, by omega, by omega, by go_num, hD⟩
                  case measure => simp [intOf]; omega
              | false =>
                have hs := hsame rfl
                subst hs
                have HSm1 := hide (HSm.out rfl)
                clear hsame hon HSm
                go_wp2_with fail
                refine HSm1.out.mono ?_
                clear HSm1
                rintro r w13 ⟨rfl, hb13⟩
                have f0 := (HFz.out w13 hb13).fz 0
                have f1 := (HFz.out w13 hb13).fz 1
                have f2 := (HFz.out w13 hb13).fz 2
                obtain ⟨l0, l1, l2⟩ := (HFz.out w13 hb13).cs
                have n0 : w13.cell? ⟨w11.heap.size, 0, none⟩ = some (.int .i64 s2.t) := by rw [cell_of_block (HNx.out w13 hb13)]; rfl
                have n1 : w13.cell? ⟨w11.heap.size, 1, none⟩ = some (.int .i64 s2.v) := by rw [cell_of_block (HNx.out w13 hb13)]; rfl
                have n2 : w13.cell? ⟨w11.heap.size, 2, none⟩ = some (.slice a11 s2.es.length c11) := by rw [cell_of_block (HNx.out w13 hb13)]; rfl
                obtain ⟨D, hD⟩ := HFin.out w13 hb13
                have HD := hide hD
                clear hD HFin hb13 hW12 HFz HNx
                by_cases e2 : s2.v = -1
                · have E2 := hide e2
                  have e2' : (s2.v == -1) = true := by simpa using e2
                  clear e2
                  go_wp2
                  go_roundw
                  case rel =>
                    have hD := HD.out
                    unfold put3 at hD
                    rw [E2.out] at hD
                    exact ⟨k + 1, S10, rs ++ more.take j, s2, a11, c11, D, by omega, by omega, by go_num, hD⟩
                  case measure => simp [intOf]; omega
                · have e2' : (s2.v == -1) = false := by simpa using e2
                  go_wp2
                  go_roundw
                  case rel => exact ⟨k + 1, S10, rs ++ more.take j, s2, a11, c11, D, by omega, by omega, by go_num, HD.out⟩
                  case measure => simp [intOf]; omega
      · have j1 : (k : Int) < (gs.length : Int) ∨ ¬ (k : Int) < (gs.length : Int) := Classical.em _
        have HN := hide hBe.nw.bel
        clear hBe
        rcases j1 with j1 | j1
        · have j2 : ¬ (k : Int) < 8 := by omega
          go_wp2
          go_ret
          exact ⟨rfl, HN.out⟩
        · go_wp2
          go_ret
          exact ⟨rfl, HN.out⟩
end Go.Proofs.YtnmgiiiafefgdaaGreat.Ba
