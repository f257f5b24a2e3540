/- Layer 15: BallotVotes: one vote a term. BallotVotes, the row: for all arguments that can be read, the law returns true, and all read as they did. No condition. -/
import Derived.Test.YtnmgiiiafefgdaaGreatBaLsP
import Derived.Test.YtnmgiiiafefgdaaGreatGMap
import Derived.Deep.CutRange
import Derived.Deep.CutBlock
import Derived.Test.YtnmgiiiafefgdaaGreatGArgs
namespace Go.Proofs.YtnmgiiiafefgdaaGreat.Ba
open Go.RowKit Go.Joins Go.Proofs.YtnmgiiiafefgdaaGreat.Gk
open Go.Proofs.YtnmgiiiafefgdaaGreat.Dk (St Bs)
open Go.Proofs.YtnmgiiiafefgdaaGreat.Rl (En Lo LH ER ptr blk eenc EnT EnsT)

/-- votes that were told -/
def VI (f : Int → Option Value) (s : Bl) : Prop := ∀ t v, f t = some v → t ≤ s.t ∧ (t = s.t → v = .int .i64 s.v ∧ s.v ≠ -1)
theorem VI.on {f : Int → Option Value} {s s' : Bl} (h : VI f s) (ho : On s s') : VI f s' := fun t v hf => by
  obtain ⟨h1, h2⟩ := h t v hf
  have h3 := ho.1
  refine ⟨by omega, fun e => ?_⟩
  obtain ⟨h4, h5⟩ := h2 (by omega)
  have h6 := ho.2 (by omega) h5
  rw [h6]; exact ⟨h4, h5⟩
theorem VI.put {f : Int → Option Value} {s : Bl} (h : VI f s) (hv : s.v ≠ -1) : VI (upd f s.t (.int .i64 s.v)) s := fun t v hf => by
  by_cases e : t = s.t
  · subst e
    rw [upd_same] at hf
    exact ⟨Int.le_refl _, fun _ => ⟨(Option.some.inj hf).symm, hv⟩⟩
  · rw [upd_other f _ e] at hf
    exact h t v hf
/-- a file behind a crash -/
structure Cr (S : St) (rs : List Rc) (tl : Bs) : Prop where
  rd : (S.read nmB).1 = frs rs ++ tl
  torn : Torn tl
  len : (frs rs ++ tl).length ≤ 262144
  oks : Oks 3 Bl.new rs
  cut : tl ≠ [] → (S.cut nmB (frs rs).length).1 = 0
  di : DI 3 (ldd S rs tl) rs
structure Vo (w W : World) (bd bm : Nat) (S : St) (rs : List Rc) (tl : Bs) (s : Bl) (D : Nat → Prop) (f : Int → Option Value) (m : Nat) (tm : Int) : Prop where
  dh : DH W bd S D
  cr : Cr S rs tl
  rn : s = run Bl.new rs
  map : MapIs W bm m f
  nb : ¬ D bm
  new : w.heap.size ≤ bm
  vi : VI f s
  tm : tm ≤ s.t
  nw : Nw w W D
structure Vi (w W : World) (bd bb bm : Nat) (S : St) (rs more : List Rc) (s : Bl) (X : Nat → Prop) (f : Int → Option Value) (m : Nat) (tm : Int) : Prop where
  b : BB W bb bd 3 S s X
  rn : s = run Bl.new rs
  oks : Oks 3 Bl.new (rs ++ more)
  data : (fl S).data = frs (rs ++ more)
  safe : (fl S).safe = (frs rs).length
  map : MapIs W bm m f
  nb : ¬ X bm
  new : w.heap.size ≤ bm
  vi : VI f s
  tm : tm ≤ s.t
  nw : Nw w W X
theorem map_tu {W W' : World} {bm m : Nat} {f : Int → Option Value} {X X' : Nat → Prop} (h : MapIs W bm m f) (nb : ¬ X bm) (ht : Tu X X' W W') : MapIs W' bm m f ∧ ¬ X' bm :=
  ⟨h.stay (ht.stay h.lt nb).1, (ht.stay h.lt nb).2⟩

set_option maxRecDepth 100000 in
set_option maxHeartbeats 20000000 in
theorem votes_law (a : Option Addr) (cap : Nat) (gs : List GoV) (w : World) (hl : GosAt w a cap gs) :
    Calls Tryz.prog 5 #[.slice a gs.length cap] w fun r w' => r = .returned (.bool true) ∧ Below w.heap.size w w' := by
  have hgl : gs.length ≤ 9223372036854775807 := Nat.le_trans hl.room hl.max
  have HN := hide (Dk.new_ok 262144 w (by decide))
  have hmm := @run_makeMap Tryz.prog
  go_enter Tryz.func5, Tryz.ntmps5
  go_wp2_with fail
  refine HN.out.mono ?_
  clear HN
  rintro r w1 ⟨bd, rfl, hH1, hb1⟩
  have hD1 := DH.new hH1
  have N1 : Nw w w1 (fun k => w.heap.size ≤ k ∧ k < w1.heap.size) := ⟨hb1, fun _ h => h.1⟩
  have HW := hide (works_any w1)
  generalize (fun k => w.heap.size ≤ k ∧ k < w1.heap.size) = D1 at *
  clear hH1 hb1
  go_wp2_with fail
  refine HW.out.mono ?_
  clear HW
  rintro r w2 ⟨rfl, hb2⟩
  have hD2 := hD1.below hb2
  have N2 := N1.below hb2
  have hb3 : Below w2.heap.size w2 (w2.alloc (.map #[] 0)) := (Below.refl _ _).alloc (Nat.le_refl _) _
  have HS : Hid (Vo w (w2.alloc (.map #[] 0)) bd w2.heap.size (Dk.St.new 262144) [] [] Bl.new D1 (fun _ => none) 0 0) :=
    ⟨hD2.below hb3, ⟨by rw [read_fl]; rfl, Torn.nil, by decide, trivial, fun e => absurd rfl e, DI.new 3 _⟩, rfl, MapIs.made w2, (fun h => by have := hD2.lt _ h; omega), N2.bel.size, (fun t v h => by cases h), Int.le_refl _, N2.below hb3⟩
  clear hD1 N1 hb2 hD2 N2 hb3
  go_wp2
  generalize w2.heap.size = bm at *
  go_loopw [6, 7] (fun tv iv W => ∃ (k : Nat) (S : St) (rs : List Rc) (tl : Bs) (s : Bl) (D : Nat → Prop) (f : Int → Option Value) (m : Nat) (tm : Int), k ≤ gs.length ∧ k ≤ 8 ∧ iv = .int .i64 k ∧ tv = .int .i64 tm ∧ m ≤ 20 * k ∧ Vo w W bd bm S rs tl s D f m tm) (fun _ iv _ => gs.length - (intOf iv).toNat)
  case atStart => exact ⟨0, _, [], [], _, _, _, 0, 0, Nat.zero_le _, Nat.zero_le _, rfl, rfl, by omega, HS.out⟩
  case round =>
    as_aux_lemma =>
      clear HS hmm
      obtain ⟨k, S, rs, tl, s, D, f, m, tm, hk1, hk2, rfl, rfl, hmk, hV⟩ := hrel
      by_cases hin : k < gs.length ∧ k < 8
      · obtain ⟨hin1, hin2⟩ := hin
        obtain ⟨gb, goff, rfl, hcs⟩ := hl.cells k hin1
        have hok := hl.each _ (List.getElem_mem hin1)
        generalize gs[k] = gv at *
        have j1 : (k : Int) < (gs.length : Int) := by omega
        have j2 : (k : Int) < 8 := by omega
        have q2 := (hcs wr hV.nw.bel).2.2
        have HCS := hide hcs
        have HV := hide hV
        clear hcs hV
        by_cases hds : 4096 < gv.ds.length
        · have hds' : (4096 : Int) < (gv.ds.length : Int) := by omega
          go_wp2
          go_ret
          exact ⟨rfl, HV.out.nw.bel⟩
        · have hds' : ¬ (4096 : Int) < (gv.ds.length : Int) := by omega
          have HO := hide (Open_any bd 3 S D rs tl wr HV.out.dh (by decide) (by decide) HV.out.cr.rd HV.out.cr.torn HV.out.cr.oks HV.out.cr.len HV.out.cr.cut)
          rw [← HV.out.rn] at HO
          have HDI := hide HV.out.cr.di
          generalize ldd S rs tl = S2 at *
          go_wp2_with fail
          refine HO.out.mono ?_
          clear HO q2
          rintro r w3 ⟨bb, rfl, X3, hB3, ht3⟩
          obtain ⟨hM3, hnb3⟩ := map_tu HV.out.map HV.out.nb ht3
          have hN3 := HV.out.nw.tu ht3
          have hTe := Term_any w3 hB3
          have g1 : ¬ s.t < tm := by have := HV.out.tm; omega
          clear ht3
          go_wp2_with fail
          refine hTe.mono ?_
          clear hTe
          rintro r w4 ⟨rfl, rfl⟩
          have hAm := among_any gv.fuse 60 w4 (by decide) (by decide) hok.f.1 hok.f.2
          obtain ⟨F, hF⟩ : ∃ F : Nat, gv.fuse % 60 = F := ⟨(gv.fuse % 60).toNat, by omega⟩
          rw [hF] at hAm
          have hFb : F < 60 := by omega
          have q1 := (HCS.out w4 hN3.bel).2.1
          have HFu := hide (hB3.call (fun own h1 h2 h3 => Dk.fuse_any w4 h2 F (by omega)))
          have HDI7 := hide (HDI.out.light F)
          generalize (S2.light F).2 = S7 at *
          generalize (S2.light F).1 = c7 at *
          clear hF HDI hB3
          go_wp2_with (first | (go_at_call 18; refine hAm.mono ?_; rintro r w7 ⟨rfl, hw7⟩; rw [← hw7]; clear hw7))
          refine HFu.out.mono ?_
          clear HFu
          rintro r w7 ⟨rfl, X7, hB7, hT7⟩
          obtain ⟨hM7, hnb7⟩ := map_tu hM3 hnb3 hT7
          have HMid : Hid (Vi w w7 bd bb bm S7 rs [] s X7 f m tm) := ⟨hB7, HV.out.rn, by rw [List.append_nil]; exact HDI7.out.oks, by rw [List.append_nil]; exact HDI7.out.data, HDI7.out.safe, hM7, hnb7, HV.out.new, HV.out.vi, HV.out.tm, hN3.tu hT7⟩
          clear hAm q1 hM3 hnb3 hM7 hnb7 hN3 hB7 hT7 HDI7 HV
          go_upto_block 2 with fail
          go_cut [6] from 30 to 131 (fun tv wc => ∃ (S : St) (rs more : List Rc) (s : Bl) (X : Nat → Prop) (f : Int → Option Value) (m : Nat) (tm : Int), tv = .int .i64 tm ∧ m ≤ 20 * k + 20 ∧ Vi w wc bd bb bm S rs more s X f m tm)
          case first =>
            as_aux_lemma =>
              have hgl2 : gv.l.length ≤ 9223372036854775807 := Nat.le_trans hok.l.room hok.l.max
              go_wp2_with fail
              go_loopw [6, 10] (fun tv jv W => ∃ (j : Nat) (S : St) (rs : List Rc) (s : Bl) (X : Nat → Prop) (f : Int → Option Value) (m : Nat) (tm : Int), j ≤ gv.l.length ∧ j ≤ 20 ∧ tv = .int .i64 tm ∧ jv = .int .i64 j ∧ m ≤ 20 * k + j ∧ Vi w W bd bb bm S rs [] s X f m tm) (fun _ jv _ => gv.l.length - (intOf jv).toNat)
              case atStart => exact ⟨0, _, _, _, _, _, _, _, Nat.zero_le _, Nat.zero_le _, rfl, rfl, by omega, HMid.out⟩
              case round =>
                as_aux_lemma =>
                  clear HMid
                  obtain ⟨j, S, rs, s, X, f, m, tm, hj1, hj2, rfl, rfl, hmj, hM⟩ := hrel
                  have q0 := (HCS.out wr hM.nw.bel).1
                  have HM := hide hM
                  by_cases c1 : j < gv.l.length
                  · have c1' : (j : Int) < (gv.l.length : Int) := by omega
                    by_cases c2 : j < 20
                    · have c2' : (j : Int) < 20 := by omega
                      have hL : Lw wr bb bd S s rs X := ⟨hM.b, ⟨by have := hM.data; rwa [List.append_nil] at this, hM.safe, by have := hM.oks; rwa [List.append_nil] at this⟩, hM.rn⟩
                      obtain ⟨ab, aoff, hal, hac⟩ := hok.l.cells j c1
                      have hxok := (hok.l.each _ (List.getElem_mem c1)).below hM.nw.bel
                      generalize gv.l[j] = x at *
                      rw [hal] at q0
                      obtain ⟨x0, x1, x2, x3, x4, x5⟩ := hac _ hM.nw.bel
                      have HCl := hide (call_any x _ hL hxok)
                      clear hac hxok hM hL
                      go_wp2_with fail
                      clear x0 x1 x2 x3 x4 x5 q0
                      refine HCl.out.mono ?_
                      clear HCl
                      rintro r w10 ⟨c, S', s', X', rfl, hB10, hOut, hT10⟩
                      obtain ⟨hM10, hnb10⟩ := map_tu HM.out.map HM.out.nb hT10
                      have hN10 := HM.out.nw.tu hT10
                      rcases hOut with ⟨rs', o1, o2, o3, o4, o5, o6⟩ | ⟨o1, o2, o3⟩ | ⟨more', o1, o2, o3, o4, o5, o6⟩
                      · have hok' : s'.Ok 3 := o4 ▸ (Bl.Ok.new (by decide)).run o3.oks
                        have o1' : (c == 21) = false := by simpa using o1
                        have o2' : (c == 22) = false := by simpa using o2
                        have hvi := HM.out.vi.on o5
                        have g1 : ¬ s'.t < tm := by have := HM.out.tm; have := o5.1; omega
                        have hTe := Term_any w10 hB10
                        have hVo := Vote_any w10 hB10
                        have hst : -9223372036854775808 ≤ s'.t ∧ s'.t ≤ 9223372036854775807 := by have := hok'.t0; have := hok'.t1; omega
                        have hlk := hM10.look_ok (t := 57) Tryz.underlying57 (Tryz.zeroValue3 w10) hst
                        have HVi := hide (fun W (hB : BB W bb bd 3 S' s' X') f' m' (hm : MapIs W bm m' f') (hv : VI f' s') (hn : Nw w W X') => (⟨hB, o4, by rw [List.append_nil]; exact o3.oks, by rw [List.append_nil]; exact o3.data, o3.safe, hm, hnb10, HM.out.new, hv, Int.le_refl _, hn⟩ : Vi w W bd bb bm S' rs' [] s' X' f' m' s'.t))
                        have HB10 := hide hB10
                        have HM10 := hide hM10
                        have HN10 := hide hN10
                        have HVI := hide hvi
                        have HNW := hide HM.out.new
                        by_cases hv : s'.v = -1
                        · rw [hv] at hVo
                          clear o1 o2 o3 o4 o5 o6 hB10 hM10 hN10 hT10 hvi hv hlk HM
                          go_wp2_with (first | (go_at_call 21; refine hTe.mono ?_; rintro r w11 ⟨rfl, hw11⟩; rw [hw11]; clear hw11) | (go_at_call 22; refine hVo.mono ?_; rintro r w11 ⟨rfl, hw11⟩; rw [hw11]; clear hw11))
                          go_roundw
                          case rel => exact ⟨j + 1, S', rs', s', X', f, m, s'.t, by omega, by omega, rfl, by go_num, by omega, HVi.out w10 HB10.out f m HM10.out HVI.out HN10.out⟩
                          case measure => simp [intOf]; omega
                        · have hv' : (s'.v == -1) = false := by simpa using hv
                          obtain ⟨w12, hput, hM12, hg12⟩ := hM10.put (t := 57) Tryz.underlying57 (by omega) hst (.int .i64 s'.v)
                          have hbm : ∀ k, X' k → k ≠ bm := fun k hk e => hnb10 (e ▸ hk)
                          have HFin := hide (HVi.out w12 (hB10.frame hg12.size fun k hk => hg12.block k (hB10.lt hk) fun e => hbm k hk (Option.some.inj e)) _ _ hM12 (hvi.put hv) ⟨hN10.bel.grown hg12 hN10.bel.size (fun k hk => by cases hk; exact HNW.out), hN10.new⟩)
                          cases hf : f s'.t with
                          | none =>
                            rw [hf] at hlk
                            clear o1 o2 o3 o4 o5 o6 hB10 hM10 hN10 hT10 hvi hM12 hg12 HVi HM HB10 HM10 HN10 HVI
                            go_wp2_with (first | (go_at_call 21; refine hTe.mono ?_; rintro r w11 ⟨rfl, hw11⟩; rw [hw11]; clear hw11) | (go_at_call 22; refine hVo.mono ?_; rintro r w11 ⟨rfl, hw11⟩; rw [hw11]; clear hw11))
                            go_roundw
                            case rel => exact ⟨j + 1, S', rs', s', X', _, _, s'.t, by omega, by omega, rfl, by go_num, by omega, HFin.out⟩
                            case measure => simp [intOf]; omega
                          | some v =>
                            obtain rfl : v = .int .i64 s'.v := ((hvi s'.t v hf).2 rfl).1
                            rw [hf] at hlk
                            clear o1 o2 o3 o4 o5 o6 hB10 hM10 hN10 hT10 hvi hM12 hg12 HVi HM HB10 HM10 HN10 HVI
                            go_wp2_with (first | (go_at_call 21; refine hTe.mono ?_; rintro r w11 ⟨rfl, hw11⟩; rw [hw11]; clear hw11) | (go_at_call 22; refine hVo.mono ?_; rintro r w11 ⟨rfl, hw11⟩; rw [hw11]; clear hw11))
                            go_roundw
                            case rel => exact ⟨j + 1, S', rs', s', X', _, _, s'.t, by omega, by omega, rfl, by go_num, by omega, HFin.out⟩
                            case measure => simp [intOf]; omega
                      · subst o1
                        clear hB10 hM10 hT10
                        go_wp2
                        go_ret
                        exact ⟨rfl, hN10.bel⟩
                      · subst o1 o2
                        have HFin := hide (⟨hB10, HM.out.rn, o4, o5, o6, hM10, hnb10, HM.out.new, HM.out.vi, HM.out.tm, hN10⟩ : Vi w w10 bd bb bm S' rs more' s' X' f m tm)
                        clear hB10 hM10 hT10 hN10 o3 o4 o5 o6
                        go_wp2
                        go_meet
                        case rel => exact ⟨S', rs, more', s', X', f, m, tm, rfl, by omega, HFin.out⟩
                    · have c2' : ¬ (j : Int) < 20 := by omega
                      clear hM
                      go_wp2
                      go_meet
                      case rel => exact ⟨S, rs, [], s, X, f, m, tm, rfl, by omega, HM.out⟩
                  · have c1' : ¬ (j : Int) < (gv.l.length : Int) := by omega
                    clear hM
                    go_wp2
                    go_meet
                    case rel => exact ⟨S, rs, [], s, X, f, m, tm, rfl, by omega, HM.out⟩
          case rest =>
            as_aux_lemma =>
              clear HMid
              obtain ⟨S, rs, more, s, X, f, m, tm, rfl, hm2, hM⟩ := hcut
              have q2 := (HCS.out wc hM.nw.bel).2.2
              have HCr := hide (hM.b.call (fun own h1 h2 h3 => Dk.crash_any wc h2 gv.da gv.dc gv.ds (ints_lies hok.ds hM.nw h1) hok.ds.room hok.ds.nil hok.ds.max hok.ds.each))
              obtain ⟨j, tl, t1, t2, t3, t4, t5, t6, t7, t8⟩ := crash_open hM.b.ok rs more hM.oks hM.data hM.safe gv.ds (by omega)
              generalize (S.crash gv.ds).2 = S9 at *
              generalize (S.crash gv.ds).1 = c9 at *
              have HM := hide hM
              have hon : On s (run Bl.new (rs ++ more.take j)) := by
                rw [run_append, ← hM.rn]
                exact on_run (by have := (Oks.append.1 t4).2; rw [← hM.rn] at this; exact this)
              have HCrr := hide (⟨t2, t1, t3, t4, t5, t6⟩ : Cr S9 (rs ++ more.take j) tl)
              clear hM t1 t2 t3 t4 t5 t6 t7 t8
              go_wp2_with fail
              refine HCr.out.mono ?_
              clear HCr q2
              rintro r w9 ⟨rfl, X9, hB9, hT9⟩
              obtain ⟨hM9, hnb9⟩ := map_tu HM.out.map HM.out.nb hT9
              have hN9 := HM.out.nw.tu hT9
              obtain ⟨D9, hD9, hsub⟩ := hB9.disk
              have HF : Hid (Vo w w9 bd bm S9 (rs ++ more.take j) tl (run Bl.new (rs ++ more.take j)) D9 f m tm) := ⟨hD9, HCrr.out, rfl, hM9, fun e => hnb9 (hsub _ e), HM.out.new, HM.out.vi.on hon, by have := HM.out.tm; have := hon.1; omega, ⟨hN9.bel, fun k hk => hN9.new k (hsub k hk)⟩⟩
              clear HM hon HCrr hB9 hT9 hM9 hnb9 hN9 hD9 hsub
              go_wp2
              go_roundw
              case rel => exact ⟨k + 1, S9, rs ++ more.take j, tl, _, D9, f, m, tm, by omega, by omega, by go_num, rfl, by omega, HF.out⟩
              case measure => simp [intOf]; omega
      · have j1 : (k : Int) < (gs.length : Int) ∨ ¬ (k : Int) < (gs.length : Int) := Classical.em _
        have HN := hide hV.nw.bel
        clear hV
        rcases j1 with j1 | j1
        · have j2 : ¬ (k : Int) < 8 := by omega
          go_wp2
          go_ret
          exact ⟨rfl, HN.out⟩
        · go_wp2
          go_ret
          exact ⟨rfl, HN.out⟩
end Go.Proofs.YtnmgiiiafefgdaaGreat.Ba

namespace Go.Proofs.YtnmgiiiafefgdaaGreat
open Go.ChangeShapes Go.WideShapes Go.ChangeAt Go.RowKit Gk Ba
open Go.ChangeMaps (open_string)

set_option maxRecDepth 100000 in
theorem ballotVotes_lifted (os : Os) (started : os.Started) (H : Type) (enc : TypeId × Value → H) :
    ReturnsInHanded {} Tryz.checked os 5 .any (Rows.ballotVotesSpec.pre6 enc Tryz.prog Tryz.f5 Rows.ballotVotesRow.domain false) (Rows.ballotVotesSpec.post enc Tryz.prog Tryz.f5 false true false false) := by
  refine returnsInHanded_of_change_sized (C := Tryz.checked) try_own started (by kernel_rfl) Tryz.func5
    (ChangeSpec.witness6 (enc := enc) (C := Tryz.checked) false ⟨#[], #[.slice none 0 0], []⟩ 8 (by kernel_rfl) (by kernel_rfl) (by kernel_rfl) (by kernel_rfl)) ?_
  intro W base args ds gs before hval0 hW _ hsz0 _
  have hsz : (DataW.weightsEach Tryz.prog (Tryz.f5.params.toList ++ Rows.ballotVotesSpec.plain.varTypes Tryz.prog) (ds ++ gs)).all (· ≤ reachBytes) = true := hsz0
  have hval : ∀ (j : Nat) t v, Tryz.f5.params[j]? = some t → args[j]? = some v → Value.okWide Tryz.prog W .any base t v := hval0
  have hW' := hW
  obtain ⟨p, q, hA0, hV, rfl, _, _⟩ := hW
  have hA : DataW.TrodAll enc Tryz.prog W 0 (fun _ => true) true Tryz.f5.params.toList args.toList ds p := hA0
  rw [Tryz.params5] at hA hval hsz
  obtain ⟨v0, d0, rfl, rfl, h0⟩ := trodAll_one hA
  obtain ⟨rfl, rfl⟩ := trodVars_none hV
  have h0k := h0
  obtain ⟨z0, y0, x0, rfl⟩ := okWide_slice Tryz.underlying44 (hval 0 44 v0 rfl rfl)
  obtain ⟨u0, hu0⟩ := h0
  obtain ⟨a0, c0, fs0, e0, at0⟩ := open_gos hu0 (sized_one hsz (j := 0) rfl rfl)
  obtain ⟨rfl, rfl, rfl⟩ := slice_eq e0
  clear hA0 hval0 hsz0
  simp only [List.append_nil] at hW'
  have hlt0 : ∀ x ∈ p, x.block < W.heap.size := fun x hx => by simpa using hW'.lt x (by simp [hx])
  refine (votes_law _ _ fs0 W at0).mono fun e W' ⟨he, hn⟩ => ?_
  subst he
  refine ⟨_, rfl, _, _, _, [], p, [], hW', ?_, ?_, rfl, hn.frame _, fun h => by cases h⟩
  · exact trodAll_mk1 (shut_bool Tryz.underlying4 _)
  · exact trodAll_mk1 (Below.trod try_laidOut (by kernel_rfl) (of_decide_eq_true (by kernel_rfl)) h0k hn hlt0)

theorem ballotVotes_holds : Rows.BallotVotesSaid :=
  OpenClaim.holds_of_wide 5 Tryz.f5 rfl rfl rfl rfl rfl rfl rfl ⟨rfl, rfl, rfl, rfl, rfl⟩ rfl rfl rfl rfl rfl (by kernel_rfl) Tryz.func5 (by kernel_rfl)
    (of_decide_eq_true (by kernel_rfl)) (by unfold Func.isWrapper; first | (rw [if_pos (by decide +kernel)]; kernel_rfl) | (rw [if_neg (by decide +kernel)]; exact ⟨rfl, rfl⟩))
    (fun os started H enc _ => ballotVotes_lifted os started H enc)
#print axioms ballotVotes_holds
end Go.Proofs.YtnmgiiiafefgdaaGreat
