/- SpanThree: of three lists it does not matter which two are joined, or met, first; a meet goes into a union. Proved: for every lists, no condition. -/
import Derived.Test.YtolgpdjimfodkaaSpSound
namespace Go.Proofs.Ytolgpdjimfodkaa.Sp
open Go.RowKit Go.Joins Gk

set_option maxHeartbeats 12800000 in
set_option maxRecDepth 100000 in
theorem three_law (aa : Option Addr) (ca : Nat) (la : List Sp) (ab : Option Addr) (cb : Nat) (lb : List Sp) (ac : Option Addr) (cc : Nat) (lc : List Sp) (w : World) (ha : SpansAt w aa ca la) (hb : SpansAt w ab cb lb) (hc : SpansAt w ac cc lc) :
    Calls Try.prog 6 #[.slice aa la.length ca, .slice ab lb.length cb, .slice ac lc.length cc] w fun e w' => e = .returned (.bool true) ∧ Below w.heap.size w w' := by
  have hna : la.length ≤ 9223372036854775807 := Nat.le_trans ha.room ha.max
  have hnb : lb.length ≤ 9223372036854775807 := Nat.le_trans hb.room hb.max
  have hnc : lc.length ≤ 9223372036854775807 := Nat.le_trans hc.room hc.max
  have hla := ha.lies
  have hlb := hb.lies
  have hlc := hc.lies
  clear ha hb hc
  go_enter Try.func6, Try.ntmps6
  go_wp2_with fail
  refine (works_any w).mono ?_
  rintro e w1 ⟨rfl, hb1⟩
  have hB := hb1
  have hla := hla.below hb1
  have hlb := hlb.below hb1
  have hlc := hlc.below hb1
  clear hb1
  have q := sound_any aa ca la w1 hla hna
  cases hsa : sndL la with
  | false =>
    rw [hsa] at q
    go_wp2_with fail
    refine q.mono ?_
    rintro e w' ⟨rfl, hb'⟩
    have hB' := hB.trans (hb'.mono hB.size)
    clear q hb'
    go_wp2
    go_ret
    exact ⟨rfl, hB'⟩
  | true =>
    rw [hsa] at q
    go_wp2_with fail
    refine q.mono ?_
    rintro e w2 ⟨rfl, hb2⟩
    have hB := hB.trans (hb2.mono hB.size)
    have hla := hla.below hb2
    have hlb := hlb.below hb2
    have hlc := hlc.below hb2
    clear q hb2
    obtain ⟨na, ma⟩ := sndL_may hsa
    clear hsa
    have q := sound_any ab cb lb w2 hlb hnb
    cases hsb : sndL lb with
    | false =>
      rw [hsb] at q
      go_wp2_with fail
      refine q.mono ?_
      rintro e w' ⟨rfl, hb'⟩
      have hB' := hB.trans (hb'.mono hB.size)
      clear q hb'
      go_wp2
      go_ret
      exact ⟨rfl, hB'⟩
    | true =>
      rw [hsb] at q
      go_wp2_with fail
      refine q.mono ?_
      rintro e w3 ⟨rfl, hb3⟩
      have hB := hB.trans (hb3.mono hB.size)
      have hla := hla.below hb3
      have hlb := hlb.below hb3
      have hlc := hlc.below hb3
      clear q hb3
      obtain ⟨nb, mb⟩ := sndL_may hsb
      clear hsb
      have q := sound_any ac cc lc w3 hlc hnc
      cases hsc : sndL lc with
      | false =>
        rw [hsc] at q
        go_wp2_with fail
        refine q.mono ?_
        rintro e w' ⟨rfl, hb'⟩
        have hB' := hB.trans (hb'.mono hB.size)
        clear q hb'
        go_wp2
        go_ret
        exact ⟨rfl, hB'⟩
      | true =>
        rw [hsc] at q
        go_wp2_with fail
        refine q.mono ?_
        rintro e w4 ⟨rfl, hb4⟩
        have hB := hB.trans (hb4.mono hB.size)
        have hla := hla.below hb4
        have hlb := hlb.below hb4
        have hlc := hlc.below hb4
        clear q hb4
        obtain ⟨nc, mc⟩ := sndL_may hsc
        clear hsc
        have q := Union_ok aa ab ca cb la lb w4 hla hlb ma mb (by omega)
        have mk := nrm_made (K := kOr) rfl ma mb
        obtain ⟨lab, hE⟩ : ∃ l, l = nrm kOr la lb := ⟨_, rfl⟩
        rw [← hE] at q mk
        clear hE
        obtain ⟨noab, haab, mab, nab⟩ := mk
        have Oab := hide noab
        have Tab := hide haab
        clear noab haab
        go_wp2_with fail
        refine q.mono ?_
        rintro e w5 ⟨v, rfl, hr, hb5⟩
        obtain ⟨aab, cab, rfl, hlab⟩ := own_lies hr
        have hB := hB.trans (hb5.mono hB.size)
        have hla := hla.below hb5
        have hlb := hlb.below hb5
        have hlc := hlc.below hb5
        clear q hr hb5
        have q := Union_ok ab ac cb cc lb lc w5 hlb hlc mb mc (by omega)
        have mk := nrm_made (K := kOr) rfl mb mc
        obtain ⟨lbc, hE⟩ : ∃ l, l = nrm kOr lb lc := ⟨_, rfl⟩
        rw [← hE] at q mk
        clear hE
        obtain ⟨nobc, habc, mbc, nbc⟩ := mk
        have Obc := hide nobc
        have Tbc := hide habc
        clear nobc habc
        go_wp2_with fail
        refine q.mono ?_
        rintro e w6 ⟨v, rfl, hr, hb6⟩
        obtain ⟨abc, cbc, rfl, hlbc⟩ := own_lies hr
        have hB := hB.trans (hb6.mono hB.size)
        have hla := hla.below hb6
        have hlb := hlb.below hb6
        have hlc := hlc.below hb6
        have hlab := hlab.below hb6
        clear q hr hb6
        have q := Union_ok aab ac cab cc lab lc w6 hlab hlc mab mc (by omega)
        have mk := nrm_made (K := kOr) rfl mab mc
        obtain ⟨lx, hE⟩ : ∃ l, l = nrm kOr lab lc := ⟨_, rfl⟩
        rw [← hE] at q mk
        clear hE
        obtain ⟨nox, hax, mx, nx⟩ := mk
        have Ox := hide nox
        have Tx := hide hax
        clear nox hax
        go_wp2_with fail
        refine q.mono ?_
        rintro e w7 ⟨v, rfl, hr, hb7⟩
        obtain ⟨ax, cx, rfl, hlx⟩ := own_lies hr
        have hB := hB.trans (hb7.mono hB.size)
        have hla := hla.below hb7
        have hlb := hlb.below hb7
        have hlc := hlc.below hb7
        have hlab := hlab.below hb7
        have hlbc := hlbc.below hb7
        clear q hr hb7
        have q := Union_ok aa abc ca cbc la lbc w7 hla hlbc ma mbc (by omega)
        have mk := nrm_made (K := kOr) rfl ma mbc
        obtain ⟨ly, hE⟩ : ∃ l, l = nrm kOr la lbc := ⟨_, rfl⟩
        rw [← hE] at q mk
        clear hE
        obtain ⟨noy, hay, my, ny⟩ := mk
        have Oy := hide noy
        have Ty := hide hay
        clear noy hay
        go_wp2_with fail
        refine q.mono ?_
        rintro e w8 ⟨v, rfl, hr, hb8⟩
        obtain ⟨ay, cy, rfl, hly⟩ := own_lies hr
        have hB := hB.trans (hb8.mono hB.size)
        have hla := hla.below hb8
        have hlb := hlb.below hb8
        have hlc := hlc.below hb8
        have hlab := hlab.below hb8
        have hlbc := hlbc.below hb8
        have hlx := hlx.below hb8
        clear q hr hb8
        have q := Meet_ok aa ab ca cb la lb w8 hla hlb ma mb (by omega)
        have mk := nrm_made (K := kAnd) rfl ma mb
        obtain ⟨lmab, hE⟩ : ∃ l, l = nrm kAnd la lb := ⟨_, rfl⟩
        rw [← hE] at q mk
        clear hE
        obtain ⟨nomab, hamab, mmab, nmab⟩ := mk
        have Omab := hide nomab
        have Tmab := hide hamab
        clear nomab hamab
        go_wp2_with fail
        refine q.mono ?_
        rintro e w9 ⟨v, rfl, hr, hb9⟩
        obtain ⟨amab, cmab, rfl, hlmab⟩ := own_lies hr
        have hB := hB.trans (hb9.mono hB.size)
        have hla := hla.below hb9
        have hlb := hlb.below hb9
        have hlc := hlc.below hb9
        have hlab := hlab.below hb9
        have hlbc := hlbc.below hb9
        have hlx := hlx.below hb9
        have hly := hly.below hb9
        clear q hr hb9
        have q := Meet_ok aa ac ca cc la lc w9 hla hlc ma mc (by omega)
        have mk := nrm_made (K := kAnd) rfl ma mc
        obtain ⟨lmac, hE⟩ : ∃ l, l = nrm kAnd la lc := ⟨_, rfl⟩
        rw [← hE] at q mk
        clear hE
        obtain ⟨nomac, hamac, mmac, nmac⟩ := mk
        have Omac := hide nomac
        have Tmac := hide hamac
        clear nomac hamac
        go_wp2_with fail
        refine q.mono ?_
        rintro e w10 ⟨v, rfl, hr, hb10⟩
        obtain ⟨amac, cmac, rfl, hlmac⟩ := own_lies hr
        have hB := hB.trans (hb10.mono hB.size)
        have hla := hla.below hb10
        have hlb := hlb.below hb10
        have hlc := hlc.below hb10
        have hlab := hlab.below hb10
        have hlbc := hlbc.below hb10
        have hlx := hlx.below hb10
        have hly := hly.below hb10
        have hlmab := hlmab.below hb10
        clear q hr hb10
        have q := Meet_ok aa abc ca cbc la lbc w10 hla hlbc ma mbc (by omega)
        have mk := nrm_made (K := kAnd) rfl ma mbc
        obtain ⟨lp, hE⟩ : ∃ l, l = nrm kAnd la lbc := ⟨_, rfl⟩
        rw [← hE] at q mk
        clear hE
        obtain ⟨nop, hap, mp, np⟩ := mk
        have Op := hide nop
        have Tp := hide hap
        clear nop hap
        go_wp2_with fail
        refine q.mono ?_
        rintro e w11 ⟨v, rfl, hr, hb11⟩
        obtain ⟨ap, cp, rfl, hlp⟩ := own_lies hr
        have hB := hB.trans (hb11.mono hB.size)
        have hla := hla.below hb11
        have hlb := hlb.below hb11
        have hlc := hlc.below hb11
        have hlab := hlab.below hb11
        have hlbc := hlbc.below hb11
        have hlx := hlx.below hb11
        have hly := hly.below hb11
        have hlmab := hlmab.below hb11
        have hlmac := hlmac.below hb11
        clear q hr hb11
        have q := Union_ok amab amac cmab cmac lmab lmac w11 hlmab hlmac mmab mmac (by omega)
        have mk := nrm_made (K := kOr) rfl mmab mmac
        obtain ⟨lq1, hE⟩ : ∃ l, l = nrm kOr lmab lmac := ⟨_, rfl⟩
        rw [← hE] at q mk
        clear hE
        obtain ⟨noq1, haq1, mq1, nq1⟩ := mk
        have Oq1 := hide noq1
        have Tq1 := hide haq1
        clear noq1 haq1
        go_wp2_with fail
        refine q.mono ?_
        rintro e w12 ⟨v, rfl, hr, hb12⟩
        obtain ⟨aq1, cq1, rfl, hlq1⟩ := own_lies hr
        have hB := hB.trans (hb12.mono hB.size)
        have hla := hla.below hb12
        have hlb := hlb.below hb12
        have hlc := hlc.below hb12
        have hlab := hlab.below hb12
        have hlbc := hlbc.below hb12
        have hlx := hlx.below hb12
        have hly := hly.below hb12
        have hlmab := hlmab.below hb12
        have hlmac := hlmac.below hb12
        have hlp := hlp.below hb12
        clear q hr hb12
        have q := Minus_ok aa abc ca cbc la lbc w12 hla hlbc ma mbc (by omega)
        have mk := nrm_made (K := kNot) rfl ma mbc
        obtain ⟨ldc, hE⟩ : ∃ l, l = nrm kNot la lbc := ⟨_, rfl⟩
        rw [← hE] at q mk
        clear hE
        obtain ⟨nodc, hadc, mdc, ndc⟩ := mk
        have Odc := hide nodc
        have Tdc := hide hadc
        clear nodc hadc
        go_wp2_with fail
        refine q.mono ?_
        rintro e w13 ⟨v, rfl, hr, hb13⟩
        obtain ⟨adc, cdc, rfl, hldc⟩ := own_lies hr
        have hB := hB.trans (hb13.mono hB.size)
        have hla := hla.below hb13
        have hlb := hlb.below hb13
        have hlc := hlc.below hb13
        have hlab := hlab.below hb13
        have hlbc := hlbc.below hb13
        have hlx := hlx.below hb13
        have hly := hly.below hb13
        have hlmab := hlmab.below hb13
        have hlmac := hlmac.below hb13
        have hlp := hlp.below hb13
        have hlq1 := hlq1.below hb13
        clear q hr hb13
        have q := Minus_ok aa ab ca cb la lb w13 hla hlb ma mb (by omega)
        have mk := nrm_made (K := kNot) rfl ma mb
        obtain ⟨ld, hE⟩ : ∃ l, l = nrm kNot la lb := ⟨_, rfl⟩
        rw [← hE] at q mk
        clear hE
        obtain ⟨nod, had, md, nd⟩ := mk
        have Od := hide nod
        have Td := hide had
        clear nod had
        go_wp2_with fail
        refine q.mono ?_
        rintro e w14 ⟨v, rfl, hr, hb14⟩
        obtain ⟨ad, cd, rfl, hld⟩ := own_lies hr
        have hB := hB.trans (hb14.mono hB.size)
        have hla := hla.below hb14
        have hlb := hlb.below hb14
        have hlc := hlc.below hb14
        have hlab := hlab.below hb14
        have hlbc := hlbc.below hb14
        have hlx := hlx.below hb14
        have hly := hly.below hb14
        have hlmab := hlmab.below hb14
        have hlmac := hlmac.below hb14
        have hlp := hlp.below hb14
        have hlq1 := hlq1.below hb14
        have hldc := hldc.below hb14
        clear q hr hb14
        have q := Minus_ok ad ac cd cc ld lc w14 hld hlc md mc (by omega)
        have mk := nrm_made (K := kNot) rfl md mc
        obtain ⟨ldd, hE⟩ : ∃ l, l = nrm kNot ld lc := ⟨_, rfl⟩
        rw [← hE] at q mk
        clear hE
        obtain ⟨nodd, hadd, mdd, ndd⟩ := mk
        have Odd := hide nodd
        have Tdd := hide hadd
        clear nodd hadd
        go_wp2_with fail
        refine q.mono ?_
        rintro e w15 ⟨v, rfl, hr, hb15⟩
        obtain ⟨add, cdd, rfl, hldd⟩ := own_lies hr
        have hB := hB.trans (hb15.mono hB.size)
        have hla := hla.below hb15
        have hlb := hlb.below hb15
        have hlc := hlc.below hb15
        have hlab := hlab.below hb15
        have hlbc := hlbc.below hb15
        have hlx := hlx.below hb15
        have hly := hly.below hb15
        have hlmab := hlmab.below hb15
        have hlmac := hlmac.below hb15
        have hlp := hlp.below hb15
        have hlq1 := hlq1.below hb15
        have hldc := hldc.below hb15
        have hld := hld.below hb15
        clear q hr hb15
        have exy : lx = ly := Ox.out.unique Oy.out fun t => by
          simp only [Tx.out, Ty.out, Tab.out, Tbc.out, kOr]
          cases hasL la t <;> cases hasL lb t <;> cases hasL lc t <;> rfl
        have epq1 : lp = lq1 := Op.out.unique Oq1.out fun t => by
          simp only [Tp.out, Tq1.out, Tmab.out, Tmac.out, Tbc.out, kOr, kAnd]
          cases hasL la t <;> cases hasL lb t <;> cases hasL lc t <;> rfl
        have edcdd : ldc = ldd := Odc.out.unique Odd.out fun t => by
          simp only [Tdc.out, Tdd.out, Td.out, Tbc.out, kOr, kNot]
          cases hasL la t <;> cases hasL lb t <;> cases hasL lc t <;> rfl
        clear Tab Tbc Tx Ty Tmab Tmac Tp Tq1 Tdc Td Tdd
        clear Oab Obc Ox Oy Omab Omac Op Oq1 Odc Od Odd
        clear ma mb mc mab mbc mx my mmab mmac mp mq1 mdc md mdd
        clear hla hlb hlc hlab hlbc hlmab hlmac hld
        have Exy := hide exy
        have Epq := hide epq1
        have Edd := hide edcdd
        clear exy epq1 edcdd
        have exy := Exy.out
        have q := same_any ax ay cx cy lx w15 hlx (by rw [exy]; exact hly) (by omega)
        rw [show #[Value.slice ax lx.length cx, Value.slice ay lx.length cy] = #[.slice ax lx.length cx, .slice ay ly.length cy] by rw [exy]] at q
        have E := hide exy
        clear exy
        go_wp2_with fail
        refine q.mono ?_
        rintro e w16 ⟨rfl, hb16⟩
        have hB := hB.trans (hb16.mono hB.size)
        have hlx := hlx.below hb16
        have hly := hly.below hb16
        have hlp := hlp.below hb16
        have hlq1 := hlq1.below hb16
        have hldc := hldc.below hb16
        have hldd := hldd.below hb16
        clear q hb16
        have epq1 := Epq.out
        have q := same_any ap aq1 cp cq1 lp w16 hlp (by rw [epq1]; exact hlq1) (by omega)
        rw [show #[Value.slice ap lp.length cp, Value.slice aq1 lp.length cq1] = #[.slice ap lp.length cp, .slice aq1 lq1.length cq1] by rw [epq1]] at q
        have E := hide epq1
        clear epq1
        go_wp2_with fail
        refine q.mono ?_
        rintro e w17 ⟨rfl, hb17⟩
        have hB := hB.trans (hb17.mono hB.size)
        have hlx := hlx.below hb17
        have hly := hly.below hb17
        have hlp := hlp.below hb17
        have hlq1 := hlq1.below hb17
        have hldc := hldc.below hb17
        have hldd := hldd.below hb17
        clear q hb17
        have edcdd := Edd.out
        have q := same_any adc add cdc cdd ldc w17 hldc (by rw [edcdd]; exact hldd) (by omega)
        rw [show #[Value.slice adc ldc.length cdc, Value.slice add ldc.length cdd] = #[.slice adc ldc.length cdc, .slice add ldd.length cdd] by rw [edcdd]] at q
        have E := hide edcdd
        clear edcdd
        go_wp2_with fail
        refine q.mono ?_
        rintro e w18 ⟨rfl, hb18⟩
        have hB := hB.trans (hb18.mono hB.size)
        have hlx := hlx.below hb18
        have hly := hly.below hb18
        have hlp := hlp.below hb18
        have hlq1 := hlq1.below hb18
        have hldc := hldc.below hb18
        have hldd := hldd.below hb18
        clear q hb18
        go_wp2
        go_ret
        exact ⟨rfl, hB⟩

end Go.Proofs.Ytolgpdjimfodkaa.Sp
