/- SpanLaws: a normal list stays as it is when made so again; union and meet do not hang on the order; what is left, with what is in both, is the first; what is left of itself is nothing. Proved: for every lists, no condition. -/
import Derived.Test.YtolgpdjimfodkaaSpSound
import Derived.Shelf.SlSortCmp.QuietGrown
namespace Go.Proofs.Ytolgpdjimfodkaa.Sp
open Go.RowKit Go.Joins Gk

theorem below_grow (w : World) (k : Nat) (os : Array Obj) : Below w.heap.size w (Go.Sort.grow (w.drewN k) os) :=
  ⟨rfl, rfl, rfl, by simp [Go.Sort.grow], fun i hi => by simp [Go.Sort.grow, World.drewN, Array.getElem?_append, hi]⟩

/-- the walk of a quiet region, sealed -/
structure QW (P : Program) (ops : Array Oper) (C : World → Prop) (Q : Act → Prop) (l : List Oper) (a : Act) : Prop where
  out : wpQuiet P ops C Q l a
section
variable {P : Program} {ops : Array Oper} {C : World → Prop} {Q : Act → Prop} {o : Oper} {rest : List Oper} {a : Act}
theorem QW.step (h : ∀ K : Act → Prop, (∀ a, QW P ops C Q rest a → K a) → if Region.wanted o (yielded ops a.tmps) then o.quiet P a C K else K (a.put o.dst undef)) : QW P ops C Q (o :: rest) a :=
  ⟨wpQuiet_step fun K hK => h K fun a q => hK a q.out⟩
theorem QW.skip (h : Region.wanted o (yielded ops a.tmps) = false) (hr : QW P ops C Q rest (a.put o.dst undef)) : QW P ops C Q (o :: rest) a :=
  ⟨by unfold wpQuiet; rw [if_neg (by rw [h]; decide)]; exact hr.out⟩
theorem QW.nil (h : Q a) : QW P ops C Q [] a := ⟨h⟩
end

set_option maxHeartbeats 400000 in
theorem check_grow (s : Sp) (h : s.May) (W : World) :
    Calls Try.prog 19 #[sval s] W fun e w' => e = .returned (.int .i64 0) ∧ ∃ q os', w' = Go.Sort.grow (W.drewN q) os' := by
  have hc : chk s = 0 := by rw [chk, (may_iff s).2 h]; rfl
  rw [← hc]
  clear hc h
  go_enter Try.func19, Try.ntmps19
  go_wp2
  all_goals
    go_ret
    refine ⟨ret_int ?_, 0, _, by rw [Go.Sort.alloc_eq_grow]; rfl⟩
    rw [chk_eq]
    first
      | (simp_all; done)
      | (rw [if_neg (by simp; omega)]; simp_all; done)

set_option maxHeartbeats 12800000 in
set_option maxRecDepth 100000 in
theorem laws_law (aa : Option Addr) (ca : Nat) (la : List Sp) (ab : Option Addr) (cb : Nat) (lb : List Sp) (w : World) (ha : SpansAt w aa ca la) (hb : SpansAt w ab cb lb) :
    Calls Try.prog 5 #[.slice aa la.length ca, .slice ab lb.length cb] w fun e w' => e = .returned (.bool true) ∧ Below w.heap.size w w' := by
  have hna : la.length ≤ 9223372036854775807 := Nat.le_trans ha.room ha.max
  have hnb : lb.length ≤ 9223372036854775807 := Nat.le_trans hb.room hb.max
  have hla := ha.lies
  have hlb := hb.lies
  clear ha hb
  go_enter Try.func5, Try.ntmps5
  go_wp2_with fail
  refine (works_any w).mono ?_
  rintro e w1 ⟨rfl, hb1⟩
  have hB := hb1
  replace hla := hla.below hb1
  replace hlb := hlb.below hb1
  clear hb1
  have q := sound_any aa ca la w1 hla hna
  cases hsa : sndL la with
  | false =>
    rw [hsa] at q
    go_wp2_with fail
    refine q.mono ?_
    rintro e w' ⟨rfl, hb'⟩
    have hB' := hB.trans (hb'.mono hB.size)
    clear q hb'
    go_wp2
    go_ret
    exact ⟨rfl, hB'⟩
  | true =>
    rw [hsa] at q
    go_wp2_with fail
    refine q.mono ?_
    rintro e w2 ⟨rfl, hb2⟩
    replace hB := hB.trans (hb2.mono hB.size)
    replace hla := hla.below hb2
    replace hlb := hlb.below hb2
    clear q hb2
    obtain ⟨na, ma⟩ := sndL_may hsa
    clear hsa
    have q := sound_any ab cb lb w2 hlb hnb
    cases hsb : sndL lb with
    | false =>
      rw [hsb] at q
      go_wp2_with fail
      refine q.mono ?_
      rintro e w' ⟨rfl, hb'⟩
      have hB' := hB.trans (hb'.mono hB.size)
      clear q hb'
      go_wp2
      go_ret
      exact ⟨rfl, hB'⟩
    | true =>
      rw [hsb] at q
      go_wp2_with fail
      refine q.mono ?_
      rintro e w3 ⟨rfl, hb3⟩
      replace hB := hB.trans (hb3.mono hB.size)
      replace hla := hla.below hb3
      replace hlb := hlb.below hb3
      clear q hb3
      obtain ⟨nb, mb⟩ := sndL_may hsb
      clear hsb
      have q := Normal_ok aa ca la w3 hla ma (by omega)
      have mk := nrm_made (K := kOr) rfl ma MayL.nil
      obtain ⟨ln, hE⟩ : ∃ l, l = nrm kOr la [] := ⟨_, rfl⟩
      rw [← hE] at q mk
      clear hE
      obtain ⟨non, han, mn, nn⟩ := mk
      have On := hide non
      have Tn := hide han
      clear non han
      rw [List.length_nil, Nat.add_zero] at nn
      go_wp2_with fail
      refine q.mono ?_
      rintro e w4 ⟨v, rfl, hr, hb4⟩
      obtain ⟨an, cn, rfl, hln⟩ := own_lies hr
      replace hB := hB.trans (hb4.mono hB.size)
      replace hla := hla.below hb4
      replace hlb := hlb.below hb4
      clear q hr hb4
      have q := Normal_ok an cn ln w4 hln mn (by omega)
      have mk := nrm_made (K := kOr) rfl mn MayL.nil
      obtain ⟨lag, hE⟩ : ∃ l, l = nrm kOr ln [] := ⟨_, rfl⟩
      rw [← hE] at q mk
      clear hE
      obtain ⟨noag, haag, mag, nag⟩ := mk
      have Oag := hide noag
      have Tag := hide haag
      clear noag haag
      rw [List.length_nil, Nat.add_zero] at nag
      go_wp2_with fail
      refine q.mono ?_
      rintro e w5 ⟨v, rfl, hr, hb5⟩
      obtain ⟨aag, cag, rfl, hlag⟩ := own_lies hr
      replace hB := hB.trans (hb5.mono hB.size)
      replace hla := hla.below hb5
      replace hlb := hlb.below hb5
      replace hln := hln.below hb5
      clear q hr hb5
      have q := Union_ok aa ab ca cb la lb w5 hla hlb ma mb (by omega)
      have mk := nrm_made (K := kOr) rfl ma mb
      obtain ⟨lu, hE⟩ : ∃ l, l = nrm kOr la lb := ⟨_, rfl⟩
      rw [← hE] at q mk
      clear hE
      obtain ⟨nou, hau, mu, nu⟩ := mk
      have Ou := hide nou
      have Tu := hide hau
      clear nou hau
      go_wp2_with fail
      refine q.mono ?_
      rintro e w6 ⟨v, rfl, hr, hb6⟩
      obtain ⟨au, cu, rfl, hlu⟩ := own_lies hr
      replace hB := hB.trans (hb6.mono hB.size)
      replace hla := hla.below hb6
      replace hlb := hlb.below hb6
      replace hln := hln.below hb6
      replace hlag := hlag.below hb6
      clear q hr hb6
      have q := Union_ok ab aa cb ca lb la w6 hlb hla mb ma (by omega)
      have mk := nrm_made (K := kOr) rfl mb ma
      obtain ⟨lv1, hE⟩ : ∃ l, l = nrm kOr lb la := ⟨_, rfl⟩
      rw [← hE] at q mk
      clear hE
      obtain ⟨nov1, hav1, mv1, nv1⟩ := mk
      have Ov1 := hide nov1
      have Tv1 := hide hav1
      clear nov1 hav1
      go_wp2_with fail
      refine q.mono ?_
      rintro e w7 ⟨v, rfl, hr, hb7⟩
      obtain ⟨av1, cv1, rfl, hlv1⟩ := own_lies hr
      replace hB := hB.trans (hb7.mono hB.size)
      replace hla := hla.below hb7
      replace hlb := hlb.below hb7
      replace hln := hln.below hb7
      replace hlag := hlag.below hb7
      replace hlu := hlu.below hb7
      clear q hr hb7
      have q := Meet_ok aa ab ca cb la lb w7 hla hlb ma mb (by omega)
      have mk := nrm_made (K := kAnd) rfl ma mb
      obtain ⟨lmt, hE⟩ : ∃ l, l = nrm kAnd la lb := ⟨_, rfl⟩
      rw [← hE] at q mk
      clear hE
      obtain ⟨nomt, hamt, mmt, nmt⟩ := mk
      have Omt := hide nomt
      have Tmt := hide hamt
      clear nomt hamt
      go_wp2_with fail
      refine q.mono ?_
      rintro e w8 ⟨v, rfl, hr, hb8⟩
      obtain ⟨amt, cmt, rfl, hlmt⟩ := own_lies hr
      replace hB := hB.trans (hb8.mono hB.size)
      replace hla := hla.below hb8
      replace hlb := hlb.below hb8
      replace hln := hln.below hb8
      replace hlag := hlag.below hb8
      replace hlu := hlu.below hb8
      replace hlv1 := hlv1.below hb8
      clear q hr hb8
      have q := Meet_ok ab aa cb ca lb la w8 hlb hla mb ma (by omega)
      have mk := nrm_made (K := kAnd) rfl mb ma
      obtain ⟨lmw, hE⟩ : ∃ l, l = nrm kAnd lb la := ⟨_, rfl⟩
      rw [← hE] at q mk
      clear hE
      obtain ⟨nomw, hamw, mmw, nmw⟩ := mk
      have Omw := hide nomw
      have Tmw := hide hamw
      clear nomw hamw
      go_wp2_with fail
      refine q.mono ?_
      rintro e w9 ⟨v, rfl, hr, hb9⟩
      obtain ⟨amw, cmw, rfl, hlmw⟩ := own_lies hr
      replace hB := hB.trans (hb9.mono hB.size)
      replace hla := hla.below hb9
      replace hlb := hlb.below hb9
      replace hln := hln.below hb9
      replace hlag := hlag.below hb9
      replace hlu := hlu.below hb9
      replace hlv1 := hlv1.below hb9
      replace hlmt := hlmt.below hb9
      clear q hr hb9
      have q := Minus_ok aa ab ca cb la lb w9 hla hlb ma mb (by omega)
      have mk := nrm_made (K := kNot) rfl ma mb
      obtain ⟨ld, hE⟩ : ∃ l, l = nrm kNot la lb := ⟨_, rfl⟩
      rw [← hE] at q mk
      clear hE
      obtain ⟨nod, had, md, nd⟩ := mk
      have Od := hide nod
      have Td := hide had
      clear nod had
      go_wp2_with fail
      refine q.mono ?_
      rintro e w10 ⟨v, rfl, hr, hb10⟩
      obtain ⟨ad, cd, rfl, hld⟩ := own_lies hr
      replace hB := hB.trans (hb10.mono hB.size)
      replace hla := hla.below hb10
      replace hlb := hlb.below hb10
      replace hln := hln.below hb10
      replace hlag := hlag.below hb10
      replace hlu := hlu.below hb10
      replace hlv1 := hlv1.below hb10
      replace hlmt := hlmt.below hb10
      replace hlmw := hlmw.below hb10
      clear q hr hb10
      have q := Union_ok ad amt cd cmt ld lmt w10 hld hlmt md mmt (by omega)
      have mk := nrm_made (K := kOr) rfl md mmt
      obtain ⟨lbk, hE⟩ : ∃ l, l = nrm kOr ld lmt := ⟨_, rfl⟩
      rw [← hE] at q mk
      clear hE
      obtain ⟨nobk, habk, mbk, nbk⟩ := mk
      have Obk := hide nobk
      have Tbk := hide habk
      clear nobk habk
      go_wp2_with fail
      refine q.mono ?_
      rintro e w11 ⟨v, rfl, hr, hb11⟩
      obtain ⟨abk, cbk, rfl, hlbk⟩ := own_lies hr
      replace hB := hB.trans (hb11.mono hB.size)
      replace hla := hla.below hb11
      replace hlb := hlb.below hb11
      replace hln := hln.below hb11
      replace hlag := hlag.below hb11
      replace hlu := hlu.below hb11
      replace hlv1 := hlv1.below hb11
      replace hlmt := hlmt.below hb11
      replace hlmw := hlmw.below hb11
      replace hld := hld.below hb11
      clear q hr hb11
      have q := Minus_ok aa aa ca ca la la w11 hla hla ma ma (by omega)
      have mk := nrm_made (K := kNot) rfl ma ma
      obtain ⟨lno, hE⟩ : ∃ l, l = nrm kNot la la := ⟨_, rfl⟩
      rw [← hE] at q mk
      clear hE
      obtain ⟨nono, hano, mno, nno⟩ := mk
      have Ono := hide nono
      have Tno := hide hano
      clear nono hano
      go_wp2_with fail
      refine q.mono ?_
      rintro e w12 ⟨v, rfl, hr, hb12⟩
      obtain ⟨ano, cno, rfl, hlno⟩ := own_lies hr
      replace hB := hB.trans (hb12.mono hB.size)
      replace hla := hla.below hb12
      replace hlb := hlb.below hb12
      replace hln := hln.below hb12
      replace hlag := hlag.below hb12
      replace hlu := hlu.below hb12
      replace hlv1 := hlv1.below hb12
      replace hlmt := hlmt.below hb12
      replace hlmw := hlmw.below hb12
      replace hld := hld.below hb12
      replace hlbk := hlbk.below hb12
      clear q hr hb12
      have q := Meet_ok ad ab cd cb ld lb w12 hld hlb md mb (by omega)
      have mk := nrm_made (K := kAnd) rfl md mb
      obtain ⟨lap, hE⟩ : ∃ l, l = nrm kAnd ld lb := ⟨_, rfl⟩
      rw [← hE] at q mk
      clear hE
      obtain ⟨noap, haap, map, nap⟩ := mk
      have Oap := hide noap
      have Tap := hide haap
      clear noap haap
      go_wp2_with fail
      refine q.mono ?_
      rintro e w13 ⟨v, rfl, hr, hb13⟩
      obtain ⟨aap, cap, rfl, hlap⟩ := own_lies hr
      replace hB := hB.trans (hb13.mono hB.size)
      replace hla := hla.below hb13
      replace hlb := hlb.below hb13
      replace hln := hln.below hb13
      replace hlag := hlag.below hb13
      replace hlu := hlu.below hb13
      replace hlv1 := hlv1.below hb13
      replace hlmt := hlmt.below hb13
      replace hlmw := hlmw.below hb13
      replace hld := hld.below hb13
      replace hlbk := hlbk.below hb13
      replace hlno := hlno.below hb13
      clear q hr hb13
      have enag : ln = lag := On.out.unique Oag.out fun t => by
        simp only [Tag.out, kOr, show ∀ t, hasL [] t = false from fun _ => rfl]
        cases hasL ln t <;> rfl
      have euv1 : lu = lv1 := Ou.out.unique Ov1.out fun t => by
        simp only [Tu.out, Tv1.out, kOr]
        cases hasL la t <;> cases hasL lb t <;> rfl
      have emtmw : lmt = lmw := Omt.out.unique Omw.out fun t => by
        simp only [Tmt.out, Tmw.out, kAnd]
        cases hasL la t <;> cases hasL lb t <;> rfl
      have ebkn : lbk = ln := Obk.out.unique On.out fun t => by
        simp only [Tbk.out, Tn.out, Td.out, Tmt.out, kOr, kAnd, kNot, show ∀ t, hasL [] t = false from fun _ => rfl]
        cases hasL la t <;> cases hasL lb t <;> rfl
      have eno : lno = [] := Ono.out.unique Norm.nil fun t => by
        simp only [Tno.out, kNot, show ∀ t, hasL [] t = false from fun _ => rfl]
        cases hasL la t <;> rfl
      have eap : lap = [] := Oap.out.unique Norm.nil fun t => by
        simp only [Tap.out, Td.out, kAnd, kNot, show ∀ t, hasL [] t = false from fun _ => rfl]
        cases hasL la t <;> cases hasL lb t <;> rfl
      clear Tn Tag Tu Tv1 Tmt Tmw Td Tbk Tno Tap Oag Ou Ov1 Omt Omw Od Obk Ono Oap
      clear ma mb mag mu mv1 mmt mmw md mbk mno map
      subst eno eap
      clear hla hlb hld hlno hlap
      have E1 := hide enag
      have E2 := hide euv1
      have E3 := hide emtmw
      have E4 := hide ebkn
      have M := hide mn
      clear enag euv1 emtmw ebkn mn
      have enag := E1.out
      have q := same_any an aag cn cag ln w13 hln (by rw [enag]; exact hlag) (by omega)
      rw [show #[Value.slice an ln.length cn, Value.slice aag ln.length cag] = #[.slice an ln.length cn, .slice aag lag.length cag] by rw [enag]] at q
      have E := hide enag
      clear enag
      go_wp2_with fail
      refine q.mono ?_
      rintro e w14 ⟨rfl, hb14⟩
      replace hB := hB.trans (hb14.mono hB.size)
      replace hln := hln.below hb14
      replace hlag := hlag.below hb14
      replace hlu := hlu.below hb14
      replace hlv1 := hlv1.below hb14
      replace hlmt := hlmt.below hb14
      replace hlmw := hlmw.below hb14
      replace hlbk := hlbk.below hb14
      clear q hb14
      have euv1 := E2.out
      have q := same_any au av1 cu cv1 lu w14 hlu (by rw [euv1]; exact hlv1) (by omega)
      rw [show #[Value.slice au lu.length cu, Value.slice av1 lu.length cv1] = #[.slice au lu.length cu, .slice av1 lv1.length cv1] by rw [euv1]] at q
      have E := hide euv1
      clear euv1
      go_wp2_with fail
      refine q.mono ?_
      rintro e w15 ⟨rfl, hb15⟩
      replace hB := hB.trans (hb15.mono hB.size)
      replace hln := hln.below hb15
      replace hlag := hlag.below hb15
      replace hlu := hlu.below hb15
      replace hlv1 := hlv1.below hb15
      replace hlmt := hlmt.below hb15
      replace hlmw := hlmw.below hb15
      replace hlbk := hlbk.below hb15
      clear q hb15
      have emtmw := E3.out
      have q := same_any amt amw cmt cmw lmt w15 hlmt (by rw [emtmw]; exact hlmw) (by omega)
      rw [show #[Value.slice amt lmt.length cmt, Value.slice amw lmt.length cmw] = #[.slice amt lmt.length cmt, .slice amw lmw.length cmw] by rw [emtmw]] at q
      have E := hide emtmw
      clear emtmw
      go_wp2_with fail
      refine q.mono ?_
      rintro e w16 ⟨rfl, hb16⟩
      replace hB := hB.trans (hb16.mono hB.size)
      replace hln := hln.below hb16
      replace hlag := hlag.below hb16
      replace hlu := hlu.below hb16
      replace hlv1 := hlv1.below hb16
      replace hlmt := hlmt.below hb16
      replace hlmw := hlmw.below hb16
      replace hlbk := hlbk.below hb16
      clear q hb16
      have ebkn := E4.out
      have q := same_any abk an cbk cn lbk w16 hlbk (by rw [ebkn]; exact hln) (by omega)
      rw [show #[Value.slice abk lbk.length cbk, Value.slice an lbk.length cn] = #[.slice abk lbk.length cbk, .slice an ln.length cn] by rw [ebkn]] at q
      have E := hide ebkn
      clear ebkn
      go_wp2_with fail
      refine q.mono ?_
      rintro e w17 ⟨rfl, hb17⟩
      replace hB := hB.trans (hb17.mono hB.size)
      replace hln := hln.below hb17
      replace hlag := hlag.below hb17
      replace hlu := hlu.below hb17
      replace hlv1 := hlv1.below hb17
      replace hlmt := hlmt.below hb17
      replace hlmw := hlmw.below hb17
      replace hlbk := hlbk.below hb17
      clear q hb17
      clear hlag hlu hlv1 hlmt hlmw hlbk
      go_wp2
      have mixed : Try.prog.follows .mixedOrders = true := by kernel_rfl
      go_loopw [133] (fun i wr => ∃ k : Nat, k ≤ ln.length ∧ i = .int .i64 k ∧ Below w.heap.size w wr ∧ Lies wr senc an ln) (fun i _ => ln.length - (intOf i).toNat)
      case atStart => exact ⟨0, Nat.zero_le _, rfl, hB, hln⟩
      case round =>
        clear hB hln
        obtain ⟨k, hk, rfl, hB, hln⟩ := hrel
        by_cases hlt : k < ln.length
        · obtain ⟨bn, off, rfl, hbl, hc⟩ := hln.at (k := 2) senc_len k hlt
          have c0 := hc 0 _ rfl
          have c1 := hc 1 _ rfl
          rw [Nat.add_zero] at c0
          have i1 : (0 : Int) ≤ (k : Int) := by omega
          have i2 : (k : Int) < (ln.length : Int) := by omega
          have hm := M.out ln[k] (List.getElem_mem hlt)
          have hck := fun W => check_grow ln[k] hm W
          unfold sval at hck
          have HD := hide (fun (j : Nat) (hj : j < ln.length) (h : j + 1 = k) => List.pairwise_iff_getElem.1 On.out.pair j k hj hlt (by omega))
          obtain ⟨s, hs⟩ : ∃ s, ln[k] = s := ⟨_, rfl⟩
          rw [hs] at c0 c1 hck HD
          clear hc hs hm
          have A0 := heap_alloc_new wr (.cells #[.string s.fr, .string s.to] 35)
          have hb1 := below_alloc1 wr (.cells #[.string s.fr, .string s.to] 35)
          by_cases hk0 : k = 0
          · subst hk0
            simp only [Nat.zero_mul, Nat.add_zero] at c0 c1
            go_wp2_with fail
            obtain ⟨W1, hW1⟩ : ∃ W1, wr.alloc (.cells #[.string s.fr, .string s.to] 35) = W1 := ⟨_, rfl⟩
            rw [hW1] at A0 hb1
            have k0 : ∀ n os, (Go.Sort.grow (W1.drewN n) os).cell? ⟨wr.heap.size, 0, none⟩ = some (.string s.fr) := fun n os => cell_grown (w := W1) (a := ⟨wr.heap.size, 0, none⟩) (by rw [← hW1]; show wr.heap.size < _; simp) (by rw [cell_of_block A0]; rfl) n os
            have k1 : ∀ n os, (Go.Sort.grow (W1.drewN n) os).cell? ⟨wr.heap.size, 1, none⟩ = some (.string s.to) := fun n os => cell_grown (w := W1) (a := ⟨wr.heap.size, 1, none⟩) (by rw [← hW1]; show wr.heap.size < _; simp) (by rw [cell_of_block A0]; rfl) n os
            have hbb := hb1.size
            have hgr := fun n os => hB.trans ((hb1.trans ((below_grow W1 n os).mono hbb)).mono hB.size)
            have hgl := fun n os => hln.below (hb1.trans ((below_grow W1 n os).mono hbb))
            rw [hW1]
            clear hW1 A0 hb1 hB
            refine wp_region_quiet_grown (by assumption) (by kernel_rfl) ?_
            refine QW.out ?_
            refine QW.step (fun K hK => ?_)
            go_simp
            refine hK _ ?_
            clear hK K
            refine QW.step (fun K hK => ?_)
            go_simp
            apply Exists.intro
            refine ⟨fun _ => ?_, hK _ ?_⟩
            · go_at_call 19; exact Calls.grown_of (hck _)
            clear hK K
            refine QW.step (fun K hK => ?_)
            go_simp
            refine hK _ ?_
            clear hK K
            refine QW.step (fun K hK => ?_)
            go_simp
            refine hK _ ?_
            clear hK K
            refine QW.step (fun K hK => ?_)
            go_simp
            refine hK _ ?_
            clear hK K
            refine QW.step (fun K hK => ?_)
            go_simp
            refine hK _ ?_
            clear hK K
            refine QW.step (fun K hK => ?_)
            go_simp
            refine hK _ ?_
            clear hK K
            refine QW.skip (by kernel_rfl) ?_
            simp only [Act.put, List.setIfInBounds_toArray, List.set_cons_zero, List.set_cons_succ]
            refine QW.skip (by kernel_rfl) ?_
            simp only [Act.put, List.setIfInBounds_toArray, List.set_cons_zero, List.set_cons_succ]
            refine QW.skip (by kernel_rfl) ?_
            simp only [Act.put, List.setIfInBounds_toArray, List.set_cons_zero, List.set_cons_succ]
            refine QW.skip (by kernel_rfl) ?_
            simp only [Act.put, List.setIfInBounds_toArray, List.set_cons_zero, List.set_cons_succ]
            refine QW.skip (by kernel_rfl) ?_
            simp only [Act.put, List.setIfInBounds_toArray, List.set_cons_zero, List.set_cons_succ]
            refine QW.skip (by kernel_rfl) ?_
            simp only [Act.put, List.setIfInBounds_toArray, List.set_cons_zero, List.set_cons_succ]
            refine QW.skip (by kernel_rfl) ?_
            simp only [Act.put, List.setIfInBounds_toArray, List.set_cons_zero, List.set_cons_succ]
            refine QW.skip (by kernel_rfl) ?_
            simp only [Act.put, List.setIfInBounds_toArray, List.set_cons_zero, List.set_cons_succ]
            refine QW.skip (by kernel_rfl) ?_
            simp only [Act.put, List.setIfInBounds_toArray, List.set_cons_zero, List.set_cons_succ]
            refine QW.skip (by kernel_rfl) ?_
            simp only [Act.put, List.setIfInBounds_toArray, List.set_cons_zero, List.set_cons_succ]
            refine QW.skip (by kernel_rfl) ?_
            simp only [Act.put, List.setIfInBounds_toArray, List.set_cons_zero, List.set_cons_succ]
            refine QW.skip (by kernel_rfl) ?_
            simp only [Act.put, List.setIfInBounds_toArray, List.set_cons_zero, List.set_cons_succ]
            refine QW.skip (by kernel_rfl) ?_
            simp only [Act.put, List.setIfInBounds_toArray, List.set_cons_zero, List.set_cons_succ]
            refine QW.skip (by kernel_rfl) ?_
            simp only [Act.put, List.setIfInBounds_toArray, List.set_cons_zero, List.set_cons_succ]
            refine QW.skip (by kernel_rfl) ?_
            simp only [Act.put, List.setIfInBounds_toArray, List.set_cons_zero, List.set_cons_succ]
            refine QW.skip (by kernel_rfl) ?_
            simp only [Act.put, List.setIfInBounds_toArray, List.set_cons_zero, List.set_cons_succ]
            refine QW.skip (by kernel_rfl) ?_
            simp only [Act.put, List.setIfInBounds_toArray, List.set_cons_zero, List.set_cons_succ]
            refine QW.skip (by kernel_rfl) ?_
            simp only [Act.put, List.setIfInBounds_toArray, List.set_cons_zero, List.set_cons_succ]
            refine QW.step (fun K hK => ?_)
            go_simp
            refine hK _ ?_
            clear hK K
            refine QW.step (fun K hK => ?_)
            go_simp
            refine hK _ ?_
            clear hK K
            refine QW.nil ?_
            rintro w3 ⟨⟨nq, osq⟩, rfl⟩
            replace hgr := hgr nq osq
            replace hgl := hgl nq osq
            generalize Go.Sort.grow (W1.drewN nq) osq = w3 at hgr hgl ⊢
            go_wp2
            go_roundw
            case rel => exact ⟨1, by omega, by go_num, hgr, hgl⟩
            case measure => simp [intOf]; omega
          · obtain ⟨j, rfl⟩ : ∃ j, k = j + 1 := ⟨k - 1, by omega⟩
            obtain ⟨bn', off', e', -, hc'⟩ := hln.at (k := 2) senc_len j (by omega)
            cases e'
            have cp := hc' 1 _ rfl
            obtain ⟨d1, d2⟩ := HD.out j (by omega) rfl
            obtain ⟨p, hp⟩ : ∃ p, ln[j] = p := ⟨_, rfl⟩
            rw [hp] at cp d1 d2
            clear hc' hp
            have g1 : decide (((j + 1 : Nat) : Int) > 0) = true := decide_eq_true (by omega)
            have g1' : decide ((j : Int) + 1 > 0) = true := decide_eq_true (by omega)
            have g2 : IntKind.i64.wrap (j : Int) = (j : Int) := by rw [IntKind.wrap_i64]; omega
            have g3 : p.to.toList.isEmpty = false := by rw [empty_nix]; simpa using d1
            have g4 : Op.bytesLess p.to.toList s.fr.toList = true := by rw [less_b4]; exact d2
            have i3 : (0 : Int) ≤ (j : Int) := by omega
            have i4 : (j : Int) < (ln.length : Int) := by omega
            go_wp2_with fail
            obtain ⟨W1, hW1⟩ : ∃ W1, wr.alloc (.cells #[.string s.fr, .string s.to] 35) = W1 := ⟨_, rfl⟩
            rw [hW1] at A0 hb1
            have k0 : ∀ n os, (Go.Sort.grow (W1.drewN n) os).cell? ⟨wr.heap.size, 0, none⟩ = some (.string s.fr) := fun n os => cell_grown (w := W1) (a := ⟨wr.heap.size, 0, none⟩) (by rw [← hW1]; show wr.heap.size < _; simp) (by rw [cell_of_block A0]; rfl) n os
            have k1 : ∀ n os, (Go.Sort.grow (W1.drewN n) os).cell? ⟨wr.heap.size, 1, none⟩ = some (.string s.to) := fun n os => cell_grown (w := W1) (a := ⟨wr.heap.size, 1, none⟩) (by rw [← hW1]; show wr.heap.size < _; simp) (by rw [cell_of_block A0]; rfl) n os
            have hbb := hb1.size
            have k2 := fun n os => cell_grown (w := W1) (a := ⟨bn, off + j * 2 + 1, none⟩) (Nat.lt_of_lt_of_le hbl hbb) ((hb1.cell (p := ⟨bn, off + j * 2 + 1, none⟩) hbl).trans cp) n os
            clear cp c0 c1
            have hgr := fun n os => hB.trans ((hb1.trans ((below_grow W1 n os).mono hbb)).mono hB.size)
            have hgl := fun n os => hln.below (hb1.trans ((below_grow W1 n os).mono hbb))
            rw [hW1]
            clear hW1 A0 hb1 hB
            refine wp_region_quiet_grown (by assumption) (by kernel_rfl) ?_
            refine QW.out ?_
            refine QW.step (fun K hK => ?_)
            go_simp
            refine hK _ ?_
            clear hK K
            refine QW.step (fun K hK => ?_)
            go_simp
            apply Exists.intro
            refine ⟨fun _ => ?_, hK _ ?_⟩
            · go_at_call 19; exact Calls.grown_of (hck _)
            clear hK K
            refine QW.step (fun K hK => ?_)
            go_simp
            refine hK _ ?_
            clear hK K
            refine QW.step (fun K hK => ?_)
            go_simp
            refine hK _ ?_
            clear hK K
            refine QW.step (fun K hK => ?_)
            go_simp
            refine hK _ ?_
            clear hK K
            refine QW.step (fun K hK => ?_)
            go_simp
            refine hK _ ?_
            clear hK K
            refine QW.step (fun K hK => ?_)
            go_simp
            refine hK _ ?_
            clear hK K
            refine QW.step (fun K hK => ?_)
            go_simp
            refine hK _ ?_
            clear hK K
            refine QW.step (fun K hK => ?_)
            go_simp
            refine hK _ ?_
            clear hK K
            refine QW.step (fun K hK => ?_)
            go_simp
            refine hK _ ?_
            clear hK K
            refine QW.step (fun K hK => ?_)
            go_simp
            refine hK _ ?_
            clear hK K
            refine QW.step (fun K hK => ?_)
            go_simp
            refine hK _ ?_
            clear hK K
            refine QW.step (fun K hK => ?_)
            go_simp
            refine hK _ ?_
            clear hK K
            refine QW.step (fun K hK => ?_)
            go_simp
            refine hK _ ?_
            clear hK K
            refine QW.step (fun K hK => ?_)
            go_simp
            refine hK _ ?_
            clear hK K
            refine QW.step (fun K hK => ?_)
            go_simp
            refine hK _ ?_
            clear hK K
            refine QW.step (fun K hK => ?_)
            go_simp
            refine hK _ ?_
            clear hK K
            refine QW.step (fun K hK => ?_)
            go_simp
            refine hK _ ?_
            clear hK K
            refine QW.step (fun K hK => ?_)
            go_simp
            refine hK _ ?_
            clear hK K
            refine QW.step (fun K hK => ?_)
            go_simp
            refine hK _ ?_
            clear hK K
            refine QW.step (fun K hK => ?_)
            go_simp
            refine hK _ ?_
            clear hK K
            refine QW.step (fun K hK => ?_)
            go_simp
            refine hK _ ?_
            clear hK K
            refine QW.step (fun K hK => ?_)
            go_simp
            refine hK _ ?_
            clear hK K
            refine QW.step (fun K hK => ?_)
            go_simp
            refine hK _ ?_
            clear hK K
            refine QW.step (fun K hK => ?_)
            go_simp
            refine hK _ ?_
            clear hK K
            refine QW.step (fun K hK => ?_)
            go_simp
            refine hK _ ?_
            clear hK K
            refine QW.step (fun K hK => ?_)
            go_simp
            refine hK _ ?_
            clear hK K
            refine QW.nil ?_
            rintro w3 ⟨⟨nq, osq⟩, rfl⟩
            replace hgr := hgr nq osq
            replace hgl := hgl nq osq
            generalize Go.Sort.grow (W1.drewN nq) osq = w3 at hgr hgl ⊢
            go_wp2
            go_roundw
            case rel => exact ⟨j + 1 + 1, by omega, by go_num, hgr, hgl⟩
            case measure => simp [intOf]; omega
        · go_wp2
          go_ret
          exact ⟨rfl, hB⟩

end Go.Proofs.Ytolgpdjimfodkaa.Sp
