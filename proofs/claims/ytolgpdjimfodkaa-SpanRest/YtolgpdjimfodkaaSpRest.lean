/- SpanRest: what is not in what is not in a list is the list; a list and the rest have all texts, and none twice. Proved: for every lists, no condition. -/
import Derived.Test.YtolgpdjimfodkaaSpSound
namespace Go.Proofs.Ytolgpdjimfodkaa.Sp
open Go.RowKit Go.Joins Gk

def allL : List Sp := [⟨nix, nix⟩]
theorem may_all : MayL allL := by intro s hs; simp [allL] at hs; subst hs; exact ⟨by show 0 ≤ 64; omega, by show 0 ≤ 64; omega, Or.inl rfl⟩
theorem norm_all : Norm allL := ⟨by intro s hs; simp [allL] at hs; subst hs; exact Or.inl rfl, by simp [allL]⟩
theorem hasL_all (t : ByteArray) : hasL allL t = true := by simp [hasL, allL, Sp.has, B4.none]

set_option maxHeartbeats 12800000 in
set_option maxRecDepth 100000 in
theorem rest_law (aa : Option Addr) (ca : Nat) (la : List Sp) (w : World) (ha : SpansAt w aa ca la) :
    Calls Try.prog 7 #[.slice aa la.length ca] w fun e w' => e = .returned (.bool true) ∧ Below w.heap.size w w' := by
  have hna : la.length ≤ 9223372036854775807 := Nat.le_trans ha.room ha.max
  have hla := ha.lies
  clear ha
  go_enter Try.func7, Try.ntmps7
  go_wp2_with fail
  refine (works_any w).mono ?_
  rintro e w1 ⟨rfl, hb1⟩
  have hB := hb1
  have hla := hla.below hb1
  clear hb1
  have q := sound_any aa ca la w1 hla hna
  cases hsa : sndL la with
  | false =>
    rw [hsa] at q
    go_wp2_with fail
    refine q.mono ?_
    rintro e w' ⟨rfl, hb'⟩
    have hB' := hB.trans (hb'.mono hB.size)
    clear q hb'
    go_wp2
    go_ret
    exact ⟨rfl, hB'⟩
  | true =>
    rw [hsa] at q
    go_wp2_with fail
    refine q.mono ?_
    rintro e w2 ⟨rfl, hb2⟩
    have hB := hB.trans (hb2.mono hB.size)
    have hla := hla.below hb2
    clear q hb2
    obtain ⟨na, ma⟩ := sndL_may hsa
    clear hsa
    have hA := heap_alloc_new w2 (.cells #[.string ⟨#[]⟩, .string ⟨#[]⟩] SpT)
    have hb' := below_alloc1 w2 (.cells #[.string ⟨#[]⟩, .string ⟨#[]⟩] SpT)
    obtain ⟨w3, hw⟩ : ∃ W, W = w2.alloc (.cells #[.string ⟨#[]⟩, .string ⟨#[]⟩] SpT) := ⟨_, rfl⟩
    rw [← hw] at hA hb'
    have HW := hide hw
    clear hw
    have hlall : Lies w3 senc (some ⟨w2.heap.size, 0, none⟩) allL := lies_blk hA rfl
    have hB := hB.trans (hb'.mono hB.size)
    have hla := hla.below hb'
    clear hA hb'
    have mall := may_all
    have nall : allL.length = 1 := rfl
    have q := Normal_ok aa ca la w3 hla ma (by omega)
    have mk := nrm_made (K := kOr) rfl ma MayL.nil
    obtain ⟨ln, hE⟩ : ∃ l, l = nrm kOr la [] := ⟨_, rfl⟩
    rw [← hE] at q mk
    clear hE
    obtain ⟨non, han, mn, nn⟩ := mk
    have On := hide non
    have Tn := hide han
    clear non han
    rw [List.length_nil, Nat.add_zero] at nn
    go_wp2_with fail
    rw [show (35 : Nat) = SpT from rfl, ← HW.out]
    clear HW
    refine q.mono ?_
    rintro e w4 ⟨v, rfl, hr, hb4⟩
    obtain ⟨an, cn, rfl, hln⟩ := own_lies hr
    have hB := hB.trans (hb4.mono hB.size)
    have hla := hla.below hb4
    have hlall := hlall.below hb4
    clear q hr hb4
    have q := Minus_ok (some ⟨w2.heap.size, 0, none⟩) aa 1 ca allL la w4 hlall hla mall ma (by omega)
    have mk := nrm_made (K := kNot) rfl mall ma
    obtain ⟨lrs, hE⟩ : ∃ l, l = nrm kNot allL la := ⟨_, rfl⟩
    rw [← hE] at q mk
    clear hE
    obtain ⟨nors, hars, mrs, nrs⟩ := mk
    have Ors := hide nors
    have Trs := hide hars
    clear nors hars
    go_wp2_with fail
    refine q.mono ?_
    rintro e w5 ⟨v, rfl, hr, hb5⟩
    obtain ⟨ars, crs, rfl, hlrs⟩ := own_lies hr
    have hB := hB.trans (hb5.mono hB.size)
    have hla := hla.below hb5
    have hlall := hlall.below hb5
    have hln := hln.below hb5
    clear q hr hb5
    have q := Minus_ok (some ⟨w2.heap.size, 0, none⟩) ars 1 crs allL lrs w5 hlall hlrs mall mrs (by omega)
    have mk := nrm_made (K := kNot) rfl mall mrs
    obtain ⟨lbk, hE⟩ : ∃ l, l = nrm kNot allL lrs := ⟨_, rfl⟩
    rw [← hE] at q mk
    clear hE
    obtain ⟨nobk, habk, mbk, nbk⟩ := mk
    have Obk := hide nobk
    have Tbk := hide habk
    clear nobk habk
    go_wp2_with fail
    refine q.mono ?_
    rintro e w6 ⟨v, rfl, hr, hb6⟩
    obtain ⟨abk, cbk, rfl, hlbk⟩ := own_lies hr
    have hB := hB.trans (hb6.mono hB.size)
    have hla := hla.below hb6
    have hlall := hlall.below hb6
    have hln := hln.below hb6
    have hlrs := hlrs.below hb6
    clear q hr hb6
    have q := Union_ok an ars cn crs ln lrs w6 hln hlrs mn mrs (by omega)
    have mk := nrm_made (K := kOr) rfl mn mrs
    obtain ⟨lbo, hE⟩ : ∃ l, l = nrm kOr ln lrs := ⟨_, rfl⟩
    rw [← hE] at q mk
    clear hE
    obtain ⟨nobo, habo, mbo, nbo⟩ := mk
    have Obo := hide nobo
    have Tbo := hide habo
    clear nobo habo
    go_wp2_with fail
    refine q.mono ?_
    rintro e w7 ⟨v, rfl, hr, hb7⟩
    obtain ⟨abo, cbo, rfl, hlbo⟩ := own_lies hr
    have hB := hB.trans (hb7.mono hB.size)
    have hla := hla.below hb7
    have hlall := hlall.below hb7
    have hln := hln.below hb7
    have hlrs := hlrs.below hb7
    have hlbk := hlbk.below hb7
    clear q hr hb7
    have q := Meet_ok an ars cn crs ln lrs w7 hln hlrs mn mrs (by omega)
    have mk := nrm_made (K := kAnd) rfl mn mrs
    obtain ⟨lno, hE⟩ : ∃ l, l = nrm kAnd ln lrs := ⟨_, rfl⟩
    rw [← hE] at q mk
    clear hE
    obtain ⟨nono, hano, mno, nno⟩ := mk
    have Ono := hide nono
    have Tno := hide hano
    clear nono hano
    go_wp2_with fail
    refine q.mono ?_
    rintro e w8 ⟨v, rfl, hr, hb8⟩
    obtain ⟨ano, cno, rfl, hlno⟩ := own_lies hr
    have hB := hB.trans (hb8.mono hB.size)
    have hla := hla.below hb8
    have hlall := hlall.below hb8
    have hln := hln.below hb8
    have hlrs := hlrs.below hb8
    have hlbk := hlbk.below hb8
    have hlbo := hlbo.below hb8
    clear q hr hb8
    have ebkn : lbk = ln := Obk.out.unique On.out fun t => by
      simp only [hasL_all, Tbk.out, Tn.out, Trs.out, kOr, kNot, show ∀ t, hasL [] t = false from fun _ => rfl]
      cases hasL la t <;> rfl
    have eboall : lbo = allL := Obo.out.unique norm_all fun t => by
      simp only [hasL_all, Tbo.out, Tn.out, Trs.out, kOr, kNot, show ∀ t, hasL [] t = false from fun _ => rfl]
      cases hasL la t <;> rfl
    have eno : lno = [] := Ono.out.unique Norm.nil fun t => by
      simp only [hasL_all, Tno.out, Tn.out, Trs.out, kOr, kAnd, kNot, show ∀ t, hasL [] t = false from fun _ => rfl]
      cases hasL la t <;> rfl
    clear Tn Trs Tbk Tbo Tno On Ors Obk Obo Ono ma mn mrs mbk mbo mno mall
    subst eno
    clear hla hlrs hlno
    have Eb := hide eboall
    clear eboall
    have q := same_any abk an cbk cn lbk w8 hlbk (by rw [ebkn]; exact hln) (by omega)
    rw [show #[Value.slice abk lbk.length cbk, Value.slice an lbk.length cn] = #[.slice abk lbk.length cbk, .slice an ln.length cn] by rw [ebkn]] at q
    have E := hide ebkn
    clear ebkn
    go_wp2_with fail
    refine q.mono ?_
    rintro e w9 ⟨rfl, hb9⟩
    have hB := hB.trans (hb9.mono hB.size)
    have hlall := hlall.below hb9
    have hln := hln.below hb9
    have hlbk := hlbk.below hb9
    have hlbo := hlbo.below hb9
    clear q hb9
    have eboall := Eb.out
    clear hlbk hln nbk
    have q := same_any abo (some ⟨w2.heap.size, 0, none⟩) cbo 1 lbo w9 hlbo (by rw [eboall]; exact hlall) (by omega)
    rw [show #[Value.slice abo lbo.length cbo, Value.slice (some ⟨w2.heap.size, 0, none⟩) lbo.length 1] = #[.slice abo lbo.length cbo, .slice (some ⟨w2.heap.size, 0, none⟩) allL.length 1] by rw [eboall]] at q
    have E := hide eboall
    clear eboall
    go_wp2_with fail
    refine q.mono ?_
    rintro e w10 ⟨rfl, hb10⟩
    have hB := hB.trans (hb10.mono hB.size)
    have hlall := hlall.below hb10
    have hlbo := hlbo.below hb10
    clear q hb10
    go_wp2
    go_ret
    exact ⟨rfl, hB⟩

end Go.Proofs.Ytolgpdjimfodkaa.Sp
