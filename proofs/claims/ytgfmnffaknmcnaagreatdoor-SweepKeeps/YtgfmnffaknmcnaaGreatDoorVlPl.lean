/- Walks over vals/file.go: placesIn, tidy, end. -/
import Derived.Test.YtgfmnffaknmcnaaGreatDoorVlRd
import Derived.RegionDies
namespace Go.Proofs.YtgfmnffaknmcnaaGreatDoor.Vl
open Go.RowKit Go.Joins
open Go.Proofs.YtgfmnffaknmcnaaGreatDoor.Dk (Bs Fil Fls St St.Ok Held Only Rising named getL getL_some)

abbrev PlT : TypeId := 42
theorem pl_info : (Tryz.prog.info? PlT).map (fun i => (i.zero, i.size, i.bytes)) = some (some (.agg #[.int .i64 0, .int .i64 0, .int .i64 0]), 3, 24) := by kernel_rfl
abbrev plE (p : Nat × Nat × Nat) : List Value := [.int .i64 p.1, .int .i64 p.2.1, .int .i64 p.2.2]
theorem plE_len (p : Nat × Nat × Nat) : (plE p).length = 3 := rfl
theorem plE_one (p : Nat × Nat × Nat) : ∀ u ∈ plE p, u.oneCell' = true := by
  intro u hu
  simp only [plE, List.mem_cons, List.not_mem_nil, or_false] at hu
  rcases hu with rfl | rfl | rfl <;> rfl
/-- the places in a text -/
abbrev plcsOf (n : Nat) (s : ByteArray) : List (Nat × Nat × Nat) := plcs n 0 (frames s).1

set_option maxRecDepth 100000 in
set_option maxHeartbeats 1600000 in
theorem placesIn_any (n : Nat) (s : ByteArray) (w : World) (hs : s.size ≤ 4000000) :
    Calls Tryz.prog 76 #[.int .i64 n, .string s] w fun e w' => ∃ v, e = .returned (.tuple #[v, .int .i64 (frames s).2]) ∧ w'.ownsRow w.heap.size PlT 3 v (plcsOf n s).length (Gk.rc plE (plcsOf n s)) ∧ Below w.heap.size w w' := by
  unfold plcsOf
  obtain ⟨D, hD⟩ : ∃ D, D = frames s := ⟨_, rfl⟩
  have HD : Hid (framesF s (s.size + 1) 0 [] = D) := by show _ = _; rw [hD, frames]
  rw [← hD]
  clear hD
  go_enter Tryz.func76, Tryz.ntmps76
  go_wp2
  go_loopw [4, 5] (fun v i wr => ∃ (p f : Nat) (l : List ByteArray), i = .int .i64 p ∧ p ≤ s.size ∧ s.size < p + f ∧ l.length * 8 ≤ p ∧ p = lens l ∧ framesF s f p l = D ∧ wr.ownsRow w.heap.size PlT 3 v (plcs n 0 l).length (Gk.rc plE (plcs n 0 l)) ∧ Below w.heap.size w wr) (fun _ i _ => s.size - (intOf i).toNat)
  case atStart => exact ⟨0, s.size + 1, [], rfl, by omega, by omega, by simp, rfl, HD.out, World.ownsRow_nil _ _ _ _, Below.refl _ _⟩
  case round =>
    obtain ⟨p, f, l, rfl, hp, hf, hl, hpl, hfr, hown, hbel⟩ := hrel
    obtain ⟨a, cap, rfl⟩ := Gk.own_slice hown
    have hz := hbel.size
    have HF := hide hfr
    have HPL := hide hpl
    clear HD hfr hpl
    go_wp2_with fail
    refine (Unframe_any s p wr (by omega) (by omega) (by omega)).mono ?_
    rintro e w1 ⟨rfl, hb1⟩
    have hbel1 := hbel.trans (hb1.mono hz)
    have hzz := hbel1.size
    have hown1 := Gk.own_below hown hb1
    clear hbel hb1 hown
    by_cases he : (unf (s.data.toList.drop p)).2.2 ≠ 0
    · have HR := hide (framesF_end HF.out hf hp he)
      have hU : unframe s p = (⟨#[]⟩, 0, (p : Int), (((unf (s.data.toList.drop p)).2.2 : Nat) : Int)) := by
        rw [unframe, if_neg (by omega), Int.toNat_natCast, if_neg he]
      rw [unframeV, hU]
      obtain ⟨er, her⟩ : ∃ er, er = (unf (s.data.toList.drop p)).2.2 := ⟨_, rfl⟩
      rw [← her] at he ⊢
      have be : ((er : Int) != 0) = true := by rw [bne_iff_ne]; omega
      clear hU her
      go_wp2
      go_ret2
      rw [HR.out]
      exact ⟨_, rfl, Gk.own_below hown1 (below_alloc1 w1 _), hbel1.alloc hzz _⟩
    · have he0 : (unf (s.data.toList.drop p)).2.2 = 0 := by omega
      obtain ⟨f', hf', HN'⟩ := framesF_next HF.out hf hp he0
      have HN := hide HN'
      have hok := unf_ok he0
      have hle := unf_len he0
      rw [drop_len] at hok
      have hU : unframe s p = (⟨(unf (s.data.toList.drop p)).1.toArray⟩, (p : Int) + (unf (s.data.toList.drop p)).2.1, 0, 0) := by
        rw [unframe, if_neg (by omega), Int.toNat_natCast, if_pos he0]
      rw [unframeV, hU]
      obtain ⟨⟨bl, en, er⟩, hr⟩ : ∃ r, r = unf (s.data.toList.drop p) := ⟨_, rfl⟩
      rw [← hr] at HN hf' hok hle ⊢
      simp only at HN hf' hok hle ⊢
      clear hU hr he he0 HN' HF hf
      obtain ⟨bd, hbd⟩ : ∃ b : ByteArray, b = ⟨bl.toArray⟩ := ⟨_, rfl⟩
      have hbs : bd.size = bl.length := by rw [hbd]; show bl.toArray.size = _; simp
      rw [← hbd] at HN ⊢
      clear hbd
      rw [← hbs] at hle
      have HEN := hide hle.1
      have hll := plcs_length n l 0
      have HLL := hide hll
      have HSN := hide (plcs_snoc n bd l 0)
      rw [Nat.zero_add, ← HPL.out] at HSN
      generalize plcs n 0 l = T at *
      clear hll hbs hle
      go_wp2_with (at_builtin; refine Gk.wpList_push (enc := plE) (k := 3) rfl (.tmp 21) (.tmp 27) 24 rfl PlT (.agg #[.int .i64 0, .int .i64 0, .int .i64 0]) 24 Tryz.underlying24 pl_info rfl (by decide) plE_len plE_one w.heap.size _ T rfl (Gk.own_below (Gk.own_below hown1 (below_alloc1 w1 _)) (below_alloc1 _ _)) (w1.heap.size + 1) (n, p, bd.size) rfl ?c0 ?c1 ?c2 ?c3 ?_)
      case c0 =>
        rw [show w1.heap.size + 1 = (w1.alloc (.cells #[.int .i64 0, .int .i64 0] 133)).heap.size by simp]
        exact heap_alloc_new _ _
      case c1 => have := HLL.out; omega
      case c2 => have := HLL.out; omega
      case c3 => simp; omega
      intro v' w3 hv3 hg3 hat3
      have hg2 := hown1.lt
      have hb3 : Below w.heap.size w w3 := ((hbel1.alloc hzz _).alloc (by simp; omega) _).grown hg3 (by simp; omega) (fun k hk => (hg2 k hk).1)
      clear hown1 hbel1 hg3 hat3 hg2
      go_wp2
      go_roundw
      case rel => exact ⟨p + en, f', l ++ [bd], by go_num, by omega, hf', by have := HEN.out; rw [List.length_append, List.length_singleton]; omega, by rw [lens_snoc, ← HPL.out, HEN.out], HN.out, by rw [HSN.out, List.length_append]; exact hv3, hb3⟩
      case measure => have := HEN.out; simp [intOf]; omega

/-! what turns -/
/-- nothing but O, and what is new, has turned; what is theirs now was, or is new -/
structure Stp (O O' : Nat → Prop) (w w' : World) : Prop where
  sub : ∀ b, O' b → O b ∨ w.heap.size ≤ b
  only : Only (plus O w.heap.size) w w'
theorem Stp.block {O O' : Nat → Prop} {w w' : World} (h : Stp O O' w w') {k : Nat} (hk : k < w.heap.size) (hn : ¬ O k) : w'.heap[k]? = w.heap[k]? ∧ ¬ O' k := ⟨h.only.block k hk fun e => e.elim hn (by omega), fun e => (h.sub k e).elim hn (by omega)⟩
theorem Stp.trans {O O' O2 : Nat → Prop} {w w' w2 : World} (h : Stp O O' w w') (k : Stp O' O2 w' w2) : Stp O O2 w w2 :=
  ⟨fun b hb => (k.sub b hb).elim (h.sub b) fun h2 => Or.inr (Nat.le_trans h.only.size h2), h.only.trans (k.only.mono fun b _ hb => hb.elim (h.sub b) fun h2 => Or.inr (Nat.le_trans h.only.size h2))⟩
theorem Stp.below {O : Nat → Prop} {w w' : World} (h : Below w.heap.size w w') : Stp O O w w' := ⟨fun _ hb => Or.inl hb, Only.of_below h⟩
/-- a row that is none of theirs stays -/
theorem Stp.row {O O' : Nat → Prop} {w w' : World} {B e size n : Nat} {v : Value} {xs : List Value} (h : Stp O O' w w') (hr : w.ownsRow B e size v n xs) (hn : ∀ g, v.ownBlock = some g → ¬ O g) : w'.ownsRow B e size v n xs ∧ ∀ g, v.ownBlock = some g → ¬ O' g :=
  ⟨Gk.own_stay hr fun g hg => (h.block (hr.lt g hg).2 (hn g hg)).1, fun g hg => (h.block (hr.lt g hg).2 (hn g hg)).2⟩
/-- the disk's blocks, and the values' -/
abbrev wi (own : Nat → Prop) (bv : Nat) : Nat → Prop := fun b => own b ∨ b = bv
section
variable {w0 w w' : World} {own : Nat → Prop} {bd bv most top : Nat} {S S' : St}
theorem VH.only (h : VH w0 w own bd bv most top S) (hO : Only (plus (wi own bv) w.heap.size) w w') : Below w0.heap.size w0 w' :=
  h.base.trans ⟨hO.os, hO.tape, hO.output, hO.size, fun k hk => hO.block k (Nat.lt_of_lt_of_le hk h.base.size) fun e => by
    rcases e with (e | e) | e
    · have := (h.old k e).1; omega
    · have := h.ge; omega
    · have := h.base.size; omega⟩
/-- the disk has turned -/
theorem VH.turn (h : VH w0 w own bd bv most top S) (hH : Held w' (plus own w.heap.size) bd S') (hO : Only (plus own w.heap.size) w w') :
    VH w0 w' (fun b => plus own w.heap.size b ∧ b < w'.heap.size) bd bv most top S' ∧ Stp (wi own bv) (wi (fun b => plus own w.heap.size b ∧ b < w'.heap.size) bv) w w' := by
  have hlt := h.lt
  have hO2 : Only (plus (wi own bv) w.heap.size) w w' := hO.mono fun b _ hb => hb.imp Or.inl id
  refine ⟨⟨hH.own fun _ hb ho => ⟨ho, hb⟩, fun b hb => ⟨hb.1.elim (fun h1 => (h.old b h1).1) fun h1 => Nat.le_trans h.base.size h1, hb.2⟩, (hO.block bv hlt fun e => e.elim h.no (by omega)).trans h.block, fun hb => hb.1.elim h.no (by omega), h.ge, h.env, h.only hO2⟩, fun b hb => ?_, hO2⟩
  rcases hb with hb | rfl
  · exact hb.1.imp Or.inl id
  · exact Or.inl (Or.inr rfl)
/-- another greatest number -/
theorem VH.topped (h : VH w0 w own bd bv most top S) (t : Nat) : VH w0 (w.setCell ⟨bv, 2, none⟩ (.int .i64 t)) own bd bv most t S ∧ Stp (wi own bv) (wi own bv) w (w.setCell ⟨bv, 2, none⟩ (.int .i64 t)) := by
  have hO : Only (plus (wi own bv) w.heap.size) w (w.setCell ⟨bv, 2, none⟩ (.int .i64 t)) := Only.of_set w (Or.inl (Or.inr rfl)) _
  refine ⟨⟨h.disk.frame fun k _ hk => Below.heap_setCell _ _ _ k (fun e => h.no (by have e : k = bv := e; rw [← e]; exact hk)), fun b hb => ⟨(h.old b hb).1, by simpa using (h.old b hb).2⟩, by rw [block_setCell h.block]; rfl, h.no, h.ge, h.env, h.only hO⟩, fun b hb => Or.inl hb, hO⟩
end

/-- what tidy does -/
def tidyR (S : St) (n : Nat) : Nat × St := if (frames ⟨(dat S n).toArray⟩).2 < (dat S n).length then S.cut (nm n) (frames ⟨(dat S n).toArray⟩).2 else (0, S)
section
variable {w0 w w' : World} {own : Nat → Prop} {bd bv most top : Nat} {S : St}
/-- the disk's pointer is there -/
abbrev US (bv bd : Nat) (W : World) : Prop := W.cell? ⟨bv, 0, none⟩ = some (.pointer (some ⟨bd, 0, none⟩)) ∧ Hid (bv < W.heap.size)
theorem US.drew {bv bd : Nat} {W : World} (h : US bv bd W) : US bv bd W.drew := h
theorem US.call {bv bd : Nat} {W W' : World} (hb : Below W.heap.size W W') (h : US bv bd W) : US bv bd W' := ⟨(hb.cell (p := ⟨bv, 0, none⟩) h.2.out).trans h.1, Nat.lt_of_lt_of_le h.2.out hb.size⟩
theorem US.only {bv bd : Nat} {own : Nat → Prop} {W W' : World} (hO : Only (plus own W.heap.size) W W') (hn : ¬ own bv) (h : US bv bd W) : US bv bd W' := by
  have l1 := h.2.out
  exact ⟨(World.cell?_of_block (a := ⟨bv, 0, none⟩) (hO.block bv l1 fun e => e.elim hn (by omega))).trans h.1, Nat.lt_of_lt_of_le l1 hO.size⟩
set_option maxRecDepth 100000 in
set_option maxHeartbeats 1600000 in
theorem tidy_any (h : VH w0 w own bd bv most top S) {n : Nat} (hn : n ∈ nums S) :
    Calls Tryz.prog 37 #[.pointer (some ⟨bv, 0, none⟩), .int .i64 n] w fun e w' => (((tidyR S n).1 = 0 ∧ e = .returned (.tuple #[])) ∨ ((tidyR S n).1 ≠ 0 ∧ e = gone (tidyR S n).1)) ∧ ∃ own', VH w0 w' own' bd bv most top (tidyR S n).2 ∧ Stp (wi own bv) (wi own' bv) w w' := by
  have hR := read_yes h hn
  have hb := nums_bound hn
  have hdl := dat_le h.ok (show n ≤ 1048577 by omega)
  have hds : (ByteArray.mk (dat S n).toArray).size = (dat S n).length := by show Array.size _ = _; simp
  have hnm : ∀ W, Below w.heap.size w W → Calls Tryz.prog 48 #[.int .i64 n] W fun e w' => e = .returned (.string (nt n)) ∧ Below W.heap.size W w' := fun W hb2 => nameOf_any _ (by omega) W (h.below hb2).envW
  have hP := fun W => placesIn_any n ⟨(dat S n).toArray⟩ W (by omega)
  have hle := (frames_end ⟨(dat S n).toArray⟩).2.1
  have HV := hide h
  have HC : Hid (∀ W, VH w0 W own bd bv most top S → Calls Tryz.prog 77 #[.pointer (some ⟨bd, 0, none⟩), .string (nt n), .int .i64 (frames ⟨(dat S n).toArray⟩).2] W fun e w' => e = .returned (.int .i64 (S.cut (nm n) (frames ⟨(dat S n).toArray⟩).2).1) ∧ Held w' (plus own W.heap.size) bd (S.cut (nm n) (frames ⟨(dat S n).toArray⟩).2).2 ∧ Only (plus own W.heap.size) W w') := fun W hV => by
    have := Dk.cut_any W (hV.disk.own fun _ _ ho => Or.inl ho) (own := plus own W.heap.size) (fun b hb => Or.inr hb) (nt n) (frames ⟨(dat S n).toArray⟩).2 (nt_small (by omega)) (by omega) (by omega)
    rw [nt_list] at this
    exact this
  unfold tidyR
  rw [← hds]
  generalize (ByteArray.mk (dat S n).toArray) = D at *
  generalize plcsOf n D = T at *
  generalize (frames D).2 = q at *
  generalize S.cut (nm n) q = R at *
  have hno := h.no
  clear h hn
  by_cases hq : q < D.size
  · have q1 : (q : Int) < (D.size : Int) := by omega
    rw [if_pos hq]
    obtain ⟨c, S2⟩ := R
    simp only at HC ⊢
    by_cases hc : c = 0
    case' pos => subst hc
    all_goals
      go_enter Tryz.func37, Tryz.ntmps37
      go_wp2_with fail
      refine hR.mono ?_
      rintro e w1 ⟨rfl, hb1⟩
      go_wp2_with fail
      refine (hP w1).mono ?_
      rintro e w2 ⟨v, rfl, -, hb2⟩
      have h2 := HV.out.below (hb1.trans (hb2.mono hb1.size))
      have hc0 := h2.c0
      have H2 := hide h2
      have HW2 := hide (hb1.trans (hb2.mono hb1.size))
      have hUS : US bv bd w2 := ⟨hc0, h2.lt⟩
      have hnm2 : ∀ W, Below w2.heap.size w2 W → _ := fun W hb => hnm W (HW2.out.trans (hb.mono HW2.out.size))
      have hcut : ∀ W, Below w2.heap.size w2 W → _ := fun W hb => HC.out W (H2.out.below hb)
      clear hR hP h2 hb1 hb2 hnm HC
      go_wp2
    · go_region_held3 (US bv bd) (first | with_reducible exact US.drew (by assumption) | with_reducible exact US.call (by assumption) (by assumption) | with_reducible exact US.only (by assumption) hno (by assumption) | with_reducible assumption)
        (first | (go_at_call 48; refine (hnm2 _ (by first | exact Below.refl _ _ | exact (Below.refl _ _).drew)).mono ?_; rintro e w4 ⟨rfl, hb4⟩; have HB4 : Hid (Below w2.heap.size w2 w4) := by first | exact hb4 | exact ((Below.refl _ _).drew).trans hb4) | (go_at_call 77; refine (hcut _ (by first | exact HB4.out | exact HB4.out.drew)).mono ?_; rintro e w5 ⟨rfl, hH5, hO5⟩) | (go_at_call 45; refine (pass_no _).mono ?_; rintro e w6 ⟨rfl, rfl⟩))
      go_wp2
      go_end0
      exact ⟨by simp, _, ((H2.out.below HB4.out).turn hH5 hO5).1, (Stp.below (HW2.out.trans (HB4.out.mono HW2.out.size))).trans ((H2.out.below HB4.out).turn hH5 hO5).2⟩
    · go_region_dies
      all_goals
        rename_i K hK
        refine (hnm2 _ ?_).mono ?_
        · exact (Below.refl _ _).drew
        rintro e w4 ⟨rfl, hb4⟩
        have HB4 : Hid (Below w2.heap.size w2 w4) := ((Below.refl _ _).drew).trans hb4
        have hc4 := (HB4.out.cell (p := ⟨bv, 0, none⟩) hUS.2.out).trans hc0
        refine hK _ _ ?_
        clear hK K hb4
      rotate_left
      refine wpAny_ready (rs := [3]) (by kernel_rfl) (by simp) ?_
      refine AllReady.cons rfl (fun K hK => ?_) AllReady.nil
      go_simp
      refine hK _ _ ?_
      clear hK K
      all_goals
        refine wpAny_ready (rs := [7]) (by kernel_rfl) (by simp) ?_
        refine AllReady.cons rfl (fun K hK => ?_) AllReady.nil
        go_simp
        refine (hcut _ ?_).mono ?_
        · exact HB4.out
        rintro e w5 ⟨rfl, hH5, hO5⟩
        refine hK _ _ ?_
        clear hK K
        refine wpAny_ready (rs := [8]) (by kernel_rfl) (by simp) ?_
        refine AllReady.cons rfl (fun K hK => ?_) AllReady.nil
        go_simp
        refine (pass_yes _ hc _).mono ?_
        rintro e w6 ⟨rfl, rfl⟩
        exact ⟨rfl, Or.inr ⟨hc, rfl⟩, _, ((H2.out.below HB4.out).turn hH5 hO5).1, (Stp.below (HW2.out.trans (HB4.out.mono HW2.out.size))).trans ((H2.out.below HB4.out).turn hH5 hO5).2⟩
  · have q1 : ¬ (q : Int) < (D.size : Int) := by omega
    rw [if_neg hq]
    go_enter Tryz.func37, Tryz.ntmps37
    go_wp2_with fail
    refine hR.mono ?_
    rintro e w1 ⟨rfl, hb1⟩
    go_wp2_with fail
    refine (hP w1).mono ?_
    rintro e w2 ⟨v, rfl, -, hb2⟩
    have hb3 := hb1.trans (hb2.mono hb1.size)
    go_wp2
    go_end0
    exact ⟨by simp, own, HV.out.below hb3, Stp.below hb3⟩
end

end Go.Proofs.YtgfmnffaknmcnaaGreatDoor.Vl
