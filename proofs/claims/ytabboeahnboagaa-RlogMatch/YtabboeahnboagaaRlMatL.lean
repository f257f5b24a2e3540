/- RlogMatch, the walk. -/
import Derived.Test.YtabboeahnboagaaRlMat
namespace Go.Proofs.Ytabboeahnboagaa.Rl
open Go.RowKit Go.Joins Gk

/-- entries lie apart from a log -/
def Apt (w : World) (bl : Nat) (a : Option Addr) (l : List En) : Prop := Lies w eenc a l ∧ (l ≠ [] → ∀ b off, a = some ⟨b, off, none⟩ → b < w.heap.size ∧ ¬ own w bl b)
theorem Apt.turn {w w' : World} {bl : Nat} {a : Option Addr} {l : List En} (h : Apt w bl a l) (ht : Tn bl w w') : Apt w' bl a l := by
  by_cases h0 : l = []
  · exact ⟨Or.inl h0, fun hn => absurd h0 hn⟩
  · refine ⟨h.1.later (fun b off e hlt => ht.only.block b hlt (h.2 h0 b off e).2) ht.only.size, fun hn b off e => ⟨Nat.lt_of_lt_of_le (h.2 hn b off e).1 ht.only.size, ht.nown (h.2 hn b off e).1 (h.2 hn b off e).2⟩⟩
structure MS (w wr : World) (bc bb : Nat) (S Sb : Lo) (vb : Value) (a5 a9 : Option Addr) (es R : List En) : Prop where
  log : ∃ v, LH wr bc S v
  lb : LH wr bb Sb vb
  dj : ∀ k, own wr bc k → ¬ own wr bb k
  all : Apt wr bc a5 es
  rest : Apt wr bc a9 R
  new : ∀ k, own wr bc k → w.heap.size ≤ k
  bel : Below w.heap.size w wr
theorem MS.turn {w wr w2 : World} {bc bb : Nat} {S S' Sb : Lo} {vb : Value} {a5 a9 : Option Addr} {es R : List En} (h : MS w wr bc bb S Sb vb a5 a9 es R) (h2 : ∃ v, LH w2 bc S' v) (ht : Tn bc wr w2) : MS w w2 bc bb S' Sb vb a5 a9 es R := by
  obtain ⟨h3, h4⟩ := h.lb.turn h.dj ht
  refine ⟨h2, h3, h4, h.all.turn ht, h.rest.turn ht, fun k hk => ?_, h.bel.trans (ht.only.below h.bel.size h.new)⟩
  rcases hk with rfl | hk
  · exact h.new _ (Or.inl rfl)
  · rcases ht.new k hk with e | e
    · exact h.new k (Or.inr e)
    · have := h.bel.size; omega
theorem MS.below {w wr w2 : World} {bc bb : Nat} {S Sb : Lo} {vb : Value} {a5 a9 : Option Addr} {es R : List En} (h : MS w wr bc bb S Sb vb a5 a9 es R) (hb : Below wr.heap.size wr w2) : MS w w2 bc bb S Sb vb a5 a9 es R := by
  obtain ⟨v, hv⟩ := h.log
  exact h.turn ⟨v, hv.below hb⟩ (hv.tn hb)
/-- what was just copied lies apart from a log that was there -/
theorem apt_new {w w' : World} {bl n c : Nat} {S : Lo} {v : Value} {a : Option Addr} {l : List En} (h : LH w bl S v) (hb : Below w.heap.size w w') (her : ER w' (.slice a n c) l) (hg : ∀ g, blk (.slice a n c) = some g → w.heap.size ≤ g) : Apt w' bl a l := by
  refine ⟨her.lies, fun _ b off e => ?_⟩
  subst e
  refine ⟨her.lt rfl, fun ho => ?_⟩
  rw [own_same (hb.block bl h.lt)] at ho
  have := h.ownlt ho
  have := hg b rfl
  omega
theorem apt_take {w : World} {bl : Nat} {a : Option Addr} {l : List En} (k : Nat) (h : Apt w bl a l) : Apt w bl a (l.take k) :=
  ⟨lies_take k h.1, fun hn b off e => h.2 (fun h0 => hn (by rw [h0]; simp)) b off e⟩

/-- a stretch of the other log is merged in -/
theorem mg_at {S : Lo} {P R Z : List En} {t i c bc : Nat} {y : Int} {a9 : Option Addr} {W : World} {v : Value} (hG : Grown S) (ht : t ≤ S.es.length) (hP : S.es.take t = P) (hR : S.es.drop t = R) (hy : S.tm t = y) (hPl : P.length = t) (h : LH W bc ⟨0, 0, P ++ Z⟩ v) (hA : Apt W bc a9 R) (hi : i ≤ R.length) (hz : Z.length ≤ 45) :
    Calls Try.prog 19 #[ptr bc, .int .i64 (t : Int), .int .i64 y, .slice a9 i c] W fun e w' => e = .returned (.tuple #[.int .i64 ((t : Int) + (i : Int)), .int .i64 (((⟨0, 0, P ++ Z⟩ : Lo).mrg t (R.take i)).2 : Int), .int .i64 0]) ∧ (∃ v', LH w' bc ((⟨0, 0, P ++ Z⟩ : Lo).mrg t (R.take i)).1 v') ∧ Tn bc W w' := by
  have hil : (R.take i).length = i := by rw [List.length_take]; omega
  have hn := hG.n
  have hRl : R.length ≤ 40 := by rw [← hR, List.length_drop]; omega
  have hA' := apt_take i hA
  have hlz : (P ++ Z).length ≤ 100 := by rw [List.length_append]; omega
  have := callsIn_wide.1 (merge_in bc ⟨0, 0, P ++ Z⟩ v t y a9 c (R.take i) W h (by show 0 + (P ++ Z).length ≤ _; omega) (by show t ≤ (P ++ Z).length; rw [List.length_append]; omega) (by
    show (⟨0, 0, P ++ Z⟩ : Lo).tm (0 + t) = y
    rw [Nat.zero_add, ← hP, ← hy]; exact tm_mid hG t ht Z) hA'.1 (by omega) (fun hne b off e => (hA'.2 hne b off e).2) (by
    show mcode y (nmb (0 + t + 1) (R.take i)) = 0
    rw [Nat.zero_add, ← hy]
    exact hG.code t ht (by rw [hR]; exact List.take_prefix _ _)))
  rw [hil] at this
  simpa using this
/-- what is read back of it -/
theorem sl_at {S : Lo} {P R : List En} {t i k bc : Nat} {y : Int} {W : World} {v : Value} (hG : Grown S) (ht : t ≤ S.es.length) (hP : S.es.take t = P) (hR : S.es.drop t = R) (hPl : P.length = t) (hk : k ≤ 5) (hr : R.length ≤ 40) (h : LH W bc ⟨0, 0, P ++ Zn y k R i⟩ v) (hi : i ≤ R.length) :
    Calls Try.prog 14 #[ptr bc, .int .i64 1, .int .i64 ((t : Int) + (i : Int))] W fun r w' => ∃ a c, r = .returned (.tuple #[.slice a (t + i) c, .int .i64 0]) ∧ Lies w' eenc a (S.es.take (t + i)) ∧ Below W.heap.size W w' := by
  have hn := hG.n
  have hz := len_Zn (t := y) (R := R) i hk hr
  have hl : (P ++ Zn y k R i).length ≤ 100 := by rw [List.length_append]; omega
  have hs := Slice_ok bc ⟨0, 0, P ++ Zn y k R i⟩ v 0 ((t : Int) + (i : Int)) (by omega) W h (by show 0 + (P ++ Zn y k R i).length ≤ _; omega) (Nat.zero_le _) (fun e he => by
    rcases List.mem_append.1 he with he | he
    · rw [← hP] at he; exact hG.ds e (List.mem_of_mem_take he)
    · unfold Zn at he
      split at he
      · rw [List.eq_of_mem_replicate he]; show (3 : Nat) ≤ _; decide
      · rw [← hR] at he; exact hG.ds e (List.mem_of_mem_drop (List.mem_of_mem_take he)))
  have e1 : ((⟨0, 0, P ++ Zn y k R i⟩ : Lo).es.drop 0).take (min ((t : Int) + (i : Int)).toNat ((⟨0, 0, P ++ Zn y k R i⟩ : Lo).es.length - 0)) = S.es.take (t + i) := by
    show ((P ++ Zn y k R i).drop 0).take (min ((t : Int) + (i : Int)).toNat ((P ++ Zn y k R i).length - 0)) = _
    rw [List.drop_zero, Nat.sub_zero, show ((t : Int) + (i : Int)).toNat = P.length + i by omega, got_same hi, ← hP, ← hR, List.take_add]
  rw [e1] at hs
  refine hs.mono ?_
  rintro r w' ⟨v', rfl, her, _, hb⟩
  obtain ⟨a, c, rfl, _⟩ := her.slice
  have hle : (S.es.take (t + i)).length = t + i := by rw [List.length_take]; rw [← hR, List.length_drop] at hi; omega
  rw [hle] at her ⊢
  exact ⟨a, c, rfl, her.lies, hb⟩

set_option maxRecDepth 100000 in
set_option maxHeartbeats 8000000 in
theorem match_law (a0 : Option Addr) (c0 : Nat) (mine : List Int) (a1 : Option Addr) (c1 : Nat) (theirs : List Int) (from_ : Int) (w : World) (hl0 : IntsAt w a0 c0 mine) (hl1 : IntsAt w a1 c1 theirs) (hf : -9223372036854775808 ≤ from_ ∧ from_ ≤ 9223372036854775807) :
    Calls Try.prog 4 #[.slice a0 mine.length c0, .slice a1 theirs.length c1, .int .i64 from_] w fun e w' => e = .returned (.bool true) ∧ Below w.heap.size w w' := by
  have HW := hide (works_any w)
  have HG0 := hide (fun W (hb : Below w.heap.size w W) => grown_any a0 c0 mine W (hl0.lies.below hb) hl0.each (Nat.le_trans hl0.room hl0.max))
  have HG1 := hide (fun W (hb : Below w.heap.size w W) => grown_any a1 c1 theirs W (hl1.lies.below hb) hl1.each (Nat.le_trans hl1.room hl1.max))
  have hml : mine.length ≤ 9223372036854775807 := Nat.le_trans hl0.room hl0.max
  generalize (⟨0, 0, (gr mine (min mine.length 40)).1⟩ : Lo) = SA at *
  have hG := grown_is theirs
  generalize (⟨0, 0, (gr theirs (min theirs.length 40)).1⟩ : Lo) = S at *
  have hbd := hG.bd
  have hla := hG.last
  have hlen := hG.n
  have hb0 := hG.b
  obtain ⟨n, hnn⟩ : ∃ n, S.es.length = n := ⟨_, rfl⟩
  rw [hnn] at hla hlen
  clear hl0 hl1
  go_enter Try.func4, Try.ntmps4
  go_wp2_with (go_at_call 16; refine HW.out.mono ?_; rintro e w1 ⟨rfl, hb1⟩)
  refine (HG0.out _ hb1).mono ?_
  rintro e w2 ⟨bA, rfl, hM1⟩
  have hb2 : Below w.heap.size w w2 := hb1.trans (hM1.bel.mono hb1.size)
  clear HW HG0 hM1
  go_wp2_with fail
  refine (HG1.out _ hb2).mono ?_
  rintro e w3 ⟨bB, rfl, hM2⟩
  have hb3 : Below w.heap.size w w3 := hb2.trans (hM2.bel.mono hb2.size)
  obtain ⟨vb, hLb⟩ := hM2.log
  have HLa := hide (Last_any bB S vb w3 hLb hbd)
  rw [hla] at HLa
  generalize S.tm n = tl at *
  clear HG1 hM2 hb1 hb2
  go_wp2_with fail
  refine HLa.out.mono ?_
  rintro e w4 ⟨rfl, q4, rfl⟩
  obtain ⟨W4, hW4⟩ : ∃ W4, w3.drewN q4 = W4 := ⟨_, rfl⟩
  have hLb4 : LH W4 bB S vb := by rw [← hW4]; exact hLb.drewN q4
  have hb4 : Below w.heap.size w W4 := by rw [← hW4]; exact below_drewN hb3 q4
  rw [hW4]
  clear hW4 hLb HLa hb3
  have hn1 : (0 : Int) < (n : Int) + 1 := by omega
  obtain ⟨t, hte⟩ : ∃ t : Nat, from_ % ((n : Int) + 1) = (t : Int) := ⟨(from_ % ((n : Int) + 1)).toNat, by have := Int.emod_nonneg from_ (show (n : Int) + 1 ≠ 0 by omega); omega⟩
  have htn : t ≤ n := by have := Int.emod_lt_of_pos from_ hn1; omega
  have HA1 := hide (fun W => among_any from_ ((n : Int) + 1) W hn1 (by omega) hf.1 hf.2)
  rw [hte] at HA1
  clear hte hf
  have hS1 := Slice_ok bB S vb 0 1048576 (by decide) W4 hLb4 hbd (by omega) hG.ds
  rw [show ((S.b + 1 + 0 : Nat) : Int) = 1 by omega, hnn, show (S.es.drop 0).take (min (1048576 : Int).toNat (n - 0)) = S.es by rw [List.drop_zero]; exact List.take_of_length_le (by rw [hnn]; show n ≤ min 1048576 (n - 0); omega)] at hS1
  have HS1 := hide hS1
  have H4 := hide (And.intro hLb4 hb4)
  have hn40 : (n : Int) ≤ 40 := by omega
  have ht40 : (t : Int) ≤ (n : Int) := by omega
  have HNN := hide hnn
  have HG := hide hG
  have HBD := hide hbd
  clear hS1 hLb4 hb4 hG hbd hnn hla hb0
  go_wp2_with (go_at_call 18; refine (HA1.out _).mono ?_; clear HA1; rintro e w5 ⟨rfl, rfl⟩)
  refine HS1.out.mono ?_
  rintro e w5 ⟨v5, rfl, her5, hg5, hb5⟩
  obtain ⟨a5, c5, rfl, hn5, hc5, hm5⟩ := her5.slice
  rw [HNN.out] at hc5
  have HAll := hide (apt_new H4.out.1 hb5 her5 hg5)
  have HE5 := hide (And.intro her5 (And.intro hg5 hb5))
  clear HS1 her5 hg5 hb5
  have HNW := hide (New_any w5)
  rw [HNN.out]
  go_wp2_with (go_at_call 9; refine HNW.out.mono ?_; rintro e w6 ⟨rfl, hLc, hw6⟩)
  subst hw6
  obtain ⟨W6, hW6⟩ : ∃ W6, w5.alloc (.cells #[.int .i64 0, .int .i64 0, .slice none 0 0] LogT) = W6 := ⟨_, rfl⟩
  have hb6 : Below w5.heap.size w5 W6 := by rw [← hW6]; exact (Below.refl _ w5).alloc (Nat.le_refl _) _
  have z6 : w5.heap.size < W6.heap.size := by rw [← hW6]; simp
  rw [hW6] at hLc
  rw [hW6]
  clear hW6 HNW
  obtain ⟨bc, hbc⟩ : ∃ bc, w5.heap.size = bc := ⟨_, rfl⟩
  have hown : ∀ k, own W6 bc k → k = bc := by
    rintro k (h | h)
    · exact h
    · rw [← hbc, hLc.lbk] at h; cases h
  have hMS : MS w W6 bc bB Lo.new S vb a5 none S.es [] := by
    obtain ⟨e1, e2, e3⟩ := HE5.out
    have hz := H4.out.2.size
    have hz5 := e3.size
    refine ⟨⟨_, by rw [← hbc]; exact hLc⟩, (H4.out.1.below e3).below hb6, fun k hk h => ?_, ⟨HAll.out.1.below hb6, fun hne b off e => ?_⟩, ⟨Or.inl rfl, fun h => absurd rfl h⟩, fun k hk => by rw [hown k hk]; omega, H4.out.2.trans ((e3.mono hz).trans (hb6.mono (by omega)))⟩
    · rw [own_same (hb6.block bB (H4.out.1.below e3).lt)] at h
      have := (H4.out.1.below e3).ownlt h
      rw [hown k hk] at this; omega
    · have := (HAll.out.2 hne b off e).1
      exact ⟨by omega, fun h => by rw [hown b h] at this; omega⟩
  rw [hbc]
  clear hown hLc hb6 z6 HAll HE5 H4 hbc
  obtain ⟨P, hP⟩ : ∃ P, S.es.take t = P := ⟨_, rfl⟩
  have hPl : P.length = t := by rw [← hP, List.length_take, HNN.out]; omega
  obtain ⟨y, hy⟩ : ∃ y, S.tm t = y := ⟨_, rfl⟩
  have hyr : 0 ≤ y ∧ y ≤ 200 := by
    rw [← hy]; unfold Lo.tm; rw [HG.out.b, HG.out.bt]
    split
    · decide
    · rename_i h0
      rw [List.getElem?_eq_getElem (by rw [HNN.out]; omega)]
      have := HG.out.each _ (List.getElem_mem (show t - 0 - 1 < S.es.length by rw [HNN.out]; omega))
      exact ⟨by show 0 ≤ En.t _; omega, by show En.t _ ≤ 200; omega⟩
  have HTM := hide (show ∀ Y, (⟨0, 0, P ++ Y⟩ : Lo).tm t = y by intro Y; rw [← hP, ← hy]; exact tm_mid HG.out t (by rw [HNN.out]; exact htn) Y)
  have hM1 : Calls Try.prog 19 #[ptr bc, .int .i64 0, .int .i64 0, .slice a5 t c5] W6 fun e w' => e = .returned (.tuple #[.int .i64 (t : Int), .int .i64 0, .int .i64 0]) ∧ (∃ v', LH w' bc ⟨0, 0, P⟩ v') ∧ Tn bc W6 w' := by
    obtain ⟨v, hv⟩ := hMS.log
    have hA := apt_take t hMS.all
    rw [hP] at hA
    have := callsIn_wide.1 (merge_in bc Lo.new v 0 0 a5 c5 P W6 hv (by decide) (by decide) rfl hA.1 (by omega) (fun hne b off e => (hA.2 hne b off e).2) (by
      have := HG.out.code 0 (Nat.zero_le _) (P := P) (by rw [List.drop_zero, ← hP]; exact List.take_prefix _ _)
      rw [show S.tm 0 = 0 by rw [Lo.tm, if_pos HG.out.b.symm, HG.out.bt]] at this
      exact this))
    rw [mrg_new, hPl] at this
    simpa [Lo.new] using this
  have HM1 := hide hM1
  have HMS := hide hMS
  have HP := hide hP
  have HPL := hide hPl
  have HY := hide hy
  clear hM1 hMS hP hPl hy
  refine HM1.out.mono ?_
  rintro e w7 ⟨rfl, hv7, ht7⟩
  have HMS7 := hide (HMS.out.turn hv7 ht7)
  clear HM1 HMS
  have HL7 : Hid (Calls Try.prog 11 #[ptr bc] w7 fun e w' => e = .returned (.tuple #[.int .i64 (t : Int), .int .i64 y]) ∧ ∃ q, w' = w7.drewN q) := by
    obtain ⟨v, hv⟩ := HMS7.out.log
    have := Last_any bc ⟨0, 0, P⟩ v w7 hv (by show 0 + P.length ≤ _; rw [HPL.out]; omega)
    rw [show (⟨0, 0, P⟩ : Lo).last = t by show 0 + P.length = t; rw [HPL.out, Nat.zero_add]] at this
    have e1 := HTM.out []
    rw [List.append_nil] at e1
    rw [e1] at this
    exact this
  clear hv7 ht7
  go_wp2_with fail
  refine HL7.out.mono ?_
  rintro e w8 ⟨rfl, q8, rfl⟩
  obtain ⟨W8, hW8⟩ : ∃ W8, w7.drewN q8 = W8 := ⟨_, rfl⟩
  have hMS8 : MS w W8 bc bB ⟨0, 0, P ++ List.replicate 0 (ow y)⟩ S vb a5 none S.es [] := by rw [← hW8, List.replicate_zero, List.append_nil]; exact HMS7.out.below (below_drewN (Below.refl _ w7) q8)
  rw [hW8]
  clear hW8 HL7 HMS7
  have e7 : ((t : Int) == (t : Int)) = true := by simp
  go_wp2
  go_loopw [85] (fun iv wr => ∃ k : Nat, k ≤ mine.length ∧ k ≤ 5 ∧ iv = .int .i64 k ∧ MS w wr bc bB ⟨0, 0, P ++ List.replicate k (ow y)⟩ S vb a5 none S.es []) (fun iv _ => 6 - (intOf iv).toNat)
  case atStart => exact ⟨0, Nat.zero_le _, by decide, rfl, hMS8⟩
  case round =>
    clear hMS8
    obtain ⟨k, hk, hk5, rfl, hMS⟩ := hrel
    by_cases hkl : k < mine.length
    · have j1 : (k : Int) < (mine.length : Int) := by omega
      by_cases hk4 : k < 5
      · have j2 : ¬ (5 : Int) ≤ (k : Int) := by omega
        have HTS := hide (show (⟨0, 0, P ++ List.replicate k (ow y)⟩ : Lo).tm (⟨0, 0, P ++ List.replicate k (ow y)⟩ : Lo).last ≤ y + 1000 by
          cases k with
          | zero =>
            have e1 := HTM.out []
            rw [List.append_nil] at e1
            rw [List.replicate_zero, List.append_nil, show (⟨0, 0, P⟩ : Lo).last = t by show 0 + P.length = t; rw [HPL.out, Nat.zero_add], e1]
            omega
          | succ k =>
            rw [List.replicate_succ', ← List.append_assoc, tm_snoc]
            exact Int.le_refl _)
        obtain ⟨v, hv⟩ := hMS.log
        have hAp := Append_ok bc ⟨0, 0, P ++ List.replicate k (ow y)⟩ v (ow y) wr hv ⟨by show 1 ≤ y + 1000; omega, by show y + 1000 ≤ _; omega, HTS.out, by show (3 : Nat) ≤ 4096; decide, by show 0 + (P ++ List.replicate k (ow y)).length < _; rw [List.length_append, List.length_replicate, HPL.out]; omega⟩
        dsimp only [ow] at hAp
        have HAp := hide hAp
        have HM := hide hMS
        have i1 : y + 1000 ≤ 2000 := by omega
        have i2 : 0 ≤ y + 1000 := by omega
        clear hAp hMS hv
        go_wp2_with (go_at_call 20; refine HAp.out.mono ?_; rintro e w9 ⟨rfl, hv9, ht9⟩)
        go_roundw
        case rel => exact ⟨k + 1, by omega, by omega, by go_num, by rw [List.replicate_succ', ← List.append_assoc]; exact HM.out.turn hv9 ht9⟩
        case measure => simp [intOf]; omega
      · have j2 : (5 : Int) ≤ (k : Int) := by omega
        clear hk4
        obtain ⟨R, hR⟩ : ∃ R, S.es.drop t = R := ⟨_, rfl⟩
        have hRl : R.length ≤ 40 ∧ t + R.length = n := by rw [← hR, List.length_drop, HNN.out]; omega
        have hR0 := Slice_ok bB S vb t 1048576 (by decide) wr hMS.lb HBD.out (by rw [HNN.out]; exact htn) HG.out.ds
        rw [show ((S.b + 1 + t : Nat) : Int) = (t : Int) + 1 by have := HG.out.b; omega, HNN.out, show (S.es.drop t).take (min (1048576 : Int).toNat (n - t)) = S.es.drop t from List.take_of_length_le (by rw [List.length_drop, HNN.out]; show n - t ≤ min 1048576 (n - t); omega), hR] at hR0
        have HR0 := hide hR0
        have HM := hide hMS
        have HR := hide hR
        have HRN := hide hRl
        have hrl := hRl.1
        clear hR0 hMS hR hRl
        go_wp2_with (go_at_call 14; refine HR0.out.mono ?_; rintro e w9 ⟨v9, rfl, her9, hg9, hb9⟩; obtain ⟨a9, c9, rfl, hn9, hc9, hm9⟩ := her9.slice)
        have hMS9 : MS w w9 bc bB ⟨0, 0, P ++ Zn y k R (0 - 1)⟩ S vb a5 a9 S.es R := by
          have h := HM.out.below hb9
          obtain ⟨v, hv⟩ := HM.out.log
          exact ⟨h.log, h.lb, h.dj, h.all, apt_new hv hb9 her9 hg9, h.new, h.bel⟩
        clear her9 hg9 hb9 HM HR0
        have HMG := hide (fun W i Z c v (h : LH W bc ⟨0, 0, P ++ Z⟩ v) (hA : Apt W bc a9 R) (hi : i ≤ R.length) (hz : Z.length ≤ 45) => mg_at HG.out (by rw [HNN.out]; exact htn) HP.out HR.out HY.out HPL.out h hA hi hz (c := c))
        have HSL := hide (fun W i v (h : LH W bc ⟨0, 0, P ++ Zn y k R i⟩ v) (hi : i ≤ R.length) => sl_at HG.out (by rw [HNN.out]; exact htn) HP.out HR.out HPL.out hk5 hrl h hi)
        go_loopw [24] (fun iv wr => ∃ i : Nat, i ≤ R.length + 1 ∧ iv = .int .i64 i ∧ MS w wr bc bB ⟨0, 0, P ++ Zn y k R (i - 1)⟩ S vb a5 a9 S.es R) (fun iv _ => R.length + 1 - (intOf iv).toNat)
        case atStart => exact ⟨0, Nat.zero_le _, rfl, hMS9⟩
        case round =>
          clear hMS9
          rename_i wr0
          obtain ⟨i, hi, rfl, hMS⟩ := hrel
          by_cases hil : i ≤ R.length
          · have j3 : (i : Int) ≤ (R.length : Int) := by omega
            have j4 : (0 : Int) ≤ (i : Int) := by omega
            have j5 : i ≤ c9 := by omega
            have j6 : (i : Int) ≤ (c9 : Int) := by omega
            have j7 : (t : Int) + (i : Int) ≤ (c5 : Int) := by have := HRN.out.2; omega
            have j8 : t + i ≤ c5 := by have := HRN.out.2; omega
            have j9 : (t : Int) + (i : Int) ≤ 1000 := by omega
            obtain ⟨c, hc⟩ := mrg_next (P := P) (t := y) (k := k) (n := i) (R := R) (fun e he => by have := HG.out.each e (List.mem_of_mem_drop (by rw [HR.out]; exact he)); omega) hil
            obtain ⟨v, hv⟩ := hMS.log
            have hm1 := HMG.out _ i _ c9 v hv hMS.rest hil (len_Zn _ hk5 hrl)
            rw [← HPL.out, hc, HPL.out] at hm1
            have H1 := hide hm1
            have HMS := hide hMS
            clear hm1 hMS hv hc
            go_wp2_with fail
            refine H1.out.mono ?_
            rintro e w10 ⟨rfl, ⟨v10, hv10⟩, ht10⟩
            have HMS1 := hide (HMS.out.turn ⟨v10, hv10⟩ ht10)
            have H2 := hide (HSL.out _ i v10 hv10 hil)
            clear H1 HMS ht10
            have e8 : ((t : Int) + (i : Int) == (t : Int) + (i : Int)) = true := by simp
            go_wp2_with (go_at_call 14; refine H2.out.mono ?_; rintro e w11 ⟨a11, c11, rfl, hl11, hb11⟩)
            have HMS2 := hide (HMS1.out.below hb11)
            have H3 := hide (same_ents a11 a5 c11 c5 (S.es.take (t + i)) w11 hl11 (lies_take _ HMS2.out.all.1) (by rw [List.length_take, HNN.out]; omega))
            have hle : (S.es.take (t + i)).length = t + i := by rw [List.length_take, HNN.out]; have := HRN.out.2; omega
            rw [hle] at H3
            clear HMS1 H2 hl11 hle hv10
            go_wp2_with (go_at_call 15; refine H3.out.mono ?_; rintro e w12 ⟨rfl, hb12⟩)
            have hMS3 := HMS2.out.below hb12
            obtain ⟨v12, hv12⟩ := hMS3.log
            have hm2 := HMG.out _ i _ c9 v12 hv12 hMS3.rest hil (len_Zn _ hk5 hrl)
            rw [← HPL.out, mrg_same, HPL.out] at hm2
            have H4 := hide hm2
            have HMS3 := hide hMS3
            clear hm2 hMS3 hv12 H3 HMS2 hb12 hb11
            go_wp2_with (go_at_call 19; refine H4.out.mono ?_; rintro e w13 ⟨rfl, hv13, ht13⟩)
            go_roundw
            case rel => exact ⟨i + 1, by omega, by go_num, by rw [Nat.add_sub_cancel]; exact HMS3.out.turn hv13 ht13⟩
            case measure => simp [intOf]; omega
          · have j3 : ¬ (i : Int) ≤ (R.length : Int) := by omega
            go_wp2
            go_ret
            exact ⟨rfl, hMS.bel⟩
    · have j1 : ¬ (k : Int) < (mine.length : Int) := by omega
      obtain ⟨R, hR⟩ : ∃ R, S.es.drop t = R := ⟨_, rfl⟩
      have hRl : R.length ≤ 40 ∧ t + R.length = n := by rw [← hR, List.length_drop, HNN.out]; omega
      have hR0 := Slice_ok bB S vb t 1048576 (by decide) wr hMS.lb HBD.out (by rw [HNN.out]; exact htn) HG.out.ds
      rw [show ((S.b + 1 + t : Nat) : Int) = (t : Int) + 1 by have := HG.out.b; omega, HNN.out, show (S.es.drop t).take (min (1048576 : Int).toNat (n - t)) = S.es.drop t from List.take_of_length_le (by rw [List.length_drop, HNN.out]; show n - t ≤ min 1048576 (n - t); omega), hR] at hR0
      have HR0 := hide hR0
      have HM := hide hMS
      have HR := hide hR
      have HRN := hide hRl
      have hrl := hRl.1
      clear hR0 hMS hR hRl
      go_wp2_with (go_at_call 14; refine HR0.out.mono ?_; rintro e w9 ⟨v9, rfl, her9, hg9, hb9⟩; obtain ⟨a9, c9, rfl, hn9, hc9, hm9⟩ := her9.slice)
      have hMS9 : MS w w9 bc bB ⟨0, 0, P ++ Zn y k R (0 - 1)⟩ S vb a5 a9 S.es R := by
        have h := HM.out.below hb9
        obtain ⟨v, hv⟩ := HM.out.log
        exact ⟨h.log, h.lb, h.dj, h.all, apt_new hv hb9 her9 hg9, h.new, h.bel⟩
      clear her9 hg9 hb9 HM HR0
      have HMG := hide (fun W i Z c v (h : LH W bc ⟨0, 0, P ++ Z⟩ v) (hA : Apt W bc a9 R) (hi : i ≤ R.length) (hz : Z.length ≤ 45) => mg_at HG.out (by rw [HNN.out]; exact htn) HP.out HR.out HY.out HPL.out h hA hi hz (c := c))
      have HSL := hide (fun W i v (h : LH W bc ⟨0, 0, P ++ Zn y k R i⟩ v) (hi : i ≤ R.length) => sl_at HG.out (by rw [HNN.out]; exact htn) HP.out HR.out HPL.out hk5 hrl h hi)
      go_loopw [24] (fun iv wr => ∃ i : Nat, i ≤ R.length + 1 ∧ iv = .int .i64 i ∧ MS w wr bc bB ⟨0, 0, P ++ Zn y k R (i - 1)⟩ S vb a5 a9 S.es R) (fun iv _ => R.length + 1 - (intOf iv).toNat)
      case atStart => exact ⟨0, Nat.zero_le _, rfl, hMS9⟩
      case round =>
        clear hMS9
        rename_i wr0
        obtain ⟨i, hi, rfl, hMS⟩ := hrel
        by_cases hil : i ≤ R.length
        · have j3 : (i : Int) ≤ (R.length : Int) := by omega
          have j4 : (0 : Int) ≤ (i : Int) := by omega
          have j5 : i ≤ c9 := by omega
          have j6 : (i : Int) ≤ (c9 : Int) := by omega
          have j7 : (t : Int) + (i : Int) ≤ (c5 : Int) := by have := HRN.out.2; omega
          have j8 : t + i ≤ c5 := by have := HRN.out.2; omega
          have j9 : (t : Int) + (i : Int) ≤ 1000 := by omega
          obtain ⟨c, hc⟩ := mrg_next (P := P) (t := y) (k := k) (n := i) (R := R) (fun e he => by have := HG.out.each e (List.mem_of_mem_drop (by rw [HR.out]; exact he)); omega) hil
          obtain ⟨v, hv⟩ := hMS.log
          have hm1 := HMG.out _ i _ c9 v hv hMS.rest hil (len_Zn _ hk5 hrl)
          rw [← HPL.out, hc, HPL.out] at hm1
          have H1 := hide hm1
          have HMS := hide hMS
          clear hm1 hMS hv hc
          go_wp2_with fail
          refine H1.out.mono ?_
          rintro e w10 ⟨rfl, ⟨v10, hv10⟩, ht10⟩
          have HMS1 := hide (HMS.out.turn ⟨v10, hv10⟩ ht10)
          have H2 := hide (HSL.out _ i v10 hv10 hil)
          clear H1 HMS ht10
          have e8 : ((t : Int) + (i : Int) == (t : Int) + (i : Int)) = true := by simp
          go_wp2_with (go_at_call 14; refine H2.out.mono ?_; rintro e w11 ⟨a11, c11, rfl, hl11, hb11⟩)
          have HMS2 := hide (HMS1.out.below hb11)
          have H3 := hide (same_ents a11 a5 c11 c5 (S.es.take (t + i)) w11 hl11 (lies_take _ HMS2.out.all.1) (by rw [List.length_take, HNN.out]; omega))
          have hle : (S.es.take (t + i)).length = t + i := by rw [List.length_take, HNN.out]; have := HRN.out.2; omega
          rw [hle] at H3
          clear HMS1 H2 hl11 hle hv10
          go_wp2_with (go_at_call 15; refine H3.out.mono ?_; rintro e w12 ⟨rfl, hb12⟩)
          have hMS3 := HMS2.out.below hb12
          obtain ⟨v12, hv12⟩ := hMS3.log
          have hm2 := HMG.out _ i _ c9 v12 hv12 hMS3.rest hil (len_Zn _ hk5 hrl)
          rw [← HPL.out, mrg_same, HPL.out] at hm2
          have H4 := hide hm2
          have HMS3 := hide hMS3
          clear hm2 hMS3 hv12 H3 HMS2 hb12 hb11
          go_wp2_with (go_at_call 19; refine H4.out.mono ?_; rintro e w13 ⟨rfl, hv13, ht13⟩)
          go_roundw
          case rel => exact ⟨i + 1, by omega, by go_num, by rw [Nat.add_sub_cancel]; exact HMS3.out.turn hv13 ht13⟩
          case measure => simp [intOf]; omega
        · have j3 : ¬ (i : Int) ≤ (R.length : Int) := by omega
          go_wp2
          go_ret
          exact ⟨rfl, hMS.bel⟩

theorem match_row (a0 : Option Addr) (c0 : Nat) (mine : List Int) (a1 : Option Addr) (c1 : Nat) (theirs : List Int) (f : Int) (w : World) (hl0 : IntsAt w a0 c0 mine) (hl1 : IntsAt w a1 c1 theirs) (h2 : (Lit.int .i64 f).wf = true) :
    Calls Try.prog 4 #[.slice a0 mine.length c0, .slice a1 theirs.length c1, .int .i64 f] w fun e w' => e = .returned (.bool true) ∧ Below w.heap.size w w' :=
  match_law a0 c0 mine a1 c1 theirs f w hl0 hl1 (bounds_i64 h2)

end Go.Proofs.Ytabboeahnboagaa.Rl
