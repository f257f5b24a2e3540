/- CodeFound: a frame is found wherever it stands, whatever stands behind it; many of them are, one behind the other. Proved: for every list of texts and every two texts that can be read, no condition. -/
import Derived.Test.YtacegffkhfcadaaTexts
import Derived.Test.YtacegffkhfcadaaWorks
namespace Go.Proofs.Ytacegffkhfcadaa
open Go.RowKit

theorem val_low4' (n : Nat) (h : n < 4294967296) : Pl.val (Pl.low 4 n) = n := by
  simp only [Pl.low, Pl.val, UInt8.toNat_ofNat']; omega
/-- a frame is found -/
theorem unf_frm (l q : List UInt8) (h : l.length ≤ 65536) : unf (frm l ++ q) = (l, l.length + 8, 0) := by
  have hl := frm_length l
  have hh := head_length l
  have hal := adler_lt (head l)
  have e0 : frm l ++ q = Pl.low 4 l.length ++ (l ++ (Pl.low 4 (Pl.adler (head l)) ++ q)) := by simp [frm, head]
  have e4 : (frm l ++ q).take 4 = Pl.low 4 l.length := by
    rw [e0, List.take_append_of_le_length (by rw [Pl.low_length]; exact Nat.le_refl _), List.take_of_length_le (by rw [Pl.low_length]; exact Nat.le_refl _)]
  have et : (frm l ++ q).take (4 + l.length) = head l := by rw [frm, List.append_assoc, ← hh, List.take_left]
  have ed : ((frm l ++ q).drop (4 + l.length)).take 4 = Pl.low 4 (Pl.adler (head l)) := by
    rw [frm, List.append_assoc, ← hh, List.drop_left, List.take_append_of_le_length (by rw [Pl.low_length]; exact Nat.le_refl _), List.take_of_length_le (by rw [Pl.low_length]; exact Nat.le_refl _)]
  have eb : ((frm l ++ q).drop 4).take l.length = l := by
    have h4 : (Pl.low 4 l.length).length = 4 := Pl.low_length 4 l.length
    have : (frm l ++ q).drop 4 = l ++ (Pl.low 4 (Pl.adler (head l)) ++ q) := by
      rw [e0]; exact List.drop_left' h4
    rw [this, List.take_left]
  rw [unf, List.length_append, if_neg (by omega), e4, val_low4' _ (by omega), if_neg (by omega), if_neg (by omega), et, ed, val_low4' _ hal, if_neg (by simp), eb]

/-- many frames, one behind the other -/
def frms (ts : List ByteArray) : List UInt8 := ts.flatMap fun t => frm t.data.toList
theorem frms_snoc (ts : List ByteArray) (t : ByteArray) : frms (ts ++ [t]) = frms ts ++ frm t.data.toList := by simp [frms]
theorem framesF_frms (s : ByteArray) (q : List UInt8) (hq : (unf q).2.2 ≠ 0) : ∀ (ts : List ByteArray) (f p : Nat) (acc : List ByteArray), s.size < p + f → p ≤ s.size → (∀ t ∈ ts, t.size ≤ 65536) → s.data.toList.drop p = frms ts ++ q → framesF s f p acc = (acc ++ ts, p + (frms ts).length) := by
  intro ts
  induction ts with
  | nil =>
    intro f p acc hf hp _ h
    simp only [frms, List.flatMap_nil, List.nil_append] at h
    cases f with
    | zero => omega
    | succ f => rw [framesF, h, if_pos hq]; simp [frms]
  | cons t ts ih =>
    intro f p acc hf hp ht h
    have e1 : frms (t :: ts) = frm t.data.toList ++ frms ts := by simp [frms]
    have htl : t.data.toList.length ≤ 65536 := by rw [← Lib.size_eq]; exact ht t (List.mem_cons_self ..)
    rw [e1, List.append_assoc] at h
    have hlen := drop_len s p
    have hfl := frm_length t.data.toList
    rw [h, List.length_append] at hlen
    have hu := unf_frm t.data.toList (frms ts ++ q) htl
    cases f with
    | zero => omega
    | succ f =>
      rw [framesF, h, hu, if_neg (by simp)]
      simp only
      rw [ih f _ _ (by omega) (by omega) (fun x hx => ht x (List.mem_cons_of_mem _ hx)) ?_, e1, List.length_append, hfl, Lib.mk_data]
      · simp; omega
      · rw [← hfl, ← List.drop_drop, h, List.drop_left]

theorem frames_frms (s : ByteArray) (ts : List ByteArray) (q : List UInt8) (hq : (unf q).2.2 ≠ 0) (ht : ∀ t ∈ ts, t.size ≤ 65536) (h : s.data.toList = frms ts ++ q) : frames s = (ts, (frms ts).length) := by
  rw [frames, framesF_frms s q hq ts _ 0 [] (by omega) (by omega) ht (by simpa using h)]
  simp
theorem unf_nil : (unf []).2.2 ≠ 0 := by decide
theorem unf_x : (unf [120]).2.2 ≠ 0 := by decide

theorem unframe_frm (ah be : ByteArray) (l : List UInt8) (h : l.length ≤ 65536) : unframe (ah ++ ⟨(frm l).toArray⟩ ++ be) (ah.size : Int) = (⟨l.toArray⟩, (ah.size : Int) + (l.length + 8 : Nat), 0, 0) := by
  have hd : (ah ++ ⟨(frm l).toArray⟩ ++ be).data.toList.drop ah.size = frm l ++ be.data.toList := by
    have : (ah ++ ⟨(frm l).toArray⟩ ++ be).data.toList = ah.data.toList ++ (frm l ++ be.data.toList) := by simp
    rw [this, Lib.size_eq, List.drop_left]
  refine unframe_good (n := l.length + 8) ?_ ?_
  · rw [ByteArray.size_append, ByteArray.size_append]; omega
  · rw [hd, unf_frm l _ h]

/-- those that can be framed -/
def goods (ts : List ByteArray) : List ByteArray := ts.filter fun t => decide (t.size ≤ 65536)
theorem goods_snoc (ts : List ByteArray) (k : Nat) (h : k < ts.length) : goods (ts.take (k + 1)) = goods (ts.take k) ++ (if ts[k].size ≤ 65536 then [ts[k]] else []) := by
  rw [List.take_succ_eq_append_getElem h, goods, List.filter_append]
  by_cases hc : ts[k].size ≤ 65536 <;> simp [goods, hc]
theorem goods_mem {ts : List ByteArray} : ∀ t ∈ goods ts, t.size ≤ 65536 := by
  intro t ht; simpa using (List.mem_filter.1 ht).2
theorem goods_len (ts : List ByteArray) : (goods ts).length ≤ ts.length := List.length_filter_le _ _
theorem frms_len (ts : List ByteArray) (h : ∀ t ∈ ts, t.size ≤ 65536) : (frms ts).length ≤ ts.length * 65544 := by
  induction ts with
  | nil => simp [frms]
  | cons t ts ih =>
    have := ih (fun x hx => h x (List.mem_cons_of_mem _ hx))
    have ht := h t (List.mem_cons_self ..)
    have e1 : frms (t :: ts) = frm t.data.toList ++ frms ts := by simp [frms]
    rw [e1, List.length_append, frm_length, ← Lib.size_eq, List.length_cons]; omega

set_option maxHeartbeats 3200000 in
theorem found_law (a : Option Addr) (ca : Nat) (ts : List ByteArray) (ah be : ByteArray) (w : World) (hl : LiesT w a ts) (hts : ∀ t ∈ ts, t.size ≤ 140737488351232) (hn : ts.length ≤ 9223372036854775807) (hah : ah.size ≤ 140737488351232) (hbe : be.size ≤ 140737488351232) :
    Calls Try.prog 8 #[.slice a ts.length ca, .string ah, .string be] w fun e w' => e = .returned (.bool true) ∧ Below w.heap.size w w' := by
  obtain ⟨i0, hi, hz0, hz1, hz2⟩ := info_parts str_info
  go_enter Try.func8, Try.ntmps8
  go_wp2_with fail
  refine (works_any _).mono ?_
  rintro e w1 ⟨rfl, hb1⟩
  have hzw := hb1.size
  by_cases hmany : 30 < ts.length
  · go_wp2
    go_ret
    exact ⟨rfl, hb1⟩
  · go_wp2
    go_loopw [7, 8, 27] (fun al v i wr => ∃ (k : Nat) (A : ByteArray), k ≤ ts.length ∧ i = .int .i64 k ∧ al = .string A ∧ A.data.toList = frms (goods (ts.take k)) ∧ wr.ownsRow w1.heap.size 9 1 v (goods (ts.take k)).length (tcells (goods (ts.take k))) ∧ Below w.heap.size w wr ∧ Below w1.heap.size w1 wr) (fun _ _ i _ => ts.length - (intOf i).toNat)
    case atStart => exact ⟨0, ⟨#[]⟩, by omega, rfl, rfl, by simp [goods, frms], World.ownsRow_nil _ _ _ _, hb1, Below.refl _ _⟩
    case round =>
      obtain ⟨k, A, hk, rfl, rfl, hA, hown, hbel, hbel1⟩ := hrel
      obtain ⟨av, cv, rfl⟩ := own_slice hown
      have hz := hbel.size
      have hzz := hbel1.size
      have hgl : (goods (ts.take k)).length ≤ k := Nat.le_trans (goods_len _) (List.length_take_le _ _)
      have hAs : A.size ≤ 30 * 65544 := by
        have h1 := frms_len (goods (ts.take k)) goods_mem
        rw [Lib.size_eq, hA]
        exact Nat.le_trans h1 (Nat.mul_le_mul_right _ (by omega))
      have HA := hide hA
      clear hA
      by_cases hlt : k < ts.length
      · obtain ⟨b, off, rfl, c0⟩ := hl.at k hlt hbel
        have hG := hide (goods_snoc ts k hlt)
        have htk := hts ts[k] (List.getElem_mem hlt)
        generalize ts[k] = t at *
        go_wp2_with fail
        refine (Frame_any t wr htk).mono ?_
        rintro e w2 ⟨rfl, hb2⟩
        have hbel2 := hbel.trans (hb2.mono hz)
        have hbel3 := hbel1.trans (hb2.mono hzz)
        have hz2' := hbel2.size
        have hz3' := hbel3.size
        have hown2 := own_keepF hb2 hown
        clear hb2 hown hbel hbel1 c0
        rw [frameV, frame]
        by_cases hbig : 65536 < t.size
        · rw [if_pos hbig]
          rw [if_neg (by omega), List.append_nil] at hG
          simp only
          obtain ⟨t0, ht0, hem⟩ : ∃ t : ByteArray, t = ⟨#[]⟩ ∧ (!t.toList.isEmpty) = false := ⟨_, rfl, by rw [str_empty]; rfl⟩
          rw [← ht0]
          clear ht0
          go_wp2
          go_roundw
          case rel => exact ⟨k + 1, A, by omega, by go_num, rfl, by rw [hG.out]; exact HA.out, by rw [hG.out]; exact hown2, hbel2, hbel3⟩
          case measure => simp [intOf]; omega
        · rw [if_neg hbig]
          rw [if_pos (by omega)] at hG
          simp only
          have htl : t.data.toList.length ≤ 65536 := by rw [← Lib.size_eq]; omega
          have hU := hide (unframe_frm ah be t.data.toList htl)
          have hfs : (ByteArray.mk (frm t.data.toList).toArray).size = t.size + 8 := by show (frm t.data.toList).toArray.size = _; rw [List.size_toArray, frm_length, ← Lib.size_eq]
          have hfd := hide (show (ByteArray.mk (frm t.data.toList).toArray).data.toList = frm t.data.toList from rfl)
          rw [Lib.mk_data, ← Lib.size_eq] at hU
          generalize ByteArray.mk (frm t.data.toList).toArray = F at *
          go_wp2_with fail
          refine (Unframe_any (ah ++ F ++ be) ah.size w2 (by rw [ByteArray.size_append, ByteArray.size_append]; omega) (by omega) (by omega)).mono ?_
          rintro e w3 ⟨rfl, hb3⟩
          rw [unframeV, hU.out]
          have hbel4 := hbel2.trans (hb3.mono hz2')
          have hbel5 := hbel3.trans (hb3.mono hz3')
          have hz4' := hbel4.size
          have hz5' := hbel5.size
          have hown3 := own_keepF hb3 hown2
          clear hb3 hown2 hbel2 hbel3
          have bt : (t.toList != t.toList) = false := by simp
          have bf : (((ah.size : Int) + ((t.size + 8 : Nat) : Int)) != ((ah.size : Int) + ((t.size : Int) + 8))) = false := by rw [bne_eq_false_iff_eq]; omega
          go_wp2_with (at_builtin; refine wpList_append_own _ rfl (.tmp 77) (.tmp 79) 37 rfl w1.heap.size 9 i0 (.string ⟨#[]⟩) 1 16 Try.underlying37 hi hz0 hz1 hz2 rfl (by decide) _ _ _ rfl ((hown3.alloc _).alloc _) ⟨w3.heap.size + 1, 0, none⟩ 1 1 [.string t] rfl rfl ?c1 ?c2 ?c3 ?c4 ?c5 ?_)
          case c1 =>
            have h := cell_one_new (w3.alloc (.cells #[.int .i64 0, .int .i64 0] 28)) (.string t) 9
            simpa using h
          case c2 => intro u hu; simp at hu; subst hu; rfl
          case c3 => unfold maxLen; omega
          case c4 => omega
          case c5 => simp; omega
          intro v' w4 hown' hgrow _
          have hbel6 : Below w.heap.size w w4 := ((hbel4.alloc hz4' _).alloc (by simp; omega) _).grown hgrow (by simp; omega) (fun k hk => by have := (hown3.lt k hk).1; omega)
          have hbel7 : Below w1.heap.size w1 w4 := ((hbel5.alloc hz5' _).alloc (by simp; omega) _).grown hgrow (by simp; omega) (fun k hk => (hown3.lt k hk).1)
          have hown4 : w4.ownsRow w1.heap.size 9 1 v' (goods (ts.take (k + 1))).length (tcells (goods (ts.take (k + 1)))) := by rw [hG.out, tcells_snoc]; simpa using hown'
          have hA2 : Hid ((A ++ F).data.toList = frms (goods (ts.take (k + 1)))) := by
            show _ = _
            rw [hG.out, frms_snoc, ← HA.out, ← hfd.out]; simp
          clear hown' hgrow hown3 hbel4 hbel5
          go_wp2
          go_roundw
          case rel => exact ⟨k + 1, A ++ F, by omega, by go_num, rfl, hA2.out, hown4, hbel6, hbel7⟩
          case measure => simp [intOf]; omega
      · obtain rfl : k = ts.length := by omega
        rw [List.take_length] at hown hgl HA ⊢
        have hF1 := hide (frames_frms A (goods ts) [] unf_nil goods_mem (by rw [HA.out]; simp))
        have hF2 := hide (frames_frms (A ++ ⟨#[120]⟩) (goods ts) [120] unf_x goods_mem (by rw [← HA.out]; simp))
        have hAl : Hid ((frms (goods ts)).length = A.size) := by show _ = _; rw [← HA.out, ← Lib.size_eq]
        have hAx : (A ++ (⟨#[120]⟩ : ByteArray)).size ≤ 4000000 := by rw [ByteArray.size_append]; show A.size + 1 ≤ _; omega
        obtain ⟨ax, cx, ex, hlx⟩ := own_liesT hown
        cases ex
        clear hown
        go_wp2_with fail
        refine (Frames_any A wr (by omega)).mono ?_
        rintro e w2 ⟨v2, rfl, hown2, hb2⟩
        rw [hF1.out] at hown2 ⊢
        rw [hAl.out]
        obtain ⟨a2, c2, rfl, hl2⟩ := own_liesT hown2
        have hbel2 := hbel.trans (hb2.mono hz)
        have hz2' := hbel2.size
        have hlx2 := hlx.later hb2
        clear hown2 hb2 hbel hlx
        go_wp2_with fail
        refine (Frames_any _ w2 ?hAx).mono ?_
        case hAx => exact hAx
        rintro e w3 ⟨v3, rfl, hown3, hb3⟩
        rw [hF2.out] at hown3 ⊢
        obtain ⟨a3, c3, rfl, hl3⟩ := own_liesT hown3
        have hbel3 := hbel2.trans (hb3.mono hz2')
        have hz3' := hbel3.size
        have hlx3 := hlx2.later hb3
        have hl23 := hl2.later hb3
        clear hown3 hb3 hbel2 hlx2 hl2
        go_wp2_with fail
        refine (sameT_any _ _ _ _ (goods ts) w3 hl23 hlx3 (by omega)).mono ?_
        rintro e w4 ⟨rfl, hb4⟩
        have hbel4 := hbel3.trans (hb4.mono hz3')
        have hz4' := hbel4.size
        have hlx4 := hlx3.later hb4
        have hl34 := hl3.later hb4
        clear hb4 hbel3 hlx3 hl3
        go_wp2_with fail
        refine (sameT_any _ _ _ _ (goods ts) w4 hl34 hlx4 (by omega)).mono ?_
        rintro e w5 ⟨rfl, hb5⟩
        have hbel5 := hbel4.trans (hb5.mono hz4')
        go_wp2
        go_ret
        exact ⟨rfl, hbel5⟩

end Go.Proofs.Ytacegffkhfcadaa
