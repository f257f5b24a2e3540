/- CodeJoins: the bytes of two lists, one behind the other, are those of both together. Proved: for every two lists of fields that can be read, no condition. -/
import Derived.Test.YtldlbnmegbdfpaaBack
import Derived.Laws.AppendOwnNone
namespace Go.Proofs.Ytldlbnmegbdfpaa
open Go.RowKit

/-- the cells of a list that lies somewhere -/
theorem lies_cells {w : World} {b off : Nat} {fs : List Fld} (h : liesAt w b off fs) : ∀ j u, (fcells fs)[j]? = some u → w.cell? ((⟨b, off, none⟩ : Addr).add j) = some u := by
  intro j u hj
  have hlt : j < fs.length * 3 := by
    have := (List.getElem?_eq_some_iff.1 hj).1
    rw [fcells_length] at this; exact this
  obtain ⟨c0, c1, c2⟩ := h (j / 3) (by omega)
  obtain ⟨f0, f1, f2⟩ := fcells_at fs (j / 3) (by omega)
  rw [Go.WideShapes.add_plain]
  have hm : j % 3 = 0 ∨ j % 3 = 1 ∨ j % 3 = 2 := by omega
  rcases hm with hm | hm | hm
  · rw [show j = j / 3 * 3 from by omega] at hj ⊢
    rw [f0] at hj; cases hj; exact c0
  · rw [show j = j / 3 * 3 + 1 from by omega] at hj ⊢
    rw [f1] at hj; cases hj; exact c1
  · rw [show j = j / 3 * 3 + 2 from by omega] at hj ⊢
    rw [f2] at hj; cases hj; exact c2
theorem fcells_one (l : List Fld) : ∀ u ∈ fcells l, u.oneCell' = true := by
  intro u hu
  simp only [fcells, List.mem_flatMap, List.mem_cons, List.not_mem_nil, or_false] at hu
  obtain ⟨x, _, h⟩ := hu
  rcases h with rfl | rfl | rfl <;> rfl
theorem fcells_append (a b : List Fld) : fcells (a ++ b) = fcells a ++ fcells b := by simp [fcells]

/-- append(out, l...), out the call's own, l a list that lies somewhere -/
theorem wpList_append_fields {w : World} {ops : Array Oper} {rest : List Oper} {o : Oper} {a : Act} {Q : Exit → Act → World → Prop} (hgd : o.guard = none) (s x : Operand)
    (ho : o.op = .call { callee := .builtin .append, args := #[s, x], argTypes := #[22, 22] })
    (B : Nat) (v : Value) (l : List Fld) (hs : a.eval s = v) (hown : w.ownsRow B 45 3 v l.length (fcells l)) (ad : Option Addr) (fs : List Fld) (cap : Nat) (hx : a.eval x = .slice ad fs.length cap)
    (hl : Lies w ad fs) (hnil : ad = none → cap = 0) (hlen : (l.length + fs.length) * 32 ≤ 140737488355328) (hB : B ≤ w.heap.size)
    (h : ∀ v' w', w'.ownsRow B 45 3 v' (l ++ fs).length (fcells (l ++ fs)) → w.grownBy w' v.ownBlock → wpList Try.prog ops Q rest (a.put o.dst v') w') : wpList Try.prog ops Q (o :: rest) a w := by
  obtain ⟨i0, hi, hz0, hz1, hz2⟩ := info_parts field_info
  cases ad with
  | none =>
    have hfs : fs = [] := by
      rcases hl with h | ⟨_, _, h, _⟩
      · exact h
      · cases h
    have hc := hnil rfl
    subst hfs hc
    refine wpList_append_own_none hgd s x 22 ho B 45 i0 3 Try.underlying22 hi v _ _ hs hown hx ?_
    refine h v w ?_ (World.grownBy.refl _ _)
    rw [List.append_nil]; exact hown
  | some ad =>
    refine wpList_append_own w hgd s x 22 ho B 45 i0 _ 3 32 Try.underlying22 hi hz0 hz1 hz2 rfl (by decide) v _ _ hs hown ad fs.length cap (fcells fs) hx (fcells_length fs) ?_ (fcells_one fs) (by unfold maxLen; omega) hlen hB ?_
    · rcases hl with rfl | ⟨b, off, e, _, hl⟩
      · intro j u hj; simp [fcells] at hj
      · cases e; exact lies_cells hl
    · intro v' w' h1 h2 _
      refine h v' w' ?_ h2
      rw [fcells_append, List.length_append]; exact h1

theorem encs_append (a b : List Fld) : encs (a ++ b) = encs a ++ encs b := by simp [encs]
theorem good_append {a b : List Fld} (ha : Good a) (hb : Good b) (h1 : a.length + b.length ≤ 4096) (h2 : (encs a).length + (encs b).length ≤ 262144) : Good (a ++ b) :=
  ⟨by rw [List.length_append]; exact h1, by rw [List.all_append, ha.may, hb.may]; rfl, by rw [encs_append, List.length_append]; exact h2⟩
theorem bytes_size (l : List UInt8) : (ByteArray.mk l.toArray).size = l.length := by show l.toArray.size = _; simp
theorem bytes_append (a b : List UInt8) : ByteArray.mk a.toArray ++ ByteArray.mk b.toArray = ByteArray.mk (a ++ b).toArray := by
  apply ByteArray.ext
  simp

set_option maxHeartbeats 3200000 in
theorem joins_law (a : Option Addr) (ca : Nat) (fa : List Fld) (b : Option Addr) (cb : Nat) (fb : List Fld) (w : World) (hla : Lies w a fa) (hna' : (a = none → ca = 0) ∧ fa.length ≤ ca) (hka : fa.length * 32 ≤ 140737488351232) (hfa : ∀ x ∈ fa, x.fits)
    (hlb : Lies w b fb) (hnb' : (b = none → cb = 0) ∧ fb.length ≤ cb) (hkb : fb.length * 32 ≤ 140737488351232) (hfb : ∀ x ∈ fb, x.fits) :
    Calls Try.prog 6 #[.slice a fa.length ca, .slice b fb.length cb] w fun e w' => e = .returned (.bool true) ∧ Below w.heap.size w w' := by
  have hna := hna'.1
  have hnb := hnb'.1
  clear hna' hnb'
  go_enter Try.func6, Try.ntmps6
  go_wp2_with fail
  refine (works_any _).mono ?_
  rintro e w1 ⟨rfl, hb1⟩
  have hz1 := hb1.size
  go_wp2_with fail
  refine (Encode_any a ca fa w1 (hla.later hb1) (by omega) (fits_size hfa)).mono ?_
  rintro e w2 ⟨rfl, hb2⟩
  have hb2' := hb1.trans (hb2.mono hz1)
  have hz2 := hb2'.size
  clear hb1 hb2
  go_wp2_with fail
  refine (Encode_any b cb fb w2 (hlb.later hb2') (by omega) (fits_size hfb)).mono ?_
  rintro e w3 ⟨rfl, hb3⟩
  have hb3' := hb2'.trans (hb3.mono hz2)
  have hz3 := hb3'.size
  clear hb2' hb3
  rw [encodeV, encodeV]
  by_cases hoa : (encode fa).2 ≠ 0
  · obtain ⟨ea, hea⟩ : ∃ e, e = (encode fa).2 := ⟨_, rfl⟩
    rw [← hea] at hoa ⊢
    have ba : ((ea : Int) != 0) = true := by rw [bne_iff_ne]; omega
    clear hea
    go_wp2
    go_ret
    exact ⟨rfl, hb3'⟩
  · have hga := good_of (show (encode fa).2 = 0 by omega)
    rw [encode_good hga]
    by_cases hob : (encode fb).2 ≠ 0
    · obtain ⟨eb, heb⟩ : ∃ e, e = (encode fb).2 := ⟨_, rfl⟩
      rw [← heb] at hob ⊢
      have bb : ((eb : Int) != 0) = true := by rw [bne_iff_ne]; omega
      clear heb
      go_wp2
      go_ret
      exact ⟨rfl, hb3'⟩
    · have hgb := good_of (show (encode fb).2 = 0 by omega)
      rw [encode_good hgb]
      have hsa := bytes_size (encs fa)
      have hsb := bytes_size (encs fb)
      have HJ := hide (bytes_append (encs fa) (encs fb))
      have HLA := hga.long
      have HLB := hgb.long
      rw [← hsa] at HLA
      rw [← hsb] at HLB
      by_cases hmany : 4096 < fa.length + fb.length
      · clear hsa hsb
        generalize ByteArray.mk (encs fa).toArray = sa at *
        generalize ByteArray.mk (encs fb).toArray = sb at *
        go_wp2
        go_ret
        exact ⟨rfl, hb3'⟩
      · by_cases hlong : 262144 < (encs fa).length + (encs fb).length
        · rw [← hsa, ← hsb] at hlong
          clear hsa hsb
          generalize ByteArray.mk (encs fa).toArray = sa at *
          generalize ByteArray.mk (encs fb).toArray = sb at *
          go_wp2
          go_ret
          exact ⟨rfl, hb3'⟩
        · have hgg := good_append hga hgb (by omega) (by omega)
          have hee := hide (encode_good hgg)
          have hdd := hide (decode_encs hgg (fun x hx => by rcases List.mem_append.1 hx with h | h; exact hfa x h; exact hfb x h))
          rw [← hsa, ← hsb] at hlong
          have HSZ : Hid ((ByteArray.mk (encs (fa ++ fb)).toArray).size ≤ 140737488351232) := by show _ ≤ _; rw [bytes_size]; have := hgg.long; omega
          rw [← encs_append] at HJ
          clear hsa hsb
          generalize ByteArray.mk (encs (fa ++ fb)).toArray = sc at *
          generalize ByteArray.mk (encs fa).toArray = sa at *
          generalize ByteArray.mk (encs fb).toArray = sb at *
          have hown0 : (w3.alloc (.cells #[] 45)).ownsRow w3.heap.size 45 3 (.slice (some ⟨w3.heap.size, 0, none⟩) 0 0) ([] : List Fld).length (fcells []) := World.ownsRow_made w3 #[] 0 (Nat.le_refl _) (Nat.zero_le _) rfl
          have hl0 := (hla.later hb3').later ((Below.refl w3.heap.size w3).alloc (Nat.le_refl _) (.cells #[] 45))
          go_wp2_with (at_builtin; refine wpList_append_fields rfl (.tmp 48) (.tmp 49) rfl w3.heap.size _ [] rfl hown0 _ fa _ rfl hl0 hna ?c4 ?c5 ?_)
          case c4 => simp; omega
          case c5 => simp
          intro v4 w4 hown4 hg4
          have hb4 : Below w3.heap.size w3 w4 := ((Below.refl _ _).alloc (Nat.le_refl _) _).grown hg4 (by simp) (fun k hk => (hown0.lt k hk).1)
          have hb4' := hb3'.trans (hb4.mono hz3)
          have hz4 := hb4'.size
          have hz4' := hb4.size
          have hl4 := hlb.later hb4'
          clear hown0 hg4 hl0 hb4
          go_wp2_with (at_builtin; refine wpList_append_fields rfl (.tmp 50) (.tmp 51) rfl w3.heap.size _ fa rfl hown4 _ fb _ rfl hl4 hnb ?d4 ?d5 ?_)
          case d4 => omega
          case d5 => exact hz4'
          intro v5 w5 hown5 hg5
          have hb5 : Below w.heap.size w w5 := hb4'.grown hg5 hz4 (fun k hk => by have := (hown4.lt k hk).1; omega)
          have hz5 := hb5.size
          clear hown4 hg5 hl4 hb4'
          have hown6 : w5.ownsRow w3.heap.size 45 3 v5 (fa ++ fb).length (fcells (fa ++ fb)) := by first | exact hown5 | (rw [List.length_append]; exact hown5)
          obtain ⟨a5, c5, rfl, hl5⟩ := own_lies hown6
          clear hown5 hown6
          go_wp2_with fail
          have hE := Encode_any a5 c5 (fa ++ fb) w5 hl5 (by have := hgg.many; omega) (fits_size (fun x hx => by rcases List.mem_append.1 hx with h | h; exact hfa x h; exact hfb x h))
          rw [List.length_append] at hE
          refine hE.mono ?_
          rintro e w6 ⟨rfl, hb6⟩
          rw [encodeV, hee.out]
          have hb6' := hb5.trans (hb6.mono hz5)
          have hz6 := hb6'.size
          have hl6 := hl5.later hb6
          clear hb5 hb6 hl5
          go_wp2_with fail
          rw [HJ.out]
          refine (Decode_any sc w6 HSZ.out).mono ?_
          rintro e w7 ⟨v7, rfl, hown7, hb7⟩
          rw [hdd.out] at hown7 ⊢
          obtain ⟨a7, c7, rfl, hl7⟩ := own_lies hown7
          have hb7' := hb6'.trans (hb7.mono hz6)
          have hz7 := hb7'.size
          have hl8 := hl6.later hb7
          clear hown7 hb7 hb6' hl6
          have bs : (sc.toList == (sa ++ sb).toList) = true := by rw [HJ.out]; simp
          go_wp2_with fail
          have hS := same_any a7 a5 c7 c5 (fa ++ fb) _ (hl7.later ((Below.refl _ _).alloc (Nat.le_refl _) (.cells #[.int .i64 0, .int .i64 0] 28))) (hl8.later ((Below.refl _ _).alloc (Nat.le_refl _) _)) (by have := hgg.many; omega)
          rw [List.length_append] at hS
          refine hS.mono ?_
          rintro e w9 ⟨rfl, hb9⟩
          have hb9' := (hb7'.alloc hz7 _).trans (hb9.mono (by simp; omega))
          clear hS hE
          go_wp2
          go_ret
          exact ⟨rfl, hb9'⟩

end Go.Proofs.Ytldlbnmegbdfpaa
