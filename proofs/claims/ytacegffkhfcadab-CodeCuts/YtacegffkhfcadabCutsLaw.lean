/- CodeCuts: a beginning of a list's bytes is that of fewer of its fields, or ends within the next one, there: ErrEnd. Proved: for every list of fields and place that can be read, no condition. -/
import Derived.Test.YtacegffkhfcadabCuts
import Derived.Test.YtacegffkhfcadabSame
namespace Go.Proofs.Ytacegffkhfcadab
open Go.RowKit

theorem fits_sizes {fs : List Fld} (h : ∀ x ∈ fs, x.fits) : ∀ x ∈ fs, x.s.size ≤ 140737488351232 := fun x hx => (h x hx).2.2
theorem good_one {l : List Fld} (hg : Good l) (k : Nat) (hk : k < l.length) : encode [l[k]] = (⟨(enc l[k]).toArray⟩, 0) := by
  have hm := List.getElem_mem hk
  have h1 : encs [l[k]] = enc l[k] := by simp [encs]
  have := encode_good (l := [l[k]]) ⟨by simp, by simpa using List.all_eq_true.1 hg.may _ hm, by rw [h1]; have := encs_mem_le hm; have := hg.long; omega⟩
  rw [h1] at this
  exact this
theorem lies_one {w : World} {b off : Nat} {fs : List Fld} (h : liesAt w b off fs) (hb : b < w.heap.size) (k : Nat) (hk : k < fs.length) : Lies w (some ⟨b, off + k * 3, none⟩) [fs[k]] := by
  refine Or.inr ⟨b, off + k * 3, rfl, hb, fun i hi => ?_⟩
  obtain rfl : i = 0 := by simpa using hi
  obtain ⟨c0, c1, c2⟩ := h k hk
  exact ⟨by simpa using c0, by simpa using c1, by simpa using c2⟩
theorem lies_take {w : World} {a : Option Addr} {fs : List Fld} (h : Lies w a fs) (k : Nat) : Lies w a (fs.take k) := by
  rcases h with rfl | ⟨b, off, rfl, hlt, hl⟩
  · exact Or.inl (by simp)
  · refine Or.inr ⟨b, off, rfl, hlt, fun i hi => ?_⟩
    have hi' : i < fs.length := by rw [List.length_take] at hi; omega
    rw [List.getElem_take]
    exact hl i hi'

set_option maxHeartbeats 3200000 in
theorem cuts_law (a : Option Addr) (cap : Nat) (fs : List Fld) (p : Int) (w : World) (hl : Lies w a fs) (hnil : (a = none → cap = 0) ∧ fs.length ≤ cap) (hn : fs.length * 32 ≤ 140737488351232) (hf : ∀ x ∈ fs, x.fits) (hp : (Lit.int .i64 p).wf = true) :
    Calls Try.prog 4 #[.slice a fs.length cap, .int .i64 p] w fun e w' => e = .returned (.bool true) ∧ Below w.heap.size w w' := by
  obtain ⟨p0, p1⟩ := bounds_i64 hp
  have hcap := hnil.2
  have hnil0 := hide hnil.1
  clear hp hnil
  have hu := u64_wrap p
  go_enter Try.func4, Try.ntmps4
  go_wp2_with fail
  refine (works_any _).mono ?_
  rintro e w1 ⟨rfl, hb1⟩
  have hz1 := hb1.size
  go_wp2_with fail
  refine (Encode_any a cap fs w1 (hl.later hb1) (by omega) (fits_sizes hf)).mono ?_
  rintro e w2 ⟨rfl, hb2⟩
  have hb2' := hb1.trans (hb2.mono hz1)
  have hz2 := hb2'.size
  clear hb1 hb2
  rw [encodeV]
  by_cases hok : (encode fs).2 ≠ 0
  · obtain ⟨er, her⟩ : ∃ er, er = (encode fs).2 := ⟨_, rfl⟩
    rw [← her] at hok ⊢
    have bq : ((er : Int) != 0) = true := by rw [bne_iff_ne]; omega
    clear her
    go_wp2
    go_ret
    exact ⟨rfl, hb2'⟩
  · have hg := good_of (show (encode fs).2 = 0 by omega)
    rw [encode_good hg]
    have hts : (ByteArray.mk (encs fs).toArray).size = (encs fs).length := by show (encs fs).toArray.size = _; simp
    have htd := hide (show (ByteArray.mk (encs fs).toArray).data.toList = encs fs from rfl)
    have HTS := hide hts
    have hlo := hg.long
    rw [← hts] at hlo
    clear hts hok
    generalize ByteArray.mk (encs fs).toArray = t at *
    by_cases hmany : 60 < fs.length
    · go_wp2
      go_ret
      exact ⟨rfl, hb2'⟩
    · by_cases hlong : 20000 < t.size
      · go_wp2
        go_ret
        exact ⟨rfl, hb2'⟩
      · have hw2 : IntKind.u64.wrap ((t.size : Int) + 1) = (t.size : Int) + 1 := by rw [IntKind.wrap_u64]; omega
        generalize u64 p = q at *
        obtain ⟨c, hc⟩ : ∃ c, c = q % (t.size + 1) := ⟨_, rfl⟩
        have hcl : c ≤ t.size := by rw [hc]; have := Nat.mod_lt q (show 0 < t.size + 1 by omega); omega
        have hci : (q : Int) % ((t.size : Int) + 1) = (c : Int) := by
          rw [hc, show ((t.size : Int) + 1) = ((t.size + 1 : Nat) : Int) from by omega]; omega
        have hne : ¬ (t.size : Int) + 1 = 0 := by omega
        clear hc
        have hce := ext_size t 0 c (by omega) hcl
        have hcd := hide (show (t.extract 0 c).data.toList = (encs fs).take c from by rw [Lib.extract_data, List.drop_zero, Nat.sub_zero, htd.out])
        go_wp2_with fail
        refine (Decode_any (t.extract 0 c) w2 (by rw [hce]; omega)).mono ?_
        rintro e w3 ⟨v3, rfl, hown3, hb3⟩
        obtain ⟨a3, c3, rfl, hl3⟩ := own_lies hown3
        have hb3' := hb2'.trans (hb3.mono hz2)
        have hz3 := hb3'.size
        have HC := hide (fun k (hk : k ≤ fs.length) hlo hhi => decode_cut hg hf (c := c) (by rw [← HTS.out]; exact hcl) hk hlo hhi (t.extract 0 c) hcd.out)
        generalize decode (t.extract 0 c) = D at *
        obtain ⟨dl, dp, de⟩ := D
        clear hown3 hb3 hb2' hce
        go_wp2
        obtain ⟨W, hW⟩ : ∃ W, W = w3.alloc (.cells #[.int .i64 (dp : Int), .int .i64 (de : Int)] 28) := ⟨_, rfl⟩
        have hbW : Below w.heap.size w W := by rw [hW]; exact hb3'.alloc hz3 _
        have hWs : W.heap.size = w3.heap.size + 1 := by rw [hW]; simp
        have k0 : W.cell? ⟨w3.heap.size, 0, none⟩ = some (.int .i64 (dp : Int)) := by rw [hW]; simp
        have k1 : W.cell? ⟨w3.heap.size, 1, none⟩ = some (.int .i64 (de : Int)) := by rw [hW]; simp
        have hl3' : Lies W a3 dl := by rw [hW]; exact hl3.later ((Below.refl _ _).alloc (Nat.le_refl _) _)
        rw [← hW]
        clear hW hl3 hb3'
        go_loopw [10, 11] (fun n lo wr => ∃ k : Nat, k ≤ fs.length ∧ n = .int .i64 k ∧ lo = .int .i64 (encs (fs.take k)).length ∧ (encs (fs.take k)).length ≤ c ∧ Below W.heap.size W wr) (fun n _ _ => fs.length - (intOf n).toNat)
        case atStart => exact ⟨0, by omega, rfl, rfl, by simp [encs], Below.refl _ _⟩
        case round =>
          obtain ⟨k, hk, rfl, rfl, hlk, hbel⟩ := hrel
          have hbr : Below w.heap.size w wr := hbW.trans (hbel.mono (by omega))
          have hzr := hbr.size
          have hzz := hbel.size
          have hle2 : (encs (fs.take k)).length ≤ 20000 := by omega
          by_cases hlt : k < fs.length
          · obtain ⟨b, off, rfl, hlb⟩ : ∃ b off, a = some ⟨b, off, none⟩ ∧ Lies wr (some ⟨b, off + k * 3, none⟩) [fs[k]] := by
              rcases hl.later hbr with h | ⟨b, off, rfl, h1, h2⟩
              · rw [h] at hlt; simp at hlt
              · exact ⟨b, off, rfl, lies_one h2 h1 k hlt⟩
            have hE := Encode_any (some ⟨b, off + k * 3, none⟩) (cap - k) [fs[k]] wr hlb (by simp) (by intro x hx; simp at hx; subst hx; exact fits_sizes hf _ (List.getElem_mem hlt))
            rw [encodeV, good_one hg k hlt] at hE
            have hes : (ByteArray.mk (enc fs[k]).toArray).size = (enc fs[k]).length := by show (enc fs[k]).toArray.size = _; simp
            have hel : (enc fs[k]).length ≤ 262144 := by have := encs_mem_le (List.getElem_mem hlt); have := hg.long; omega
            have hsn := hide (show (encs (fs.take (k + 1))).length = (encs (fs.take k)).length + (enc fs[k]).length from by rw [encs_snoc fs k hlt]; simp)
            have HC1 := hide (fun (h1 : c < (encs (fs.take k)).length + (enc fs[k]).length) => HC.out k hk hlk (fun _ => h1))
            rw [← hes] at hel hsn HC1
            have HE := hide hE
            clear hE hes
            generalize ByteArray.mk (enc fs[k]).toArray = te at *
            generalize (encs (fs.take k)).length = lo at *
            by_cases hnext : c < lo + te.size
            · have HD := HC1.out hnext
              clear HC1 HC
              go_wp2_with fail
              refine HE.out.mono ?_
              rintro e w4 ⟨rfl, hb4⟩
              have hbel4 : Below W.heap.size W w4 := hbel.trans (hb4.mono hzz)
              have hbr4 : Below w.heap.size w w4 := hbr.trans (hb4.mono hzr)
              have hzr4 := hbr4.size
              have c0 := (hbel4.cell (p := ⟨w3.heap.size, 0, none⟩) (by show w3.heap.size < _; omega)).trans k0
              have c1 := (hbel4.cell (p := ⟨w3.heap.size, 1, none⟩) (by show w3.heap.size < _; omega)).trans k1
              clear k0 k1 hb4 hbel hbr HE
              by_cases heq : lo = c
              · rw [if_pos heq] at HD
                simp only [Prod.mk.injEq] at HD
                obtain ⟨rfl, rfl, rfl⟩ := HD
                have bl : ((lo : Int) == (c : Int)) = true := by rw [beq_iff_eq]; omega
                have hS := same_any a3 (some ⟨b, off, none⟩) c3 cap (fs.take k) w4 (hl3'.later hbel4) (lies_take (hl.later hbr4) k) (by rw [List.length_take]; omega)
                rw [List.length_take, Nat.min_eq_left hk] at hS
                have hlt' : (List.take k fs).length = k := by rw [List.length_take]; omega
                have HS := hide hS
                clear hS heq
                go_wp2_with fail
                refine HS.out.mono ?_
                rintro e w9 ⟨rfl, hb9⟩
                go_wp2
                go_ret
                exact ⟨rfl, hbr4.trans (hb9.mono hzr4)⟩
              · rw [if_neg heq] at HD
                simp only [Prod.mk.injEq] at HD
                obtain ⟨rfl, rfl, rfl⟩ := HD
                have bl : ((dp : Int) == (c : Int)) = false := by rw [beq_eq_false_iff_ne]; omega
                go_wp2
                go_ret
                exact ⟨rfl, hbr4⟩
            · clear HC1
              go_wp2_with fail
              refine HE.out.mono ?_
              rintro e w4 ⟨rfl, hb4⟩
              have hbel4 : Below W.heap.size W w4 := hbel.trans (hb4.mono hzz)
              clear hb4 hbel hbr HE
              go_wp2
              go_roundw
              case rel => exact ⟨k + 1, by omega, by go_num, val_int (by rw [hsn.out]; omega), by rw [hsn.out]; omega, hbel4⟩
              case measure => simp [intOf]; omega
          · have HD := HC.out k hk hlk (fun h => absurd h hlt)
            have hkl : fs.length ≤ k := by omega
            generalize (encs (fs.take k)).length = lo at *
            have c0 := (hbel.cell (p := ⟨w3.heap.size, 0, none⟩) (by show w3.heap.size < _; omega)).trans k0
            have c1 := (hbel.cell (p := ⟨w3.heap.size, 1, none⟩) (by show w3.heap.size < _; omega)).trans k1
            clear k0 k1 HC
            cases a with
            | none =>
              obtain rfl : cap = 0 := hnil0.out rfl
              have hk0 : k = 0 := by omega
              subst hk0
              clear hcap hkl
              by_cases heq : lo = c
              · rw [if_pos heq] at HD
                simp only [Prod.mk.injEq] at HD
                obtain ⟨rfl, rfl, rfl⟩ := HD
                have bl : ((lo : Int) == (c : Int)) = true := by rw [beq_iff_eq]; omega
                have hS := same_any a3 none c3 0 [] wr (Or.inl rfl) (Or.inl rfl) (by simp)
                rw [List.length_nil] at hS
                have HS := hide hS
                clear hS heq
                go_wp2_with fail
                refine HS.out.mono ?_
                rintro e w9 ⟨rfl, hb9⟩
                go_wp2
                go_ret
                exact ⟨rfl, hbr.trans (hb9.mono hzr)⟩
              · rw [if_neg heq] at HD
                simp only [Prod.mk.injEq] at HD
                obtain ⟨rfl, rfl, rfl⟩ := HD
                have bl : ((dp : Int) == (c : Int)) = false := by rw [beq_eq_false_iff_ne]; omega
                go_wp2
                go_ret
                exact ⟨rfl, hbr⟩
            | some ad =>
              clear hnil0
              by_cases heq : lo = c
              · rw [if_pos heq] at HD
                simp only [Prod.mk.injEq] at HD
                obtain ⟨rfl, rfl, rfl⟩ := HD
                have bl : ((lo : Int) == (c : Int)) = true := by rw [beq_iff_eq]; omega
                have hS := same_any a3 (some ad) c3 cap (fs.take k) wr (hl3'.later hbel) (lies_take (hl.later hbr) k) (by rw [List.length_take]; omega)
                rw [List.length_take, Nat.min_eq_left hk] at hS
                have hlt' : (List.take k fs).length = k := by rw [List.length_take]; omega
                have HS := hide hS
                clear hS heq
                go_wp2_with fail
                refine HS.out.mono ?_
                rintro e w9 ⟨rfl, hb9⟩
                go_wp2
                go_ret
                exact ⟨rfl, hbr.trans (hb9.mono hzr)⟩
              · rw [if_neg heq] at HD
                simp only [Prod.mk.injEq] at HD
                obtain ⟨rfl, rfl, rfl⟩ := HD
                have bl : ((dp : Int) == (c : Int)) = false := by rw [beq_eq_false_iff_ne]; omega
                go_wp2
                go_ret
                exact ⟨rfl, hbr⟩

end Go.Proofs.Ytacegffkhfcadab
