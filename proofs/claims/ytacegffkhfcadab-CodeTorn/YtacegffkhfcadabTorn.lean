/- CodeTorn: a frame that ends early is none; nor is one in which one byte behind the number is another one. Proved: for every text, place and byte that can be read, no condition. -/
import Derived.Test.YtacegffkhfcadabWorks
import Derived.Test.YtacegffkhfcadabUnframe
import Derived.OpenShut
namespace Go.Proofs.Ytacegffkhfcadab
open Go.RowKit

namespace Pl
/-- the plain sum of bytes -/
def sumB : List UInt8 → Nat
  | [] => 0
  | b :: r => b.toNat + sumB r
theorem sumB_append (a b : List UInt8) : sumB (a ++ b) = sumB a + sumB b := by
  induction a with
  | nil => simp [sumB]
  | cons x a ih => simp only [List.cons_append, sumB, ih]; omega
theorem ad_one (l : List UInt8) (q : Nat × Nat) (h : q.1 < 65521) : (ad l q).1 = (q.1 + sumB l) % 65521 := by
  induction l generalizing q with
  | nil => simp only [ad, sumB]; omega
  | cons b r ih => simp only [ad, sumB]; rw [ih _ (by simp only; omega)]; simp only; omega
theorem adler_differs (a c : List UInt8) (x y : UInt8) (h : x ≠ y) : adler (a ++ x :: c) ≠ adler (a ++ y :: c) := by
  intro e
  have h1 := ad_lt (a ++ x :: c) (1, 0) (by omega) (by omega)
  have h2 := ad_lt (a ++ y :: c) (1, 0) (by omega) (by omega)
  have l1 := ad_one (a ++ x :: c) (1, 0) (by omega)
  have l2 := ad_one (a ++ y :: c) (1, 0) (by omega)
  rw [sumB_append] at l1 l2
  simp only [sumB] at l1 l2
  unfold adler at e
  have hx := x.toNat_lt
  have hy := y.toNat_lt
  have hne : x.toNat ≠ y.toNat := fun e => h (UInt8.toNat_inj.1 e)
  generalize ad (a ++ x :: c) (1, 0) = p at *
  generalize ad (a ++ y :: c) (1, 0) = r at *
  omega
theorem low_val' (c : Nat) (l : List UInt8) (h : l.length = c) : low c (val l) = l := by
  subst h
  induction l with
  | nil => rfl
  | cons b r ih =>
    have hb := b.toNat_lt
    simp only [List.length_cons, low, val]
    have e1 : (b.toNat + 256 * val r) % 256 = b.toNat := by omega
    have e2 : (b.toNat + 256 * val r) / 256 = val r := by omega
    rw [e1, e2, ih, UInt8.ofNat_toNat]
theorem val_low4 (n : Nat) (h : n < 4294967296) : val (low 4 n) = n := by
  simp only [low, val, UInt8.toNat_ofNat']; omega
end Pl

theorem head_take4 (l : List UInt8) : (head l).take 4 = Pl.low 4 l.length := by
  rw [head, List.take_append_of_le_length (by rw [Pl.low_length]; exact Nat.le_refl _), List.take_of_length_le (by rw [Pl.low_length]; exact Nat.le_refl _)]
theorem frm_take4 (l : List UInt8) : (frm l).take 4 = Pl.low 4 l.length := by
  rw [frm, List.take_append_of_le_length (by rw [head_length]; omega), head_take4]

/-- a frame that ends early -/
theorem unf_cut (l : List UInt8) (h : l.length ≤ 65536) (c : Nat) (hc : c < (frm l).length) : unf ((frm l).take c) = ([], 0, 11) := by
  have hl := frm_length l
  have hlen : ((frm l).take c).length = c := by rw [List.length_take]; omega
  rw [unf, hlen]
  by_cases h4 : c < 4
  · rw [if_pos h4]
  · have e : ((frm l).take c).take 4 = Pl.low 4 l.length := by rw [List.take_take, Nat.min_eq_left (by omega), frm_take4]
    rw [if_neg h4, e, Pl.val_low4 _ (by omega), if_neg (by omega), if_pos (by omega)]

/-- a frame in which one byte behind the number is another one -/
theorem unf_turned (l : List UInt8) (h : l.length ≤ 65536) (k : Nat) (hk : 4 ≤ k) (hkl : k < (frm l).length) (y : UInt8) (hy : y ≠ (frm l)[k]) : unf ((frm l).set k y) = ([], 0, 10) := by
  have hl := frm_length l
  have hh := head_length l
  have e4 : ((frm l).set k y).take 4 = Pl.low 4 l.length := by rw [List.take_set, List.set_eq_of_length_le (by rw [List.length_take]; omega), frm_take4]
  rw [unf, List.length_set, if_neg (by omega), e4, Pl.val_low4 _ (by omega), if_neg (by omega), if_neg (by omega), if_pos]
  have hal := adler_lt (head l)
  by_cases hc : k < 4 + l.length
  · have hd : (((frm l).set k y).drop (4 + l.length)).take 4 = Pl.low 4 (Pl.adler (head l)) := by
      rw [List.drop_set_of_lt hc, frm, ← hh, List.drop_left, List.take_of_length_le (by rw [Pl.low_length]; exact Nat.le_refl _)]
    have ht : ((frm l).set k y).take (4 + l.length) = (head l).set k y := by
      rw [List.take_set, frm, ← hh, List.take_left]
    rw [hd, ht, Pl.val_low4 _ hal]
    have hk' : k < (head l).length := by omega
    have hg : (frm l)[k] = (head l)[k] := by simp only [frm]; rw [List.getElem_append_left hk']
    rw [hg] at hy
    rw [List.set_eq_take_append_cons_drop, if_pos hk']
    have hsp : head l = (head l).take k ++ (head l)[k] :: (head l).drop (k + 1) := by rw [← List.drop_eq_getElem_cons hk', List.take_append_drop]
    intro e
    rw [hsp] at e
    exact Pl.adler_differs _ _ _ _ (Ne.symm hy) (by rw [← hsp] at e ⊢; exact e)
  · have ht : ((frm l).set k y).take (4 + l.length) = head l := by
      rw [List.take_set, List.set_eq_of_length_le (by rw [List.length_take]; omega), frm, ← hh, List.take_left]
    rw [ht]
    have hd : ((frm l).set k y).drop (4 + l.length) = (Pl.low 4 (Pl.adler (head l))).set (k - (4 + l.length)) y := by
      rw [List.drop_set, if_neg hc, frm, ← hh, List.drop_left]
    rw [hd, List.take_of_length_le (by rw [List.length_set, Pl.low_length]; exact Nat.le_refl _)]
    intro e
    have hs := Pl.low_val' 4 ((Pl.low 4 (Pl.adler (head l))).set (k - (4 + l.length)) y) (by rw [List.length_set, Pl.low_length])
    rw [e] at hs
    have hj : k - (4 + l.length) < (Pl.low 4 (Pl.adler (head l))).length := by rw [Pl.low_length]; omega
    have hg : (frm l)[k] = (Pl.low 4 (Pl.adler (head l)))[k - (4 + l.length)] := by
      simp only [frm]; rw [List.getElem_append_right (by omega)]; simp only [hh]
    apply hy
    rw [hg]
    have := congrArg (fun z => z[k - (4 + l.length)]?) hs
    simp only [List.getElem?_set_self hj] at this
    rw [List.getElem?_eq_getElem hj] at this
    exact (Option.some.inj this).symm

end Go.Proofs.Ytacegffkhfcadab
