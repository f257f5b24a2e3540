/- RlogMatch: logs that match. -/
import Derived.Test.YtabboeahnboagaaRlAgn
namespace Go.Proofs.Ytabboeahnboagaa.Rl
open Go.RowKit Go.Joins Gk

theorem lies_take {w : World} {a : Option Addr} {l : List En} (k : Nat) (h : Lies w eenc a l) : Lies w eenc a (l.take k) := by
  rcases h with rfl | ⟨b, off, ea, hlt, hc⟩
  · exact Or.inl (by simp)
  · exact Or.inr ⟨b, off, ea, hlt, fun j u hj => hc j u (rc_pre hj)⟩
theorem mrg_new (P : List En) : Lo.new.mrg 0 P = (⟨0, 0, P⟩, 0) := by
  have hm : mt (Lo.new.es.drop 0) P = 0 := by cases P <;> rfl
  rw [Lo.mrg, hm]
  unfold mI
  by_cases h : P = []
  · subst h; rfl
  · rw [if_neg (by simp [h])]; simp [Lo.new]
/-- the term in the middle of a list of two parts -/
theorem tm_mid {S : Lo} (h : Grown S) (t : Nat) (ht : t ≤ S.es.length) (Y : List En) : (⟨0, 0, S.es.take t ++ Y⟩ : Lo).tm t = S.tm t := by
  unfold Lo.tm
  rw [h.b, h.bt]
  dsimp only
  by_cases h0 : t = 0
  · rw [if_pos h0, if_pos h0]
  · rw [if_neg h0, if_neg h0, List.getElem?_append_left (by rw [List.length_take]; omega), List.getElem?_take, if_pos (by omega)]
def ow (t : Int) : En := ⟨t + 1000, ⟨#[111, 119, 110]⟩⟩
/-- what stands behind the beginning when n of the rest have been merged -/
def Zn (t : Int) (k : Nat) (R : List En) (n : Nat) : List En := if n = 0 then List.replicate k (ow t) else R.take n
theorem mt_own {t : Int} {k : Nat} {R : List En} (hR : ∀ e ∈ R, e.t < t + 1000) : mt (List.replicate k (ow t)) R = 0 := by
  cases k with
  | zero => cases R <;> rfl
  | succ k =>
    cases R with
    | nil => rfl
    | cons r R =>
      rw [List.replicate_succ, mt, if_neg]
      have := hR r (by simp)
      show ¬ t + 1000 = r.t
      omega
theorem mrg_next {P R : List En} {t : Int} {k n : Nat} (hR : ∀ e ∈ R, e.t < t + 1000) (hn : n ≤ R.length) : ∃ c, (⟨0, 0, P ++ Zn t k R (n - 1)⟩ : Lo).mrg P.length (R.take n) = (⟨0, 0, P ++ Zn t k R n⟩, c) := by
  unfold Lo.mrg
  dsimp only
  rw [List.drop_left]
  by_cases h0 : n = 0
  · subst h0
    rw [List.take_zero]
    refine ⟨0, ?_⟩
    have : mt (Zn t k R (0 - 1)) [] = 0 := by cases Zn t k R (0 - 1) <;> rfl
    rw [this]; rfl
  · have hl : (R.take n).length = n := by rw [List.length_take]; omega
    have hm : mt (Zn t k R (n - 1)) (R.take n) = n - 1 := by
      unfold Zn
      by_cases h1 : n - 1 = 0
      · rw [if_pos h1, mt_own (fun e he => hR e (List.mem_of_mem_take he)), h1]
      · rw [if_neg h1]
        have e1 : R.take n = R.take (n - 1) ++ [R[n - 1]] := by
          rw [← List.take_succ_eq_append_getElem (by omega)]; congr 1; omega
        have key : ∀ (A B : List En), mt A (A ++ B) = A.length := fun A => by
          induction A with
          | nil => intro B; cases B <;> rfl
          | cons a A ih => intro B; rw [List.cons_append, mt, if_pos rfl, ih]; rfl
        rw [e1, key, List.length_take]; omega
    rw [hm, hl]
    refine ⟨(P ++ Zn t k R (n - 1)).length - (P.length + (n - 1)), ?_⟩
    unfold mI
    rw [if_neg (by omega)]
    have e1 : (P ++ Zn t k R (n - 1)).take (P.length + (n - 1)) = P ++ R.take (n - 1) := by
      rw [List.take_append, List.take_of_length_le (by omega), Nat.add_sub_cancel_left]
      congr 1
      unfold Zn
      by_cases h1 : n - 1 = 0
      · rw [if_pos h1, h1]; simp
      · rw [if_neg h1, List.take_take, Nat.min_self]
    have e2 : ((R.take n).drop (n - 1)).take (n - (n - 1)) = [R[n - 1]] := by
      rw [show n - (n - 1) = 1 by omega, List.drop_take, show n - (n - 1) = 1 by omega, List.take_take, Nat.min_self, List.drop_eq_getElem_cons (by omega)]
      rfl
    have e3 : Zn t k R n = R.take (n - 1) ++ [R[n - 1]] := by
      unfold Zn
      rw [if_neg h0, ← List.take_succ_eq_append_getElem (by omega)]
      congr 1; omega
    dsimp only
    rw [e1, e2, e3, List.append_assoc]
/-- merged once more, nothing changes -/
theorem mrg_same {P R : List En} {t : Int} {k n : Nat} : (⟨0, 0, P ++ Zn t k R n⟩ : Lo).mrg P.length (R.take n) = (⟨0, 0, P ++ Zn t k R n⟩, 0) := by
  unfold Lo.mrg
  dsimp only
  rw [List.drop_left]
  have hm : mt (Zn t k R n) (R.take n) = (R.take n).length := by
    unfold Zn
    by_cases h0 : n = 0
    · rw [if_pos h0, h0, List.take_zero]; cases List.replicate k (ow t) <;> rfl
    · rw [if_neg h0]; exact mt_pre (List.prefix_refl _)
  rw [hm, Nat.sub_self]; rfl
theorem got_same {P R : List En} {t : Int} {k n : Nat} (hn : n ≤ R.length) : (P ++ Zn t k R n).take (min (P.length + n) (P ++ Zn t k R n).length) = P ++ R.take n := by
  unfold Zn
  by_cases h0 : n = 0
  · rw [if_pos h0, h0]; simp
  · rw [if_neg h0]
    exact List.take_of_length_le (by rw [List.length_append, List.length_take]; omega)
theorem len_Zn {t : Int} {k : Nat} {R : List En} (n : Nat) (hk : k ≤ 5) (hn : R.length ≤ 40) : (Zn t k R n).length ≤ 45 := by
  unfold Zn
  split
  · rw [List.length_replicate]; omega
  · rw [List.length_take]; omega

end Go.Proofs.Ytabboeahnboagaa.Rl
