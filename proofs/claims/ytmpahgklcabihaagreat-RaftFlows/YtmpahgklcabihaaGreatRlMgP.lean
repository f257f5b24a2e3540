/- What merging comes to, plain. -/
import Derived.Test.YtmpahgklcabihaaGreatRlMay
import Derived.Test.YtmpahgklcabihaaGreatRlLack
namespace Go.Proofs.YtmpahgklcabihaaGreat.Rl
open Go.RowKit Go.Joins Gk

/-- how many of the first entries have the same terms -/
def mt : List En → List En → Nat
  | a :: A, f :: fs => if a.t = f.t then mt A fs + 1 else 0
  | _, _ => 0
theorem mt_le1 : ∀ (A fs : List En), mt A fs ≤ A.length
  | [], [] => Nat.le_refl _
  | [], _ :: _ => Nat.le_refl _
  | _ :: _, [] => Nat.zero_le _
  | a :: A, f :: fs => by
    rw [mt]; split
    · have := mt_le1 A fs; simp; omega
    · simp
theorem mt_le2 : ∀ (A fs : List En), mt A fs ≤ fs.length
  | [], [] => Nat.le_refl _
  | [], _ :: _ => Nat.zero_le _
  | _ :: _, [] => Nat.le_refl _
  | a :: A, f :: fs => by
    rw [mt]; split
    · have := mt_le2 A fs; simp; omega
    · simp
theorem lck_nmb (S : Lo) : ∀ (fs : List En) (f q : Nat), f = S.b + q + 1 → q ≤ S.es.length → lck S (nmb f fs) = nmb (f + mt (S.es.drop q) fs) (fs.drop (mt (S.es.drop q) fs))
  | [], f, q, _, _ => by simp [nmb, lck]
  | e :: fs, f, q, hf, hq => by
    rcases Nat.lt_or_ge q S.es.length with h | h
    · have hd : S.es.drop q = S.es[q] :: S.es.drop (q + 1) := List.drop_eq_getElem_cons h
      have htm : S.tm f = S.es[q].t := by
        rw [Lo.tm, if_neg (by omega), show f - S.b - 1 = q by omega, List.getElem?_eq_getElem h]; rfl
      have hk : decide ((S.b : Int) ≤ (f : Int) ∧ (f : Int) ≤ (S.last : Int)) = true := by rw [decide_eq_true_iff]; unfold Lo.last; omega
      rw [hd, mt, nmb]
      by_cases ht : S.es[q].t = e.t
      · have h1 : hs S (f, e) = true := by unfold hs; rw [hk]; simp [htm, ht]
        rw [if_pos ht, lck, List.dropWhile_cons, if_pos h1]
        have := lck_nmb S fs (f + 1) (q + 1) (by omega) (by omega)
        rw [lck] at this
        rw [this, List.drop_succ_cons]
        congr 1; omega
      · have h1 : hs S (f, e) = false := by unfold hs; rw [hk]; simp [htm, ht]
        rw [if_neg ht, lck, List.dropWhile_cons, if_neg (by rw [h1]; decide)]
        rfl
    · have hd : S.es.drop q = [] := List.drop_of_length_le h
      have hk : decide ((S.b : Int) ≤ (f : Int) ∧ (f : Int) ≤ (S.last : Int)) = false := by rw [decide_eq_false_iff_not]; unfold Lo.last; omega
      have h1 : hs S (f, e) = false := by unfold hs; rw [hk]; rfl
      rw [hd, nmb, lck, List.dropWhile_cons, if_neg (by rw [h1]; decide)]
      simp [mt, nmb]
/-- the log when so many of what it lacks have come, and how many were cut off -/
def mI (S : Lo) (p m : Nat) (fs : List En) (k : Nat) : Lo × Nat := if k = 0 then (S, 0) else (⟨S.b, S.bt, S.es.take (p + m) ++ (fs.drop m).take k⟩, S.es.length - (p + m))
/-- what merging leaves -/
def Lo.mrg (S : Lo) (p : Nat) (fs : List En) : Lo × Nat := mI S p (mt (S.es.drop p) fs) fs (fs.length - mt (S.es.drop p) fs)

theorem mfs_lg' : ∀ (L : List (Nat × En)) (s : Mf), (L.foldl Mf.step s).lg = false → s.lg = false ∧ ∀ x ∈ L, x.2.d.size ≤ 4096 ∧ x.1 ≤ 1048576
  | [], s, h => ⟨h, by simp⟩
  | x :: L, s, h => by
    obtain ⟨h1, h2⟩ := mfs_lg' L (s.step x) h
    simp only [Mf.step, Bool.or_eq_false_iff, decide_eq_false_iff_not] at h1
    refine ⟨h1.1.1, fun y hy => ?_⟩
    rcases List.mem_cons.1 hy with rfl | hy
    · omega
    · exact h2 y hy
theorem mfs_lg (t : Int) (L : List (Nat × En)) (h : (mfs t L).lg = false) : ∀ x ∈ L, x.2.d.size ≤ 4096 ∧ x.1 ≤ 1048576 := (mfs_lg' L _ h).2
theorem mcode_ok {t : Int} {L : List (Nat × En)} (h : mcode t L = 0) : ¬ hasBad L ∧ (mfs t L).st = false ∧ (mfs t L).lg = false := by
  unfold mcode at h
  split at h
  · cases h
  · rename_i hb
    split at h
    · cases h
    · rename_i hst
      split at h
      · cases h
      · rename_i hlg
        exact ⟨hb, by simpa using hst, by simpa using hlg⟩

end Go.Proofs.YtmpahgklcabihaaGreat.Rl
