/- Points in their order: what the sorted places are. -/
import Derived.Test.YtcmdglmcmifflaaDoorRsCmp
import Derived.Test.YtcmdglmcmifflaaDoorRgAdd
namespace Go.Proofs.YtcmdglmcmifflaaDoor.Rs
open Go.RowKit Go.Joins Go.Sort Gk Rg

theorem getD_lex {l : List Pt} (h : l.Pairwise lex) {i j : Nat} (hij : i < j) (hj : j < l.length) : lex (l.getD i (0, 0)) (l.getD j (0, 0)) := by
  have := List.pairwise_iff_getElem.1 h i j (by omega) hj hij
  simpa [List.getD_eq_getElem?_getD, hj, (show i < l.length by omega)] using this

/-- the points at the sorted places -/
theorem places_sorted (l : List Pt) (N : Nat) (hl : l.length = N + 1) (hlex : l.Pairwise lex) (d d' : Array (Pl N)) (hd : d.toList.map (·.val) = List.range (N + 1)) (hp : PermIn 0 d.size d d') (hs : SortedIn (ltOf (cf l N)) 0 d.size d') :
    (d'.toList.map fun x => l.getD x.val (0, 0)).Perm l ∧ (d'.toList.map fun x => l.getD x.val (0, 0)).Pairwise plt := by
  obtain ⟨hsz, _, hperm⟩ := hp
  have e1 : (d'.extract 0 d.size).toList = d'.toList := by rw [← hsz]; simp
  have e2 : (d.extract 0 d.size).toList = d.toList := by simp
  rw [e1, e2] at hperm
  have hval : (d'.toList.map (·.val)).Perm (List.range (N + 1)) := hd ▸ hperm.map _
  constructor
  · have h1 : (d'.toList.map fun x => l.getD x.val (0, 0)) = (d'.toList.map (·.val)).map fun i => l.getD i (0, 0) := by simp
    rw [h1]
    refine (hval.map _).trans (List.Perm.of_eq ?_)
    refine List.ext_getElem (by simp [hl]) fun i h2 h3 => ?_
    simp [List.getD_eq_getElem?_getD, h3]
  · have hnd : (d'.toList.map (·.val)).Nodup := hval.nodup_iff.2 List.nodup_range
    rw [List.pairwise_iff_getElem]
    intro i j hi hj hij
    simp only [List.length_map, Array.length_toList] at hi hj
    have s1 := hs i j (Nat.zero_le _) hij (by omega)
    rw [getElem!_pos d' i (by omega), getElem!_pos d' j (by omega)] at s1
    have hne : d'[i].val ≠ d'[j].val := by
      have := List.pairwise_iff_getElem.1 hnd i j (by simpa using hi) (by simpa using hj) hij
      simpa using this
    simp only [List.getElem_map, Array.getElem_toList]
    have hno := mt cf_lt.2 (Bool.eq_false_iff.1 s1)
    have hx := d'[i].isLt
    have hy := d'[j].isLt
    by_cases hh : hp (l.getD d'[i].val (0, 0)) < hp (l.getD d'[j].val (0, 0))
    · exact Or.inl hh
    · refine Or.inr ⟨by omega, getD_lex hlex (by omega) (by omega)⟩

end Go.Proofs.YtcmdglmcmifflaaDoor.Rs
