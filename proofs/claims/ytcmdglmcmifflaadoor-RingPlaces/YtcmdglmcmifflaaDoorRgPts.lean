/- Walks over ring.go: Points; what RingPlaces counts. -/
import Derived.Test.YtcmdglmcmifflaaDoorRgMov
import Derived.Test.YtcmdglmcmifflaaDoorRgPtY
namespace Go.Proofs.YtcmdglmcmifflaaDoor.Rg
open Go.RowKit Go.Joins Gk

/-! ### counts -/
def cnt (c : Nat) (l : List Pt) : Nat := l.countP (fun p => p.1 == c)
theorem cnt_perm {c : Nat} {l m : List Pt} (h : l.Perm m) : cnt c l = cnt c m := h.countP_eq _
theorem cnt_ptsC (c d n : Nat) : cnt c (ptsC d n) = if d = c then n else 0 := by
  rw [cnt, ptsC, List.countP_map]
  by_cases e : d = c
  · rw [if_pos e]; subst e
    have : (List.range n).countP ((fun p : Pt => p.1 == d) ∘ fun i => (d, i)) = (List.range n).length := List.countP_eq_length.2 (fun _ _ => by simp)
    rw [this, List.length_range]
  · rw [if_neg e]
    exact List.countP_eq_zero.2 (fun _ _ => by simp [e])
theorem cnt_ptsN (ws : List Int) (c n : Nat) : cnt c (ptsN ws n) = if c < n then (ws.getD c 0).toNat else 0 := by
  induction n with
  | zero => simp [ptsN, cnt]
  | succ n ih =>
    rw [ptsN, cnt, List.countP_append, ← cnt, ← cnt, ih, cnt_ptsC]
    by_cases e : n = c
    · subst e; simp
    · by_cases h : c < n
      · rw [if_pos h, if_neg e, if_pos (by omega)]; omega
      · rw [if_neg h, if_neg e, if_neg (by omega)]
theorem cnt_srt {ws : List Int} {l : List Pt} (h : Srt ws l) {c : Nat} (hc : c < ws.length) (h0 : 0 ≤ ws[c]) : ((cnt c l : Nat) : Int) = ws[c] := by
  rw [cnt_perm h.perm, pts, cnt_ptsN, if_pos hc]
  simp [List.getD_eq_getElem?_getD, hc]; omega
/-- how many of each chain have come -/
def cnts (n : Nat) (l : List Pt) : List Int := (List.range n).map fun c => ((cnt c l : Nat) : Int)
theorem cnts_len (n : Nat) (l : List Pt) : (cnts n l).length = n := by simp [cnts]
theorem cnts_at (n : Nat) (l : List Pt) (c : Nat) (hc : c < (cnts n l).length) : (cnts n l)[c] = ((cnt c l : Nat) : Int) := by simp [cnts]
theorem cnts_nil (n : Nat) : cnts n [] = List.replicate n 0 := by
  apply List.ext_getElem
  · simp [cnts]
  · intro i h1 h2; simp [cnts, cnt]
theorem cnts_snoc (n : Nat) (l : List Pt) (p : Pt) : cnts n (l ++ [p]) = (cnts n l).set p.1 (((cnt p.1 l : Nat) : Int) + 1) := by
  apply List.ext_getElem
  · simp [cnts]
  · intro i h1 h2
    rw [cnts_at, List.getElem_set, cnt, List.countP_append]
    by_cases e : p.1 = i
    · rw [if_pos e]; subst e; simp [cnt]
    · rw [if_neg e, cnts_at]; simp [e, cnt]

end Go.Proofs.YtcmdglmcmifflaaDoor.Rg
