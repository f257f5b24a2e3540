/- Walks over rlog: knows, termAt, Last, Base, Term, Behind, New. -/
import Derived.Test.YtmpahgklcabihaaGreatRlRep
namespace Go.Proofs.YtmpahgklcabihaaGreat.Rl
open Go.RowKit Go.Joins Gk

def Lo.last (S : Lo) : Nat := S.b + S.es.length
/-- the term at a number -/
def Lo.tm (S : Lo) (i : Nat) : Int := if i = S.b then S.bt else ((S.es[i - S.b - 1]?).map En.t).getD 0
abbrev ptr (b : Nat) : Value := .pointer (some ⟨b, 0, none⟩)

set_option maxRecDepth 100000 in
set_option maxHeartbeats 1000000 in
theorem knows_any (bl : Nat) (S : Lo) (v : Value) (i : Int) (w : World) (h : LH w bl S v) (hb : S.b + S.es.length ≤ 1048577) :
    Calls Tryz.prog 141 #[ptr bl, .int .i64 i] w fun e w' => e = .returned (.bool (decide ((S.b : Int) ≤ i ∧ i ≤ (S.last : Int)))) ∧ ∃ q, w' = w.drewN q := by
  obtain ⟨a, cap, rfl, _, h1, h2⟩ := h.row.slice
  have c0 := h.c0
  have c2 := h.c2
  have e1 : ((S.b : Int) + (S.es.length : Int)) = (S.last : Int) := by simp [Lo.last]
  have e2 : (S.last : Int) ≤ 1048577 := by rw [← e1]; omega
  have e3 : 0 ≤ (S.last : Int) := by omega
  generalize S.last = n at *
  generalize S.b = b at *
  clear h
  by_cases hi : (b : Int) ≤ i
  · have d1 : decide ((b : Int) ≤ i) = true := by simp [hi]
    have HD : Hid ((b : Int) ≤ i) := hi
    clear hi
    go_enter Tryz.func141, Tryz.ntmps141
    go_wp2
    go_quiet (fail)
    go_wp2
    go_ret
    refine ⟨?_, _, rfl⟩
    congr 2
    simp [HD.out]
  · have d1 : decide ((b : Int) ≤ i) = false := by simp [hi]
    have HD : Hid (¬ (b : Int) ≤ i) := hi
    clear hi
    go_enter Tryz.func141, Tryz.ntmps141
    go_wp2
    go_quiet (fail)
    go_wp2
    go_ret
    refine ⟨?_, _, rfl⟩
    congr 2
    have h9 := HD.out
    simp
    intro h8
    omega

set_option maxRecDepth 100000 in
set_option maxHeartbeats 1000000 in
theorem termAt_any (bl : Nat) (S : Lo) (v : Value) (i : Nat) (w : World) (h : LH w bl S v) (hb : S.b + S.es.length ≤ 1048577) (hi : S.b ≤ i) (hi2 : i ≤ S.last) :
    Calls Tryz.prog 125 #[ptr bl, .int .i64 i] w fun e w' => e = .returned (.int .i64 (S.tm i)) ∧ ∃ q, w' = w.drewN q := by
  have c0 := h.c0
  have c1 := h.c1
  have c2 := h.c2
  by_cases he : i = S.b
  · subst he
    have ht : S.tm S.b = S.bt := by rw [Lo.tm, if_pos rfl]
    rw [ht]
    go_enter Tryz.func125, Tryz.ntmps125
    go_wp2
    go_ret
    exact ⟨rfl, 0, rfl⟩
  · obtain ⟨k, hk⟩ : ∃ k, i = S.b + 1 + k := ⟨i - S.b - 1, by omega⟩
    have hkl : k < S.es.length := by unfold Lo.last at hi2; omega
    have ht : S.tm i = S.es[k].t := by rw [Lo.tm, if_neg he, show i - S.b - 1 = k by omega, List.getElem?_eq_getElem hkl]; rfl
    rw [ht]
    rcases h.row with ⟨_, h0⟩ | ⟨g, o, cap, cur, rfl, hg, h1, h2, h3, h4⟩
    · rw [h0] at hkl; simp at hkl
    have hc := h4 (k * 2 + 0) _ (rc_at eenc_len S.es k hkl 0 (by decide))
    have hcc : w.cell? ⟨g, o + k * 2, none⟩ = some (.int .i64 S.es[k].t) := by rw [cell_of_block hg]; exact hc
    have hne : ((i : Int) == (S.b : Int)) = false := by rw [beq_eq_false_iff_ne]; omega
    have i1 : (i : Int) - (S.b : Int) = (k : Int) + 1 := by omega
    have i2 : (k : Int) < (S.es.length : Int) := by omega
    have i3 : (0 : Int) ≤ (k : Int) := by omega
    have i4 : (k : Int) ≤ 1048577 := by omega
    have i5 : (k : Int) + 1 - 1 = (k : Int) := by omega
    generalize S.es[k].t = y at *
    clear hc h4 h3 h1 h2 hg ht hk hi hi2 he h
    go_enter Tryz.func125, Tryz.ntmps125
    go_wp2
    go_quiet (fail)
    go_wp2
    go_ret
    exact ⟨rfl, _, rfl⟩

theorem drewN2 (w : World) (q r : Nat) : ∃ k, (w.drewN q).drewN r = w.drewN k := ⟨q + r, World.drewN_drewN _ _ _⟩
theorem LH.drewN {w : World} {bl : Nat} {S : Lo} {v : Value} (h : LH w bl S v) (q : Nat) : LH (w.drewN q) bl S v := ⟨h.box, h.row.stay fun _ _ => rfl⟩
theorem Lo.le_last (S : Lo) : S.b ≤ S.last := Nat.le_add_right _ _

set_option maxRecDepth 100000 in
set_option maxHeartbeats 1000000 in
theorem Last_any (bl : Nat) (S : Lo) (v : Value) (w : World) (h : LH w bl S v) (hb : S.b + S.es.length ≤ 1048577) :
    Calls Tryz.prog 80 #[ptr bl] w fun e w' => e = .returned (.tuple #[.int .i64 S.last, .int .i64 (S.tm S.last)]) ∧ ∃ q, w' = w.drewN q := by
  have hT := fun q => termAt_any bl S v S.last (w.drewN q) (h.drewN q) hb S.le_last (Nat.le_refl _)
  obtain ⟨a, cap, rfl, _, h1, h2⟩ := h.row.slice
  have c0 := h.c0
  have c2 := h.c2
  have e1 : ((S.b : Int) + (S.es.length : Int)) = (S.last : Int) := by simp [Lo.last]
  have e2 : (S.last : Int) ≤ 1048577 := by rw [← e1]; omega
  have e3 : 0 ≤ (S.last : Int) := by omega
  generalize S.tm S.last = y at *
  generalize S.last = n at *
  generalize S.b = b at *
  clear h
  go_enter Tryz.func80, Tryz.ntmps80
  go_wp2
  go_quiet (fail)
  go_wp2_with (go_at_call 125; refine (hT _).mono ?_; rintro e w1 ⟨rfl, q1, rfl⟩)
  go_ret2
  exact ⟨rfl, _, rfl⟩

set_option maxRecDepth 100000 in
set_option maxHeartbeats 1000000 in
theorem Term_yes (bl : Nat) (S : Lo) (v : Value) (i : Nat) (w : World) (h : LH w bl S v) (hb : S.b + S.es.length ≤ 1048577) (hi : S.b ≤ i) (hi2 : i ≤ S.last) :
    Calls Tryz.prog 122 #[ptr bl, .int .i64 i] w fun e w' => e = .returned (.tuple #[.int .i64 (S.tm i), .int .i64 0]) ∧ ∃ q, w' = w.drewN q := by
  have hT := fun q => termAt_any bl S v i (w.drewN q) (h.drewN q) hb hi hi2
  have hK := knows_any bl S v i w h hb
  rw [show decide ((S.b : Int) ≤ (i : Int) ∧ (i : Int) ≤ (S.last : Int)) = true by rw [decide_eq_true_iff]; omega] at hK
  clear h
  go_enter Tryz.func122, Tryz.ntmps122
  go_wp2_with (first | (go_at_call 141; refine hK.mono ?_; rintro e w1 ⟨rfl, q1, rfl⟩) | (go_at_call 125; refine (hT _).mono ?_; rintro e w1 ⟨rfl, q2, rfl⟩))
  go_ret2
  exact ⟨rfl, _, rfl⟩
set_option maxRecDepth 100000 in
set_option maxHeartbeats 1000000 in
theorem Term_no (bl : Nat) (S : Lo) (v : Value) (i : Int) (w : World) (h : LH w bl S v) (hb : S.b + S.es.length ≤ 1048577) (hi : ¬ ((S.b : Int) ≤ i ∧ i ≤ (S.last : Int))) :
    Calls Tryz.prog 122 #[ptr bl, .int .i64 i] w fun e w' => e = .returned (.tuple #[.int .i64 0, .int .i64 140]) ∧ ∃ q, w' = w.drewN q := by
  have hK := knows_any bl S v i w h hb
  rw [show decide ((S.b : Int) ≤ (i : Int) ∧ (i : Int) ≤ (S.last : Int)) = false by rw [decide_eq_false_iff_not]; exact hi] at hK
  clear h hi
  go_enter Tryz.func122, Tryz.ntmps122
  go_wp2_with (go_at_call 141; refine hK.mono ?_; rintro e w1 ⟨rfl, q1, rfl⟩)
  go_ret2
  exact ⟨rfl, _, rfl⟩

def Lo.beh (S : Lo) (i t : Int) : Bool := decide (S.tm S.last < t ∨ t = S.tm S.last ∧ (S.last : Int) ≤ i)
set_option maxRecDepth 100000 in
set_option maxHeartbeats 1000000 in
theorem Behind_any (bl : Nat) (S : Lo) (v : Value) (i t : Int) (w : World) (h : LH w bl S v) (hb : S.b + S.es.length ≤ 1048577) :
    Calls Tryz.prog 287 #[ptr bl, .int .i64 i, .int .i64 t] w fun e w' => e = .returned (.bool (S.beh i t)) ∧ ∃ q, w' = w.drewN q := by
  have hL := Last_any bl S v w h hb
  have HB := hide (show S.beh i t = decide (S.tm S.last < t ∨ t = S.tm S.last ∧ (S.last : Int) ≤ i) from rfl)
  generalize S.beh i t = r at *
  generalize S.tm S.last = y at *
  generalize S.last = n at *
  clear h hb
  by_cases h1 : y < t
  · go_enter Tryz.func287, Tryz.ntmps287
    go_wp2_with (go_at_call 80; refine hL.mono ?_; rintro e w1 ⟨rfl, q1, rfl⟩)
    go_ret
    exact ⟨by rw [HB.out]; simp [h1], _, rfl⟩
  · by_cases h2 : t = y
    · have h2' : (t == y) = true := by simp [h2]
      have HE : Hid (t = y) := h2
      clear h2
      go_enter Tryz.func287, Tryz.ntmps287
      go_wp2_with (go_at_call 80; refine hL.mono ?_; rintro e w1 ⟨rfl, q1, rfl⟩)
      go_ret
      exact ⟨by rw [HB.out, HE.out]; simp, _, rfl⟩
    · have h2' : (t == y) = false := by simp [h2]
      go_enter Tryz.func287, Tryz.ntmps287
      go_wp2_with (go_at_call 80; refine hL.mono ?_; rintro e w1 ⟨rfl, q1, rfl⟩)
      go_ret
      exact ⟨by rw [HB.out]; simp [h2], _, rfl⟩

def Lo.new : Lo := ⟨0, 0, []⟩
set_option maxHeartbeats 1000000 in
theorem New_any (w : World) : Calls Tryz.prog 49 #[] w fun e w' => e = .returned (ptr w.heap.size) ∧ LH w' w.heap.size Lo.new (.slice none 0 0) ∧ w' = w.alloc (.cells #[.int .i64 0, .int .i64 0, .slice none 0 0] LogT) := by
  go_enter Tryz.func49, Tryz.ntmps49
  go_wp2
  go_ret
  exact ⟨rfl, ⟨heap_alloc_new w _, ER.nil _⟩, rfl⟩

end Go.Proofs.YtmpahgklcabihaaGreat.Rl
