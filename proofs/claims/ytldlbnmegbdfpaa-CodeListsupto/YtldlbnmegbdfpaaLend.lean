/- Walks over the book and the laws' own: LendFields, KeptFields, names. -/
import Derived.Test.YtldlbnmegbdfpaaJoins
namespace Go.Proofs.Ytldlbnmegbdfpaa
open Go.RowKit

/-- the mark behind a list that is lent -/
def mark : Fld := ⟨false, -77, ⟨#[]⟩⟩

theorem own_some {w : World} {B e size n : Nat} {v : Value} {l : List Value} (h : w.ownsRow B e size v (n + 1) l) : ∃ g cap, v = .slice (some ⟨g, 0, none⟩) (n + 1) cap ∧ n + 1 ≤ cap := by
  rcases h.2 with ⟨_, h0⟩ | ⟨g, cap, cur, rfl, _, _, rest⟩
  · omega
  · exact ⟨g, cap, rfl, by omega⟩

theorem Lies.front {w : World} {a : Option Addr} {l r : List Fld} (h : Lies w a (l ++ r)) : Lies w a l := by
  rcases h with h | ⟨b, off, rfl, hlt, hl⟩
  · exact Or.inl (List.append_eq_nil_iff.1 h).1
  · refine Or.inr ⟨b, off, rfl, hlt, fun i hi => ?_⟩
    have := hl i (by rw [List.length_append]; omega)
    rw [List.getElem_append_left hi] at this
    exact this
theorem Lies.mark_at {w : World} {g : Nat} {l : List Fld} (h : Lies w (some ⟨g, 0, none⟩) (l ++ [mark])) : w.cell? ⟨g, l.length * 3 + 1, none⟩ = some (.int .i64 (-77)) := by
  obtain ⟨b, off, e, c0, c1, c2⟩ := h.here l.length (by simp)
  cases e
  rw [List.getElem_append_right (Nat.le_refl _)] at c1
  simpa [mark] using c1

set_option maxHeartbeats 1600000 in
theorem lend_any (a : Option Addr) (cap : Nat) (fs : List Fld) (w : World) (hl : Lies w a fs) (hnil : a = none → cap = 0) (hk : fs.length * 32 ≤ 140737488351232) :
    Calls Try.prog 9 #[.slice a fs.length cap] w fun e w' => ∃ g c, e = .returned (.slice (some ⟨g, 0, none⟩) fs.length c) ∧ fs.length < c ∧ Lies w' (some ⟨g, 0, none⟩) (fs ++ [mark]) ∧ Below w.heap.size w w' := by
  go_enter Try.func9, Try.ntmps9
  have hown0 : (w.alloc (.cells #[] 45)).ownsRow w.heap.size 45 3 (.slice (some ⟨w.heap.size, 0, none⟩) 0 0) ([] : List Fld).length (fcells []) := World.ownsRow_made w #[] 0 (Nat.le_refl _) (Nat.zero_le _) rfl
  have hl0 := hl.later ((Below.refl w.heap.size w).alloc (Nat.le_refl _) (.cells #[] 45))
  go_wp2_with (at_builtin; refine wpList_append_fields rfl (.tmp 4) (.tmp 5) rfl w.heap.size _ [] rfl hown0 _ fs _ rfl hl0 hnil ?c4 ?c5 ?_)
  case c4 => simp; omega
  case c5 => simp
  intro v4 w4 hown4 hg4
  have hb4 : Below w.heap.size w w4 := ((Below.refl _ _).alloc (Nat.le_refl _) _).grown hg4 (by simp) (fun k hk => (hown0.lt k hk).1)
  have hz4 := hb4.size
  clear hown0 hg4 hl0
  have hown4' : w4.ownsRow w.heap.size 45 3 v4 fs.length (fcells fs) := hown4
  clear hown4
  obtain ⟨i0, hi, hz0, hz1, hz2⟩ := info_parts field_info
  go_wp2_with (at_builtin; refine wpList_append_own _ rfl (.tmp 7) (.tmp 9) 22 rfl w.heap.size 45 i0 (.agg #[.bool false, .int .i64 0, .string ⟨#[]⟩]) 3 32 Try.underlying22 hi hz0 hz1 hz2 rfl (by decide) _ _ _ rfl (hown4'.alloc _) ⟨w4.heap.size, 0, none⟩ 1 1 [.bool mark.text, .int .i64 mark.n, .string mark.s] rfl rfl ?d1 ?d2 ?d3 ?d4 ?d5 ?_)
  case d1 => exact three_new w4 (.bool mark.text) (.int .i64 mark.n) (.string mark.s) 45
  case d2 => intro u hu; simp at hu; rcases hu with rfl | rfl | rfl <;> rfl
  case d3 => unfold maxLen; omega
  case d4 => omega
  case d5 => simp; omega
  intro v5 w5 hown5 hg5 _
  have hb5 : Below w.heap.size w w5 := (hb4.alloc hz4 _).grown hg5 (by simp; omega) (fun k hk => (hown4'.lt k hk).1)
  have hown6 := own_field hown5
  clear hown4' hg5 hb4
  obtain ⟨g, c, rfl, hc⟩ := own_some hown5
  clear hown5
  obtain ⟨g', c', e, hl6⟩ := own_lies hown6
  clear hown6
  rw [List.length_append] at e
  cases e
  go_wp2
  go_ret
  exact ⟨g, c, rfl, by omega, hl6, hb5⟩

set_option maxHeartbeats 1600000 in
theorem kept_any (g c : Nat) (a : Option Addr) (cap : Nat) (fs : List Fld) (w : World) (hl : Lies w (some ⟨g, 0, none⟩) (fs ++ [mark])) (hc : fs.length < c) (hla : Lies w a fs) (hk : fs.length * 32 ≤ 140737488351232) :
    Calls Try.prog 16 #[.slice (some ⟨g, 0, none⟩) fs.length c, .slice a fs.length cap] w fun e w' => e = .returned (.bool true) ∧ Below w.heap.size w w' := by
  go_enter Try.func16, Try.ntmps16
  go_wp2_with fail
  refine (same_any _ a c cap fs w hl.front hla (by omega)).mono ?_
  rintro e w1 ⟨rfl, hb1⟩
  have hm := (hl.later hb1).mark_at
  have i1 : (0 : Int) ≤ (fs.length : Int) := by omega
  have i2 : (fs.length : Int) < (fs.length : Int) + 1 := by omega
  clear hl hla
  go_wp2
  go_ret
  exact ⟨rfl, hb1⟩

set_option maxHeartbeats 400000 in
theorem names_any (w : World) :
    Calls Try.prog 14 #[] w fun e w' => e = .returned (.bool true) ∧ w' = w := by
  go_enter Try.func14, Try.ntmps14
  go_wp2
  go_ret
  exact ⟨rfl, rfl⟩

end Go.Proofs.Ytldlbnmegbdfpaa
