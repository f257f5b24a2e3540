/- Walks over skylarkref02: Named, place. -/
import Derived.Test.YtokcknfbanpjjaaERep
import Derived.Lib.Strings
namespace Go.Proofs.Ytokcknfbanpjjaa.Dk
open Go.RowKit Go.Maps Go.Joins

theorem less_list : ∀ (a b : List UInt8), Op.bytesLess a b = bytesBefore a b
  | [], [] => rfl
  | [], _ :: _ => rfl
  | _ :: _, [] => rfl
  | x :: r, y :: t => by
    simp only [Op.bytesLess, bytesBefore, less_list r t]
theorem less_before (a b : ByteArray) : Op.bytesLess a.toList b.toList = bytesBefore a.data.toList b.data.toList := by rw [less_list, Lib.toList_data, Lib.toList_data]

set_option maxHeartbeats 1600000 in
theorem place_any {own : Nat → Prop} {br room : Nat} {l : Fls} {v : Value} {fused : Bool} {left : Int} {down : Bool} (w : World) (h : RHeldL w own br room l v fused left down) (hl : l.length ≤ 64) (hr : Rising l) (s : ByteArray) :
    Calls Try.prog 36 #[.pointer (some ⟨br, 0, none⟩), .string s] w fun e w' => e = .returned (.tuple #[.int .i64 (posL s.data.toList l : Nat), .bool (getL s.data.toList l).isSome]) ∧ Below w.heap.size w w' := by
  have c1 := h.c1
  obtain ⟨av, cv, rfl⟩ := own_slice h.row
  have hple := posL_le s.data.toList l
  have HA : ∀ k (hk : k < l.length), k < posL s.data.toList l → Op.bytesLess (txt l[k].1).toList s.toList = true := fun k hk hkp => by
    rw [less_before, txt_list]
    exact posL_ahead _ (List.mem_take_iff_getElem.2 ⟨k, by omega, rfl⟩)
  have HB : ∀ k (hk : k < l.length), k = posL s.data.toList l → Op.bytesLess (txt l[k].1).toList s.toList = false ∧ ((txt l[k].1).toList == s.toList) = (getL s.data.toList l).isSome := fun k hk e => by
    subst e
    refine ⟨by rw [less_before, txt_list]; exact posL_at hk, ?_⟩
    rw [Lib.toList_data, Lib.toList_data, txt_list]
    rcases posL_get (k := s.data.toList) hr with ⟨_, h1, h2⟩ | ⟨h1, h2⟩
    · rw [h2, h1]; simp
    · rw [h1, beq_eq_false_iff_ne.2 (getL_none h1 _ (List.getElem_mem hk))]; rfl
  have HC : ¬ posL s.data.toList l < l.length → (getL s.data.toList l).isSome = false := fun hn => by
    rcases posL_get (k := s.data.toList) hr with ⟨h0, _⟩ | ⟨h1, _⟩
    · exact absurd h0 hn
    · rw [h1]; rfl
  generalize (getL s.data.toList l).isSome = bb at *
  generalize posL s.data.toList l = p at *
  go_enter Try.func36, Try.ntmps36
  go_wp2
  go_loopw [6] (fun i wr => ∃ k : Nat, k ≤ p ∧ i = .int .i64 k ∧ wr = w) (fun i _ => l.length - (intOf i).toNat)
  case atStart => exact ⟨0, by omega, rfl, rfl⟩
  case round =>
    obtain ⟨k, hk, rfl, rfl⟩ := hrel
    have i1 : (0 : Int) ≤ (k : Int) := by omega
    by_cases hlt : k < l.length
    · obtain ⟨g, cap', e, d0, d1, d2⟩ := h.at k hlt
      cases e
      have i2 : (k : Int) < (l.length : Int) := by omega
      by_cases hkp : k < p
      · have hless := HA k hlt hkp
        generalize txt l[k].1 = nm at *
        clear HA HB HC
        go_wp2
        go_roundw
        case rel => exact ⟨k + 1, by omega, by go_num, trivial⟩
        case measure => simp [intOf]; omega
      · obtain rfl : k = p := by omega
        obtain ⟨hless, heq⟩ := HB k hlt rfl
        generalize txt l[k].1 = nm at *
        clear HA HB HC
        go_wp2
        go_quiet (fail)
        go_wp2
        go_ret2
        exact ⟨rfl, below_draws _ _ _⟩
    · have i2 : (l.length : Int) ≤ (k : Int) := by omega
      obtain rfl : k = p := by omega
      have hno := HC hlt
      subst hno
      have hdec : decide ((k : Int) < (l.length : Int)) = false := by simp; omega
      clear HA HB HC
      go_wp2
      go_quiet (fail)
      go_wp2
      go_ret2
      exact ⟨rfl, below_draws _ _ _⟩

end Go.Proofs.Ytokcknfbanpjjaa.Dk
