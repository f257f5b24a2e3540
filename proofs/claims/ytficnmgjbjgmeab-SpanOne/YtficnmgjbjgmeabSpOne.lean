/- SpanOne: the span from a key to the key with a byte 0 behind it has the key, and no other text. Proved: for every two texts, no condition. -/
import Derived.Test.YtficnmgjbjgmeabSpSame
import Derived.Test.YtficnmgjbjgmeabGArgs
namespace Go.Proofs.Ytficnmgjbjgmeab.Sp
open Go.RowKit Go.Joins Gk

theorem bytes_one : ∀ (o k : List UInt8), (!bytesBefore o k && bytesBefore o (k ++ [0])) = decide (o = k)
  | [], [] => rfl
  | [], b :: t => rfl
  | a :: r, [] => by
    have : ¬ a < 0 := by simp
    cases r <;> simp [bytesBefore, this]
  | a :: r, b :: t => by
    simp only [bytesBefore, List.cons_append]
    have ih := bytes_one r t
    by_cases h1 : a < b
    · have : a ≠ b := fun e => by subst e; exact absurd h1 (by simp)
      simp [h1, this]
    · by_cases h2 : a = b
      · subst h2
        simp only [h1, decide_false, Bool.false_or, beq_self_eq_true, Bool.true_and, List.cons.injEq, true_and]
        exact ih
      · simp [h1, h2]
theorem has_one {key k' other : ByteArray} (hk : k'.data.toList = key.data.toList ++ [0]) : hasL [⟨key, k'⟩] other = decide (other = key) := by
  have hne : k' ≠ nix := fun e => by rw [e] at hk; simp at hk
  have h := bytes_one other.data.toList key.data.toList
  rw [← hk] at h
  have e : decide (other.data.toList = key.data.toList) = decide (other = key) := by
    rw [Bool.eq_iff_iff, decide_eq_true_eq, decide_eq_true_eq]
    exact ⟨fun h => ba_ext h, fun h => by rw [h]⟩
  rw [e] at h
  rw [← h]
  simp [hasL, Sp.has, hne, B4]
theorem chk_one {key k' : ByteArray} (hk : k'.data.toList = key.data.toList ++ [0]) : chk ⟨key, k'⟩ = if key.size < 64 then 0 else 50 := by
  have hs : k'.size = key.size + 1 := by rw [Lib.size_eq, hk, Lib.size_eq]; simp
  have hb : B4 key k' = true := by
    have h := bytes_one key.data.toList key.data.toList
    rw [← hk] at h
    simp only [WideAt.bytes_irrefl, Bool.not_false, Bool.true_and, decide_true] at h
    exact h
  unfold chk may
  simp only [hs, hb, Bool.or_true, Bool.and_true]
  by_cases h : key.size < 64
  · rw [if_pos h, if_pos (by simp; omega)]
  · rw [if_neg h, if_neg (by simp; omega)]

set_option maxHeartbeats 3200000 in
set_option maxRecDepth 100000 in
theorem one_law (key other : ByteArray) (w : World) (hs : key.size ≤ 140737488351232) (_ : other.size ≤ 140737488351232) :
    Calls Try.prog 3 #[.string key, .string other] w fun e w' => e = .returned (.bool true) ∧ Below w.heap.size w w' := by
  go_enter Try.func3, Try.ntmps3
  go_wp2_with fail
  refine (works_any w).mono ?_
  rintro e w1 ⟨rfl, hb1⟩
  obtain ⟨k', hk'⟩ : ∃ k' : ByteArray, k' = key ++ ⟨#[0]⟩ := ⟨_, rfl⟩
  have hk : k'.data.toList = key.data.toList ++ [0] := by rw [hk', ByteArray.data_append]; simp
  have hA := heap_alloc_new w1 (.cells #[.string key, .string k'] SpT)
  have hbA := below_alloc1 w1 (.cells #[.string key, .string k'] SpT)
  obtain ⟨w2, hw2⟩ : ∃ w2, w2 = w1.alloc (.cells #[.string key, .string k'] SpT) := ⟨_, rfl⟩
  rw [← hw2] at hA hbA
  have hB2 : Below w.heap.size w w2 := hb1.trans (hbA.mono hb1.size)
  have hlt : w1.heap.size < w2.heap.size := (Array.getElem?_eq_some_iff.1 hA).1
  have P1 := has_any key (some ⟨w1.heap.size, 0, none⟩) 1 [⟨key, k'⟩] w2 (lies_blk hA rfl) (by simp)
  have P2 := fun W (h : Below w2.heap.size w2 W) => has_any other (some ⟨w1.heap.size, 0, none⟩) 1 [⟨key, k'⟩] W (lies_blk ((h.block _ hlt).trans hA) rfl) (by simp)
  have P3 := fun W => check_any ⟨key, k'⟩ W
  rw [has_one hk] at P1 P2
  rw [chk_one hk] at P3
  simp only [decide_true] at P1
  have HC : ∀ W, Below w2.heap.size w2 W → W.cell? ⟨w1.heap.size, 0, none⟩ = some (.string key) ∧ W.cell? ⟨w1.heap.size, 1, none⟩ = some (.string k') := fun W h => by
    have hh := (h.block _ hlt).trans hA
    exact ⟨by rw [cell_of_block hh]; rfl, by rw [cell_of_block hh]; rfl⟩
  have HW := hide hw2
  have HK := hide hk'
  clear hw2 hk' hk hbA hA
  go_wp2_with fail
  rw [← HK.out, show (24 : Nat) = SpT from rfl, ← HW.out]
  refine P1.mono ?_
  rintro e w3 ⟨rfl, hb3⟩
  clear P1 HW
  have hcs : (key.size < 64 ∧ (key.size : Int) < 64) ∨ (¬ key.size < 64 ∧ ¬ (key.size : Int) < 64) := by omega
  by_cases he : other = key
  · subst he
    simp only [decide_true] at P2
    rcases hcs with ⟨h1, h2⟩ | ⟨h1, h2⟩
    all_goals
      first
        | rw [if_pos h1] at P3
        | rw [if_neg h1] at P3
      go_wp2_with fail
      refine (P2 _ hb3).mono ?_
      rintro e w4 ⟨rfl, hb4⟩
      have hb4' := hb3.trans (hb4.mono hb3.size)
      obtain ⟨k0, k1⟩ := HC _ hb4'
      clear P2 HC
      go_wp2_with fail
      refine (P3 _).mono ?_
      rintro e w5 ⟨rfl, hb5⟩
      have hfin := hB2.trans ((hb4'.trans (hb5.mono hb4'.size)).mono hB2.size)
      clear P3 hb5 hb4 hb3 hb4'
      go_wp2
      go_ret
      refine ⟨?_, hfin⟩
      first
        | rfl
        | (show Ending.returned (.bool (!decide _)) = _; rw [decide_eq_false (by omega)]; rfl)
  · rw [decide_eq_false he] at P2
    have he1 : ¬ other.toList = key.toList := fun e => he (ba_ext (by rw [← Lib.toList_data, ← Lib.toList_data]; exact e))
    have he2 : (other.toList == key.toList) = false := by simpa using he1
    rcases hcs with ⟨h1, h2⟩ | ⟨h1, h2⟩
    all_goals
      first
        | rw [if_pos h1] at P3
        | rw [if_neg h1] at P3
      go_wp2_with fail
      refine (P2 _ hb3).mono ?_
      rintro e w4 ⟨rfl, hb4⟩
      have hb4' := hb3.trans (hb4.mono hb3.size)
      obtain ⟨k0, k1⟩ := HC _ hb4'
      clear P2 HC
      go_wp2_with fail
      refine (P3 _).mono ?_
      rintro e w5 ⟨rfl, hb5⟩
      have hfin := hB2.trans ((hb4'.trans (hb5.mono hb4'.size)).mono hB2.size)
      clear P3 hb5 hb4 hb3 hb4'
      go_wp2
      go_ret
      refine ⟨?_, hfin⟩
      first
        | rfl
        | (show Ending.returned (.bool (!decide _)) = _; rw [decide_eq_false (by omega)]; rfl)

end Go.Proofs.Ytficnmgjbjgmeab.Sp
