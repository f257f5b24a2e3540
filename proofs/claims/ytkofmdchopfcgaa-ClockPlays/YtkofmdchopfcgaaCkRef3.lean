/- Walks over skylarkref04: New, Fork. -/
import Derived.Test.YtkofmdchopfcgaaCkRef2
import Derived.Test.YtkofmdchopfcgaaGStep
namespace Go.Proofs.Ytkofmdchopfcgaa.Ck
open Go.RowKit Go.Joins Gk
attribute [local go_sem ↓] Go.wp_at_zero Go.wp_at_succ

set_option maxHeartbeats 800000 in
theorem rnew_ok (n : Nat) (seed : Int) (w : World) (h1 : 1 ≤ n) (h2 : n ≤ 16) (hs : 0 ≤ seed ∧ seed < 18446744073709551616) :
    Calls Try.prog 8 #[.int .i64 (n : Int), .int .u64 seed] w fun e w' => ∃ bc g, e = .returned (.tuple #[.pointer (some ⟨bc, 0, none⟩), .int .i64 0]) ∧ w.heap.size ≤ bc ∧ w.heap.size ≤ g ∧ CHeld w' RClkT bc g (Cst.new n seed) ∧ Below w.heap.size w w' := by
  have h1' : (1 : Int) ≤ (n : Int) := by omega
  have h2' : (n : Int) ≤ 16 := by omega
  obtain ⟨s1, s2⟩ := hs
  obtain ⟨M, hM, hmk⟩ := make_ints n h2
  have HM := hide hM
  clear hM
  go_enter Try.func8, Try.ntmps8
  go_wp2
  go_ret2
  have hl : (Cst.new n seed).ts.length = n := by simp [Cst.new]
  have ho1 := own_zeros (B := w.heap.size) (heap_alloc_new w (.cells M IntT)) HM.out h2 (Nat.le_refl _)
  obtain ⟨g', hg1, hg2, hh⟩ := held_fork (S := Cst.new n seed) (T := RClkT) (by rw [hl]; exact ho1) (by rw [hl]; exact h1)
  have hb1 := below_alloc1 w (.cells M IntT)
  have hsz : (w.alloc (.cells M IntT)).heap.size = w.heap.size + 1 := by simp
  rw [hsz] at hh
  exact ⟨_, g', rfl, by simp, hg1, hh, hb1.alloc hb1.size _⟩

set_option maxHeartbeats 400000 in
theorem rnew_bad (n : Int) (seed : Int) (w : World) (h : n < 1 ∨ 16 < n) :
    Calls Try.prog 8 #[.int .i64 n, .int .u64 seed] w fun e w' => e = .returned (.tuple #[.pointer none, .int .i64 1]) ∧ w' = w := by
  by_cases h1 : n < 1
  · go_enter Try.func8, Try.ntmps8
    go_wp2
    go_ret2
    exact ⟨rfl, rfl⟩
  · have h2 : 16 < n := by omega
    go_enter Try.func8, Try.ntmps8
    go_wp2
    go_ret2
    exact ⟨rfl, rfl⟩

set_option maxHeartbeats 1600000 in
theorem rfork_any {bc g : Nat} {S : Cst} (w : World) (h : CHeld w RClkT bc g S) (hok : S.Ok) :
    Calls Try.prog 19 #[.pointer (some ⟨bc, 0, none⟩)] w fun e w' => ∃ bc' g', e = .returned (.pointer (some ⟨bc', 0, none⟩)) ∧ w.heap.size ≤ bc' ∧ w.heap.size ≤ g' ∧ CHeld w' RClkT bc' g' S ∧ Below w.heap.size w w' := by
  obtain ⟨cap, h⟩ := h
  have c0 := h.c0
  have c1 := h.c1
  have hlt := h.lt
  have hn := hok.n1
  have hn2 := hok.n2
  have hne : bc ≠ w.heap.size := by omega
  have HH := hide h
  have HB1 := hide (show Below w.heap.size w (w.drew.alloc (.cells #[] IntT)) from (Below.refl _ _).drew.alloc (Nat.le_refl _) _)
  have HM1 := hide (show Row (w.drew.alloc (.cells #[] IntT)) ienc IntT 1 (.slice (some ⟨w.heap.size, 0, none⟩) 0 0) [] from own_mono (World.ownsRow_made (base := 0) (e := IntT) (size := 1) w.drew #[] 0 (Nat.zero_le _) (Nat.zero_le _) rfl) (Nat.zero_le _))
  clear h
  go_enter Try.func19, Try.ntmps19
  go_wp2_with fail
  go_region_law (first
    | (refine step_fill (enc := ienc) (k := 1) (by rfl) (.tmp 3) (.tmp 7) 43 (by rfl) IntT (.int .i64 0) 8 Try.underlying43 int_info rfl (by decide) ienc_len ienc_one (.slice (some ⟨w.heap.size, 0, none⟩) 0 0) (by rfl) HM1.out (some ⟨g, 0, none⟩) S.ts S.ts.length cap (by rfl) rfl ((HH.out.below HB1.out).row.lies) (fun e => by cases e) (by omega) (by omega) ?_; intro ad3 cap3 w3 hrow3 hg3 hat3; have hb3 : Below w.heap.size w w3 := HB1.out.grown hg3 HB1.out.size (fun k hk => by simp [Value.ownBlock] at hk; omega); have k1 := (HH.out.below hb3).c1; have hz3 := hb3.size; have hup3 : ∀ g', (Value.slice ad3 S.ts.length cap3).ownBlock = some g' → w.heap.size ≤ g' := fun g' hg' => (hat3 g' hg').elim (fun h => by simp [Value.ownBlock] at h; omega) (fun h => by simp at h; omega)))
  all_goals
    go_wp2
    go_ret
    obtain ⟨g', hg1, hg2, hh⟩ := held_fork (B := 0) (S := S) (T := RClkT) hrow3 hn
    obtain ⟨g3, c3, cur3, e3, _⟩ := own_form hrow3 (by omega)
    cases e3
    have hgg : g' = g3 := by
      obtain ⟨c', hh'⟩ := hh
      have h1 := hh'.block
      rw [heap_alloc_new] at h1
      simp only [Option.some.injEq, Obj.cells.injEq, and_true] at h1
      have h2 := congrArg (fun a : Array Value => a[0]?) h1
      simp at h2
      exact h2.1.symm
    exact ⟨_, g', rfl, hz3, by rw [hgg]; exact hup3 g3 rfl, hh, hb3.alloc hz3 _⟩

end Go.Proofs.Ytkofmdchopfcgaa.Ck
