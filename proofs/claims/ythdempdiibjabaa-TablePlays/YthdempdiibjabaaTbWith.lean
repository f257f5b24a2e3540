/- Layer 9: walks over rows.go: with. -/
import Derived.Test.YthdempdiibjabaaTbCpy
import Derived.Test.YthdempdiibjabaaGFull
namespace Go.Proofs.Ythdempdiibjabaa.Tb
open Go.RowKit Go.Joins Go.Proofs.Ythdempdiibjabaa.Gk Go.Proofs.Ythdempdiibjabaa.Oq Go.Proofs.Ythdempdiibjabaa.Sp

set_option maxRecDepth 100000 in
set_option maxHeartbeats 1600000 in
theorem with_any (a : Option Addr) (cap : Nat) (l : List Rw) (i j : Nat) (hij : i ≤ j) (hj : j ≤ l.length) (x : Rw) (w : World) (hl : RL w a cap l) (hlen : l.length ≤ 1000000) :
    Calls Try.prog 69 #[.slice a l.length cap, .int .i64 (i : Nat), .int .i64 (j : Nat), x.v] w fun e w' => ∃ a' cap' L, e = .returned (.slice a' L.length cap') ∧ L = l.take i ++ x :: l.drop j ∧ w'.ownsRow w.heap.size RowT 3 (.slice a' L.length cap') L.length (rc rwenc L) ∧ Below w.heap.size w w' := by
  obtain ⟨key, stamp, val⟩ := x
  have hg0 := heap_alloc_new w (.cells #[.string key, .int .i64 stamp, .string val] RowT)
  have hb0 := below_a1 w (.cells #[.string key, .int .i64 stamp, .string val] RowT)
  obtain ⟨W, hW⟩ : ∃ W, W = w.alloc (.cells #[.string key, .int .i64 stamp, .string val] RowT) := ⟨_, rfl⟩
  rw [← hW] at hg0 hb0
  have hl1 := hl.below hb0
  have hzW : W.heap.size = w.heap.size + 1 := by rw [hW]; simp
  have hlow : (l.take i).length = i := by rw [List.length_take]; omega
  have hlen2 : (l.drop j).length = l.length - j := List.length_drop
  have c0 := cellB hg0 0 rfl
  have c1 := cellB hg0 1 rfl
  have c2 := cellB hg0 2 rfl
  have hnew : ∀ o : Obj, (W.alloc o).drew.heap[w.heap.size + 1]? = some o := fun o => by rw [← hzW]; exact heap_alloc_new W o
  have hbn : ∀ o : Obj, Below W.heap.size W (W.alloc o).drew := fun o => ((below_a1 W o).drew)
  have hz2 : ∀ o : Obj, (W.alloc o).drew.heap.size = w.heap.size + 2 := fun o => by show (W.alloc o).heap.size = _; simp [hzW]
  have HB := hide hb0
  rcases hl1 with ⟨rfl, rfl, rfl⟩ | ⟨g, off, cur, rfl, hg, hsz, hroom, hmax, hc⟩
  · simp only [List.length_nil, Nat.le_zero] at hj
    subst hj
    obtain rfl : i = 0 := by omega
    clear hlow hlen2 hg0 hb0 hij
    go_enter Try.func69, Try.ntmps69
    go_wp2_with fail
    rw [← hW]
    clear hW
    go_region_law (first
      | (refine step_push_full (enc := rwenc) (k := 3) (by rfl) (.tmp 12) (.tmp 14) RowsT (by rfl) RowT noRw 40 Try.underlying26 row_info rfl rwenc_len Option.none ([] : List Rw) 0 0 (by rfl) rfl rfl (Or.inl rfl) (w.heap.size + 1) ⟨key, stamp, val⟩ (by rfl) (hnew _) (by simp) (by simp) w.heap.size (by rw [hz2]; omega) ?_; intro ad3 cap3 w3 hown3 hb3; simp only [List.length_nil, Nat.zero_add, List.nil_append] at hown3 ⊢)
      | (refine step_append_at (enc := rwenc) (k := 3) (by rfl) (.tmp 15) (.tmp 18) RowsT (by rfl) RowT noRw 40 Try.underlying26 row_info rfl (by decide) rwenc_len rwenc_one w.heap.size _ [⟨key, stamp, val⟩] (by rfl) hown3 Option.none ([] : List Rw) 0 0 (by rfl) rfl (Or.inl rfl) (fun _ => rfl) (by simp) (by simp) ?z0 ?_; (case z0 => have h1 := hb3.size; have h2 := hz2 (.cells #[.string key, .int .i64 stamp, .string val] 53); omega); intro ad4 cap4 w4 hown4 hg4; simp only [List.length_nil, Nat.add_zero, List.append_nil, List.length_cons, Nat.zero_add] at hown4 ⊢))
    have hbel : Below w.heap.size w w4 := by
      have h3 : Below w.heap.size w w3 := (HB.out.trans ((hbn _).mono HB.out.size)).trans (hb3.mono (by have h2 := hz2 (.cells #[.string key, .int .i64 stamp, .string val] 53); omega))
      exact h3.grown hg4 h3.size (fun k hk => (hown3.lt k hk).1)
    go_wp2
    go_ret
    exact ⟨ad4, cap4, [⟨key, stamp, val⟩], rfl, by simp, hown4, hbel⟩
  · have hL1 : RL W (some ⟨g, off, none⟩) cap l := Or.inr ⟨g, off, cur, rfl, hg, hsz, hroom, hmax, hc⟩
    have hA : RL W (some ⟨g, off, none⟩) i (l.take i) := by
      have := hL1.part 0 i i (Nat.zero_le _) (by omega) (Nat.le_refl _) (by omega)
      simpa using this
    have hD : Lies W rwenc (if cap = j then some ⟨g, off, none⟩ else some ⟨g, off + j * 3, none⟩) (l.drop j) := by
      by_cases e : cap = j
      · exact Or.inl (List.drop_of_length_le (by omega))
      · rw [if_neg e]
        have := hL1.part j l.length cap (by omega) (Nat.le_refl _) hroom (Nat.le_refl _)
        rw [List.take_length] at this
        exact this.lies
    have hDn : (if cap = j then some (⟨g, off, none⟩ : Addr) else some ⟨g, off + j * 3, none⟩) = none → cap - j = 0 := by
      intro e; split at e <;> cases e
    have i1 : (0 : Int) ≤ (i : Int) := by omega
    have i2 : (i : Int) ≤ (cap : Int) := by omega
    have i3 : (0 : Int) ≤ (j : Int) := by omega
    have i4 : (j : Int) ≤ (l.length : Int) := by omega
    have i5 : (l.length : Int) ≤ (cap : Int) := by omega
    have HA := hide hA
    have HD := hide hD
    have HN := hide hDn
    have HL := hide hlow
    have HL2 := hide hlen2
    have hT1 := hide (show (l.take i ++ [(⟨key, stamp, val⟩ : Rw)]).length = i + 1 by simp [hlow])
    clear hl hL1 hA hD hg hsz hmax hc hg0 hb0 hlow hlen2 hDn
    go_enter Try.func69, Try.ntmps69
    go_wp2_with fail
    rw [← hW]
    clear hW
    go_region_law (first
      | (refine step_push_full (enc := rwenc) (k := 3) (by rfl) (.tmp 12) (.tmp 14) RowsT (by rfl) RowT noRw 40 Try.underlying26 row_info rfl rwenc_len (some ⟨g, off, none⟩) (l.take i) i i (by rfl) HL.out.symm HL.out.symm (HA.out.below (hbn _)).lies (w.heap.size + 1) ⟨key, stamp, val⟩ (by rfl) (hnew _) (by rw [HL.out]; omega) (by rw [HL.out]; omega) w.heap.size (by rw [hz2]; omega) ?_; intro ad3 cap3 w3 hown3 hb3; rw [HL.out] at hown3 ⊢)
      | (refine step_append_at (enc := rwenc) (k := 3) (by rfl) (.tmp 15) (.tmp 18) RowsT (by rfl) RowT noRw 40 Try.underlying26 row_info rfl (by decide) rwenc_len rwenc_one w.heap.size _ (l.take i ++ [⟨key, stamp, val⟩]) (by rfl) hown3 (if cap = j then some ⟨g, off, none⟩ else some ⟨g, off + j * 3, none⟩) (l.drop j) (l.length - j) (cap - j) (by rfl) HL2.out.symm ((HD.out.below (hbn _)).below hb3) HN.out (by rw [hT1.out, HL2.out]; omega) (by rw [hT1.out, HL2.out]; omega) ?z0 ?_; (case z0 => have h1 := hb3.size; have h2 := hz2 (.cells #[.string key, .int .i64 stamp, .string val] 53); omega); intro ad4 cap4 w4 hown4 hg4; rw [hT1.out, HL2.out] at hown4 ⊢))
    have hbel : Below w.heap.size w w4 := by
      have h3 : Below w.heap.size w w3 := (HB.out.trans ((hbn _).mono HB.out.size)).trans (hb3.mono (by have h2 := hz2 (.cells #[.string key, .int .i64 stamp, .string val] 53); omega))
      exact h3.grown hg4 h3.size (fun k hk => (hown3.lt k hk).1)
    have hL : (l.take i ++ (⟨key, stamp, val⟩ : Rw) :: l.drop j).length = i + 1 + (l.length - j) := by
      rw [List.length_append, List.length_cons, HL.out, HL2.out]; omega
    go_wp2
    all_goals go_ret
    all_goals
      refine ⟨ad4, cap4, l.take i ++ ⟨key, stamp, val⟩ :: l.drop j, by rw [hL]; rfl, rfl, ?_, hbel⟩
      rw [show l.take i ++ (⟨key, stamp, val⟩ : Rw) :: l.drop j = l.take i ++ [⟨key, stamp, val⟩] ++ l.drop j by simp] at hL ⊢
      rw [hL] at hown4 ⊢
      exact hown4

end Go.Proofs.Ythdempdiibjabaa.Tb
