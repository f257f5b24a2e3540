/- Walks over skylarkref02: Used, known. -/
import Derived.Test.YtokcknfbanpjjaaENamed
namespace Go.Proofs.Ytokcknfbanpjjaa.Dk
open Go.RowKit Go.Maps Go.Joins

/-- a file as the document's answer has it -/
abbrev RV3 (k d : ByteArray) (s : Nat) : Value := .agg #[.string k, .string d, .int .i64 s]
abbrev noRV : Value := RV3 ⟨#[]⟩ ⟨#[]⟩ 0
def knownV (l : Fls) (k : Bs) : Value := if named k = true then (match getL k l with | some f => .tuple #[RV3 (txt k) (txt f.data) f.safe, .int .i64 0] | none => .tuple #[noRV, .int .i64 5]) else .tuple #[noRV, .int .i64 20]

set_option maxHeartbeats 800000 in
theorem rUsed_any {own : Nat → Prop} {br room : Nat} {l : Fls} {v : Value} {fused : Bool} {left : Int} {down : Bool} (w : World) (h : RHeldL w own br room l v fused left down) (hl : l.length ≤ 64) (hu : used l ≤ 262144) :
    Calls Try.prog 30 #[.pointer (some ⟨br, 0, none⟩)] w fun e w' => e = .returned (.int .i64 (used l : Nat)) ∧ Below w.heap.size w w' := by
  have c1 := h.c1
  obtain ⟨av, cv, rfl⟩ := own_slice h.row
  have HN : ∀ k (hk : k < l.length), used (l.take (k + 1)) = used (l.take k) + l[k].2.data.length ∧ used (l.take (k + 1)) ≤ used l := fun k hk => by
    have e1 : used (l.take (k + 1)) = used (l.take k) + l[k].2.data.length := by
      rw [used, used, List.take_succ_eq_append_getElem hk, sumL, sumL, List.map_append, List.sum_append]
      simp
    refine ⟨e1, ?_⟩
    have : used l = used (l.take (k + 1)) + used (l.drop (k + 1)) := by
      conv => lhs; rw [← List.take_append_drop (k + 1) l]
      simp only [used, sumL, List.map_append, List.sum_append]
    omega
  go_enter Try.func30, Try.ntmps30
  go_wp2
  go_loopw [3, 4] (fun n i wr => ∃ k : Nat, k ≤ l.length ∧ i = .int .i64 k ∧ n = .int .i64 (used (l.take k) : Nat) ∧ wr.heap = w.heap ∧ Below w.heap.size w wr) (fun _ i _ => l.length - (intOf i).toNat)
  case atStart => exact ⟨0, by omega, rfl, rfl, rfl, Below.refl _ _⟩
  case round =>
    obtain ⟨k, hk, rfl, rfl, hhp, hB⟩ := hrel
    have c1' : wr.cell? ⟨br, 1, none⟩ = some (.slice av l.length cv) := by rw [← c1]; simp [World.cell?, hhp]
    by_cases hlt : k < l.length
    · obtain ⟨g, cap', e, d0, d1, d2⟩ := h.at k hlt
      cases e
      have d1' : wr.cell? ⟨g, k * 3 + 1, none⟩ = some (.string (txt l[k].2.data)) := by rw [← d1]; simp [World.cell?, hhp]
      obtain ⟨hn1, hn2⟩ := HN k hlt
      have hts : (txt l[k].2.data).size = l[k].2.data.length := by show (l[k].2.data.toArray).size = _; simp
      have HX := hide hn1
      have hsum : ((used (l.take k) : Nat) : Int) + ((txt l[k].2.data).size : Int) ≤ 262144 := by omega
      have i1 : (0 : Int) ≤ (k : Int) := by omega
      have i2 : (k : Int) < (l.length : Int) := by omega
      have HT := hide hts
      generalize txt l[k].2.data = dt at *
      clear HN hts hn1 d0 d1 d2
      generalize used (l.take k) = q at *
      go_wp2
      go_roundw
      case rel => exact ⟨k + 1, by omega, by go_num, by rw [HX.out, ← HT.out]; go_num, hhp, hB⟩
      case measure => simp [intOf]; omega
    · obtain rfl : k = l.length := by omega
      rw [List.take_length]
      clear HN
      go_wp2
      go_ret
      exact ⟨rfl, hB⟩

set_option maxHeartbeats 1600000 in
theorem known_any {own : Nat → Prop} {br room : Nat} {l : Fls} {v : Value} {fused : Bool} {left : Int} {down : Bool} (w : World) (h : RHeldL w own br room l v fused left down) (hl : l.length ≤ 64) (hr : Rising l) (s : ByteArray) (hs : s.size ≤ 140737488351232) :
    Calls Try.prog 41 #[.pointer (some ⟨br, 0, none⟩), .string s] w fun e w' => e = .returned (knownV l s.data.toList) ∧ Below w.heap.size w w' := by
  have hN := fun W => rNamed_any s W hs
  have hb0 := below_alloc1 w (.cells #[.string ⟨#[]⟩, .string ⟨#[]⟩, .int .i64 0] RFil)
  have hA0 := heap_alloc_new w (.cells #[.string ⟨#[]⟩, .string ⟨#[]⟩, .int .i64 0] RFil)
  have h0 := h.below hb0
  cases hnm : named s.data.toList
  · rw [hnm] at hN
    have hv : knownV l s.data.toList = .tuple #[noRV, .int .i64 20] := by simp [knownV, hnm]
    rw [hv]
    go_enter Try.func41, Try.ntmps41
    go_wp2_with fail
    refine (hN _).mono ?_
    rintro e w1 ⟨rfl, rfl⟩
    clear hN
    go_wp2
    exact bodyPost_ret (v := .tuple #[noRV, .int .i64 20]) (by simp [results, Try.results41, go_sem]) rfl ⟨rfl, hb0⟩
  · rw [hnm] at hN
    have hP := place_any _ h0 hl hr s
    have hget := posL_get (k := s.data.toList) hr
    cases hgl : getL s.data.toList l with
    | none =>
      have hv : knownV l s.data.toList = .tuple #[noRV, .int .i64 5] := by simp [knownV, hnm, hgl]
      rw [hv]
      rw [hgl] at hP
      clear hget
      generalize posL s.data.toList l = p at *
      simp only [Option.isSome_none] at hP
      go_enter Try.func41, Try.ntmps41
      go_wp2_with fail
      refine (hN _).mono ?_
      rintro e w1 ⟨rfl, rfl⟩
      clear hN
      go_wp2_with fail
      refine hP.mono ?_
      rintro e w2 ⟨rfl, hb2⟩
      have hA2 := (hb2.block w.heap.size (by simp)).trans hA0
      have e0 : w2.cell? ⟨w.heap.size, 0, none⟩ = some (.string ⟨#[]⟩) := cell_of_block hA2 0
      have e1 : w2.cell? ⟨w.heap.size, 1, none⟩ = some (.string ⟨#[]⟩) := cell_of_block hA2 1
      have e2 : w2.cell? ⟨w.heap.size, 2, none⟩ = some (.int .i64 0) := cell_of_block hA2 2
      have z0 := unfrozen_of_block hA2 0
      have z1 := unfrozen_of_block hA2 1
      have z2 := unfrozen_of_block hA2 2
      have hb2' := hb0.trans (hb2.mono (by simp))
      clear hP hA0 hA2 hb2
      go_wp2
      exact bodyPost_ret (v := .tuple #[noRV, .int .i64 5]) (by simp [results, Try.results41, go_sem, e0, e1, e2]) rfl ⟨rfl, ((hb2'.setCell (by simp) _).setCell (by simp) _).setCell (by simp) _⟩
    | some f =>
      have hv : knownV l s.data.toList = .tuple #[RV3 (txt s.data.toList) (txt f.data) f.safe, .int .i64 0] := by simp [knownV, hnm, hgl]
      rw [hv]
      obtain ⟨hlt, hk1, hk2⟩ : ∃ h : posL s.data.toList l < l.length, (l[posL s.data.toList l]).1 = s.data.toList ∧ (l[posL s.data.toList l]).2 = f := by
        rcases hget with ⟨h1, h2, h3⟩ | ⟨h1, _⟩
        · rw [hgl] at h3; cases h3; exact ⟨h1, h2, rfl⟩
        · rw [hgl] at h1; cases h1
      rw [hgl] at hP
      obtain ⟨g, cap', ev, d0, d1, d2⟩ := h0.at _ hlt
      rw [hk1] at d0
      rw [hk2] at d1 d2
      have hgl' := h0.rowLt (g := g) (by rw [ev]; rfl)
      subst ev
      have c1 := h0.c1
      have hbrl := h0.lt
      clear hget hk1 hk2
      generalize posL s.data.toList l = p at *
      simp only [Option.isSome_some] at hP
      go_enter Try.func41, Try.ntmps41
      go_wp2_with fail
      refine (hN _).mono ?_
      rintro e w1 ⟨rfl, rfl⟩
      clear hN
      go_wp2_with fail
      refine hP.mono ?_
      rintro e w2 ⟨rfl, hb2⟩
      have hA2 := (hb2.block w.heap.size (by simp)).trans hA0
      have e0 : w2.cell? ⟨w.heap.size, 0, none⟩ = some (.string ⟨#[]⟩) := cell_of_block hA2 0
      have e1 : w2.cell? ⟨w.heap.size, 1, none⟩ = some (.string ⟨#[]⟩) := cell_of_block hA2 1
      have e2 : w2.cell? ⟨w.heap.size, 2, none⟩ = some (.int .i64 0) := cell_of_block hA2 2
      have z0 := unfrozen_of_block hA2 0
      have z1 := unfrozen_of_block hA2 1
      have z2 := unfrozen_of_block hA2 2
      have c1' := (hb2.cell (p := ⟨br, 1, none⟩) hbrl).trans c1
      have d0' := (hb2.cell (p := ⟨g, p * 3, none⟩) hgl').trans d0
      have d1' := (hb2.cell (p := ⟨g, p * 3 + 1, none⟩) hgl').trans d1
      have d2' := (hb2.cell (p := ⟨g, p * 3 + 2, none⟩) hgl').trans d2
      have hb2' := hb0.trans (hb2.mono (by simp))
      have i1 : (0 : Int) ≤ (p : Int) := by omega
      have i2 : (p : Int) < (l.length : Int) := by omega
      clear hP hA0 hA2 hb2 c1 d0 d1 d2
      go_wp2
      exact bodyPost_ret (v := .tuple #[RV3 (txt s.data.toList) (txt f.data) f.safe, .int .i64 0]) (by simp [results, Try.results41, go_sem, e0, e1, e2]) rfl ⟨rfl, ((hb2'.setCell (by simp) _).setCell (by simp) _).setCell (by simp) _⟩

end Go.Proofs.Ytokcknfbanpjjaa.Dk
