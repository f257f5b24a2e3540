/- Walks over file.go: cutTo, synced, tail, torn. -/
import Derived.Test.YtokcknfbanpjjaaDFile
namespace Go.Proofs.Ytokcknfbanpjjaa.Dk
open Go.RowKit Go.Maps Go.Joins

theorem own_cut {w : World} {a : Option Addr} {cap : Nat} {data : Bs} (h : w.ownsRow 0 5 1 (.slice a data.length cap) data.length (bys data)) (k : Nat) (hk : k ≤ data.length) :
    w.ownsRow 0 5 1 (.slice a k cap) (data.take k).length (bys (data.take k)) := by
  have hl : (data.take k).length = k := by rw [List.length_take]; omega
  rw [hl]
  refine ⟨by rw [bys_length, hl]; omega, ?_⟩
  rcases h.2 with ⟨e, h0⟩ | ⟨g, cap', cur, e, hb, hg, h1, h2, h3, h4⟩
  · obtain ⟨rfl, _, rfl⟩ : a = none ∧ data.length = 0 ∧ cap = 0 := by simpa using e
    left
    have : k = 0 := by omega
    subst this
    exact ⟨rfl, rfl⟩
  · cases e
    refine .inr ⟨g, cap, cur, rfl, hb, hg, by omega, h2, h3, ?_⟩
    have e1 : bys (data.take k) = (bys data).take k := by simp [bys]
    rw [e1, ← h4, List.take_take]
    congr 1
    omega

set_option maxHeartbeats 400000 in
theorem cutTo_any (a : Option Addr) (n cap safe k : Nat) (w : World) (hk : k ≤ n) (hn : n ≤ cap) (hz : a = none → cap = 0) (hc : cap ≤ 9223372036854775807) (hs : safe ≤ 262144) :
    Calls Try.prog 40 #[FV (.slice a n cap) safe, .int .i64 k] w fun e w' => e = .returned (FV (.slice a k cap) (min safe k)) ∧ Below w.heap.size w w' := by
  have i1 : (0 : Int) ≤ (k : Int) := by omega
  have i2 : (k : Int) ≤ (n : Int) := by omega
  have i3 : (k : Int) ≤ (cap : Int) := by omega
  cases a with
  | none =>
    have := hz rfl
    subst this
    have : n = 0 := by omega
    subst this
    have : k = 0 := by omega
    subst this
    go_enter Try.func40, Try.ntmps40
    go_wp2
    obtain ⟨W, hW⟩ : ∃ W, W = (w.alloc (.cells #[.slice none 0 0, .int .i64 safe] 61)).alloc (.cells #[.slice none 0 0, .int .i64 0] 61) := ⟨_, rfl⟩
    have hS : GS w none (.slice none 0 0) safe W := by
      rw [hW]; refine ⟨by simp, by simp, by simp, (World.grownBy_alloc w _ _).trans (World.grownBy_alloc _ _ _)⟩
    have hX : W.heap[w.heap.size + 1]? = some (.cells #[.slice none 0 0, .int .i64 0] 61 (0, 0)) := by
      rw [hW]
      have := heap_alloc_new (w.alloc (.cells #[.slice none 0 0, .int .i64 safe] 61)) (.cells #[.slice none 0 0, .int .i64 0] 61)
      simpa using this
    rw [← hW]
    clear hW
    have e0 : W.cell? ⟨w.heap.size + 1, 0, none⟩ = some (.slice none 0 0) := cell_of_block hX 0
    have e1 : W.cell? ⟨w.heap.size + 1, 1, none⟩ = some (.int .i64 0) := cell_of_block hX 1
    have z0 := unfrozen_of_block hX 0
    have z1 := unfrozen_of_block hX 1
    go_region_held3 (GS w none (.slice none 0 0) safe) (first | exact GS.drew (by assumption) | exact GS.set (GS.set (by assumption) _ _) _ _ | exact GS.set (by assumption) _ _) (first | fail)
    have hH := ‹GS w none (.slice none 0 0) safe _›
    go_wp2
    have hmin : min (safe : Int) 0 = 0 := by omega
    exact bodyPost_ret (v := FV (.slice none 0 0) (min safe 0)) (by simp [results, Try.results40, go_sem, e0, e1, hmin]) rfl ⟨rfl, (Below.refl _ _).grown hH.2.2.2 (Nat.le_refl _) (by simp)⟩
  | some ad =>
    go_enter Try.func40, Try.ntmps40
    go_wp2
    obtain ⟨W, hW⟩ : ∃ W, W = (w.alloc (.cells #[.slice (some ad) n cap, .int .i64 safe] 61)).alloc (.cells #[.slice none 0 0, .int .i64 0] 61) := ⟨_, rfl⟩
    have hS : GS w none (.slice (some ad) n cap) safe W := by
      rw [hW]; refine ⟨by simp, by simp, by simp, (World.grownBy_alloc w _ _).trans (World.grownBy_alloc _ _ _)⟩
    have hX : W.heap[w.heap.size + 1]? = some (.cells #[.slice none 0 0, .int .i64 0] 61 (0, 0)) := by
      rw [hW]
      have := heap_alloc_new (w.alloc (.cells #[.slice (some ad) n cap, .int .i64 safe] 61)) (.cells #[.slice none 0 0, .int .i64 0] 61)
      simpa using this
    rw [← hW]
    clear hW
    have e0 : W.cell? ⟨w.heap.size + 1, 0, none⟩ = some (.slice none 0 0) := cell_of_block hX 0
    have e1 : W.cell? ⟨w.heap.size + 1, 1, none⟩ = some (.int .i64 0) := cell_of_block hX 1
    have z0 := unfrozen_of_block hX 0
    have z1 := unfrozen_of_block hX 1
    go_region_held3 (GS w none (.slice (some ad) n cap) safe) (first | exact GS.drew (by assumption) | exact GS.set (GS.set (by assumption) _ _) _ _ | exact GS.set (by assumption) _ _) (first | fail)
    have hH := ‹GS w none (.slice (some ad) n cap) safe _›
    go_wp2
    have hmin : ((min safe k : Nat) : Int) = min (safe : Int) (k : Int) := by omega
    exact bodyPost_ret (v := FV (.slice (some ad) k cap) (min safe k)) (by simp [results, Try.results40, go_sem, e0, e1, hmin]) rfl ⟨rfl, (Below.refl _ _).grown hH.2.2.2 (Nat.le_refl _) (by simp)⟩

set_option maxHeartbeats 400000 in
theorem synced_any (a : Option Addr) (n cap safe : Nat) (w : World) :
    Calls Try.prog 43 #[FV (.slice a n cap) safe] w fun e w' => e = .returned (FV (.slice a n cap) n) ∧ Below w.heap.size w w' := by
  go_enter Try.func43, Try.ntmps43
  go_wp2
  exact bodyPost_ret (v := FV (.slice a n cap) n) (by simp [results, Try.results43, go_sem]) rfl ⟨rfl, below_alloc2 _ _ _⟩

set_option maxHeartbeats 400000 in
theorem tail_any (a : Option Addr) (n cap safe : Nat) (w : World) (hs : safe ≤ n) (hn : n ≤ 262144) :
    Calls Try.prog 45 #[FV (.slice a n cap) safe] w fun e w' => e = .returned (.int .i64 (n - safe : Nat)) ∧ Below w.heap.size w w' := by
  go_enter Try.func45, Try.ntmps45
  go_wp2
  go_ret
  exact ⟨ret_int (by omega), (Below.refl _ _).alloc (Nat.le_refl _) _⟩

theorem two_boxes {w W : World} {x0 x1 y0 y1 : Value} {t u : TypeId} (h : W = (w.alloc (.cells #[x0, x1] t)).alloc (.cells #[y0, y1] u)) :
    W.heap[w.heap.size]? = some (.cells #[x0, x1] t (0, 0)) ∧ W.heap[w.heap.size + 1]? = some (.cells #[y0, y1] u (0, 0)) ∧ Below w.heap.size w W := by
  subst h
  refine ⟨?_, ?_, below_alloc2 _ _ _⟩
  · rw [Below.heap_alloc _ _ _ (by simp)]; exact heap_alloc_new w _
  · have := heap_alloc_new (w.alloc (.cells #[x0, x1] t)) (.cells #[y0, y1] u)
    simpa using this

/-- how much of a tail is left -/
def keptOf (draw : Int) (tail : Nat) : Nat := if 0 < draw then (draw % (tail + 1 : Int)).toNat else 0
theorem keptOf_le (draw : Int) (tail : Nat) : keptOf draw tail ≤ tail := by
  unfold keptOf
  split
  · have := Int.emod_lt_of_pos draw (show (0 : Int) < (tail : Int) + 1 by omega)
    have := Int.emod_nonneg draw (show (tail : Int) + 1 ≠ 0 by omega)
    omega
  · omega

set_option maxHeartbeats 1600000 in
theorem torn_any (a : Option Addr) (n cap safe : Nat) (draw : Int) (w : World) (hsn : safe ≤ n) (hn : n ≤ cap) (hz : a = none → cap = 0) (hc : cap ≤ 9223372036854775807) (hs : n ≤ 262144) (d0 : -9223372036854775808 ≤ draw) (d1 : draw ≤ 9223372036854775807) :
    Calls Try.prog 46 #[FV (.slice a n cap) safe, .int .i64 draw] w fun e w' => e = .returned (FV (.slice a (safe + keptOf draw (n - safe)) cap) (safe + keptOf draw (n - safe))) ∧ Below w.heap.size w w' := by
  have hkl := keptOf_le draw (n - safe)
  by_cases hd : 0 < draw
  · have hke : (keptOf draw (n - safe) : Int) = draw % ((n - safe : Nat) + 1 : Int) := by
      have := Int.emod_nonneg draw (show ((n - safe : Nat) : Int) + 1 ≠ 0 by omega)
      unfold keptOf; rw [if_pos hd]; omega
    generalize keptOf draw (n - safe) = q at *
    go_enter Try.func46, Try.ntmps46
    go_wp2_with fail
    obtain ⟨W, hW⟩ : ∃ W, W = (w.alloc (.cells #[.slice a n cap, .int .i64 safe] 61)).alloc (.cells #[.slice none 0 0, .int .i64 0] 61) := ⟨_, rfl⟩
    obtain ⟨hA, hB, hbW⟩ := two_boxes hW
    rw [← hW]
    clear hW
    have hzA := (Array.getElem?_eq_some_iff.1 hA).1
    have hzB := (Array.getElem?_eq_some_iff.1 hB).1
    refine (tail_any a n cap safe W hsn hs).mono ?_
    rintro e w1 ⟨rfl, hb1⟩
    have hz1 := hb1.size
    have hA1 := (hb1.block _ hzA).trans hA
    have hB1 := (hb1.block _ hzB).trans hB
    have hb1' := hbW.trans (hb1.mono hbW.size)
    have c0 : w1.cell? ⟨w.heap.size, 0, none⟩ = some (.slice a n cap) := cell_of_block hA1 0
    have c1 : w1.cell? ⟨w.heap.size, 1, none⟩ = some (.int .i64 safe) := cell_of_block hA1 1
    clear hA hB hb1 hbW
    go_wp2_with fail
    rw [show (safe : Int) + draw % ((n - safe : Nat) + 1 : Int) = ((safe + q : Nat) : Int) by omega]
    refine (cutTo_any a n cap safe (safe + q) w1 (by omega) hn hz hc (by omega)).mono ?_
    rintro e w2 ⟨rfl, hb2⟩
    have hA2 := (hb2.block _ (by omega)).trans hA1
    have hB2 := (hb2.block _ (by omega)).trans hB1
    have hb2' := hb1'.trans (hb2.mono (by omega))
    have hz2 := hb2.size
    clear hb2 hA1 hB1 hb1'
    go_wp2_with fail
    refine (synced_any a (safe + q) cap _ w2).mono ?_
    rintro e w3 ⟨rfl, hb3⟩
    have hB3 := (hb3.block _ (by omega)).trans hB2
    have hb3' := hb2'.trans (hb3.mono (by omega))
    have hz3 := hb3.size
    have e0 : w3.cell? ⟨w.heap.size + 1, 0, none⟩ = some (.slice none 0 0) := cell_of_block hB3 0
    have e1 : w3.cell? ⟨w.heap.size + 1, 1, none⟩ = some (.int .i64 0) := cell_of_block hB3 1
    have z0 := unfrozen_of_block hB3 0
    have z1 := unfrozen_of_block hB3 1
    clear hb3 hA2 hB2 hb2' hB3
    go_wp2
    exact bodyPost_ret (v := FV (.slice a (safe + q) cap) (safe + q)) (by simp [results, Try.results46, go_sem, e0, e1, hke]) rfl ⟨rfl, (hb3'.setCell (by simp) _).setCell (by simp) _⟩
  · have hk0 : keptOf draw (n - safe) = 0 := by unfold keptOf; rw [if_neg hd]
    rw [hk0]
    go_enter Try.func46, Try.ntmps46
    go_wp2_with fail
    obtain ⟨W, hW⟩ : ∃ W, W = (w.alloc (.cells #[.slice a n cap, .int .i64 safe] 61)).alloc (.cells #[.slice none 0 0, .int .i64 0] 61) := ⟨_, rfl⟩
    obtain ⟨hA, hB, hbW⟩ := two_boxes hW
    rw [← hW]
    clear hW
    have hzA := (Array.getElem?_eq_some_iff.1 hA).1
    have hzB := (Array.getElem?_eq_some_iff.1 hB).1
    refine (cutTo_any a n cap safe safe W (by omega) hn hz hc (by omega)).mono ?_
    rintro e w2 ⟨rfl, hb2⟩
    have hA2 := (hb2.block _ (by omega)).trans hA
    have hB2 := (hb2.block _ (by omega)).trans hB
    have hb2' := hbW.trans (hb2.mono (by omega))
    have hz2 := hb2.size
    clear hb2 hA hB hbW
    go_wp2_with fail
    refine (synced_any a safe cap _ w2).mono ?_
    rintro e w3 ⟨rfl, hb3⟩
    have hB3 := (hb3.block _ (by omega)).trans hB2
    have hb3' := hb2'.trans (hb3.mono (by omega))
    have hz3 := hb3.size
    have e0 : w3.cell? ⟨w.heap.size + 1, 0, none⟩ = some (.slice none 0 0) := cell_of_block hB3 0
    have e1 : w3.cell? ⟨w.heap.size + 1, 1, none⟩ = some (.int .i64 0) := cell_of_block hB3 1
    have z0 := unfrozen_of_block hB3 0
    have z1 := unfrozen_of_block hB3 1
    clear hb3 hA2 hB2 hb2' hB3
    go_wp2
    exact bodyPost_ret (v := FV (.slice a safe cap) safe) (by simp [results, Try.results46, go_sem, e0, e1]) rfl ⟨rfl, (hb3'.setCell (by simp) _).setCell (by simp) _⟩

end Go.Proofs.Ytokcknfbanpjjaa.Dk
