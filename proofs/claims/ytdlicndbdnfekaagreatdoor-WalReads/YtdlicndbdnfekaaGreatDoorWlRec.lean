/- Walks over record.go: frameOf, isRecord, recordAt. -/
import Derived.Test.YtdlicndbdnfekaaGreatDoorWlPure
import Derived.Test.YtdlicndbdnfekaaGreatDoorEnc2
import Derived.Test.YtdlicndbdnfekaaGreatDoorGRow
namespace Go.Proofs.YtdlicndbdnfekaaGreatDoor.Wl
open Go.RowKit Go.Joins

abbrev recV (n : Int) (b : Int) (s : ByteArray) : Value := .agg #[.int .i64 n, .int .i64 b, .string s]
theorem flds_lie (W : World) (n : Nat) (r : Rec) : Lies (W.alloc (.cells #[.bool false, .int .i64 n, .string ⟨#[]⟩, .bool false, .int .i64 r.brick, .string ⟨#[]⟩, .bool true, .int .i64 0, .string r.body] 87)) (some ⟨W.heap.size, 0, none⟩) (flds n r) := by
  refine Or.inr ⟨W.heap.size, 0, rfl, by simp, fun i hi => ?_⟩
  simp only [flds, List.length_cons, List.length_nil] at hi
  rcases (show i = 0 ∨ i = 1 ∨ i = 2 by omega) with rfl | rfl | rfl
  all_goals simp [flds]
set_option maxRecDepth 100000 in
set_option maxHeartbeats 1600000 in
theorem frameOf_any (n : Nat) (r : Rec) (hm : r.may) (w : World) :
    Calls Tryz.prog 25 #[recV n r.brick r.body] w fun e w' => e = .returned (.tuple #[.string ⟨(fr n r).toArray⟩, .int .i64 0]) ∧ Below w.heap.size w w' := by
  have hE : Calls Tryz.prog 40 #[.slice (some ⟨w.heap.size + 1, 0, none⟩) 3 3] ((w.alloc (.cells #[.int .i64 n, .int .i64 r.brick, .string r.body] 46)).alloc (.cells #[.bool false, .int .i64 n, .string ⟨#[]⟩, .bool false, .int .i64 r.brick, .string ⟨#[]⟩, .bool true, .int .i64 0, .string r.body] 87)) fun e w' => e = .returned (.tuple #[.string ⟨(encs (flds n r)).toArray⟩, .int .i64 0]) ∧ Below w.heap.size w w' := by
    have hl := flds_lie (w.alloc (.cells #[.int .i64 n, .int .i64 r.brick, .string r.body] 46)) n r
    rw [show (w.alloc (.cells #[.int .i64 n, .int .i64 r.brick, .string r.body] 46)).heap.size = w.heap.size + 1 by simp] at hl
    have h := Encode_any _ 3 (flds n r) _ hl (by simp [flds]) (fun x hx => by
      have := hm.2
      simp only [flds, List.mem_cons, List.not_mem_nil, or_false] at hx
      rcases hx with rfl | rfl | rfl
      · show (ByteArray.mk #[]).size ≤ _; decide
      · show (ByteArray.mk #[]).size ≤ _; decide
      · show r.body.size ≤ _; omega)
    rw [encodeV, encode_good (good_flds hm), show (flds n r).length = 3 from rfl] at h
    refine h.mono ?_
    rintro e w1 ⟨rfl, hb1⟩
    exact ⟨rfl, (((Below.refl _ _).alloc (Nat.le_refl _) _).alloc (by simp) _).trans (hb1.mono (by simp; omega))⟩
  have hsz : (ByteArray.mk (encs (flds n r)).toArray).size = (encs (flds n r)).length := by show (encs (flds n r)).toArray.size = _; simp
  have hF : ∀ W, Calls Tryz.prog 41 #[.string ⟨(encs (flds n r)).toArray⟩] W fun e w' => e = .returned (.tuple #[.string ⟨(fr n r).toArray⟩, .int .i64 0]) ∧ Below W.heap.size W w' := fun W => by
    have hl := encs_flds n r
    have := hm.2
    have h := Frame_any ⟨(encs (flds n r)).toArray⟩ W (by rw [hsz]; omega)
    rw [frameV, frame, if_neg (by rw [hsz]; omega)] at h
    exact h
  go_enter Tryz.func25, Tryz.ntmps25
  go_wp2_with fail
  refine hE.mono ?_
  rintro e w1 ⟨rfl, hb⟩
  clear hE
  go_wp2_with (first | (go_at_call 41; refine (hF _).mono ?_; rintro e w2 ⟨rfl, hb2⟩))
  go_ret2
  exact ⟨rfl, hb.trans (hb2.mono hb.size)⟩

set_option maxRecDepth 100000 in
set_option maxHeartbeats 1600000 in
theorem isRecord_any (n : Nat) (r : Rec) (hm : r.may) (a : Option Addr) (cap : Nat) (w : World) (hl : Lies w a (flds n r)) :
    Calls Tryz.prog 56 #[.slice a 3 cap] w fun e w' => e = .returned (.bool true) ∧ w = w' := by
  obtain ⟨b, off, rfl, hlt, hl⟩ : ∃ b off, a = some ⟨b, off, none⟩ ∧ b < w.heap.size ∧ liesAt w b off (flds n r) := by
    rcases hl with h | h
    · simp [flds] at h
    · exact h
  have h0 := hl 0 (by simp [flds])
  have h1 := hl 1 (by simp [flds])
  have h2 := hl 2 (by simp [flds])
  simp only [flds, List.getElem_cons_zero, List.getElem_cons_succ, Nat.zero_mul, Nat.one_mul, Nat.add_zero, Nat.reduceMul] at h0 h1 h2
  obtain ⟨x0, -, -⟩ := h0
  obtain ⟨y0, y1, -⟩ := h1
  obtain ⟨z0, -, -⟩ := h2
  have hb := hm.1
  have g1 : (0 : Int) ≤ (r.brick : Int) := by omega
  have g2 : (r.brick : Int) < 16 := by omega
  go_enter Tryz.func56, Tryz.ntmps56
  go_wp2
  go_ret
  simp

set_option maxRecDepth 100000 in
set_option maxHeartbeats 3200000 in
theorem recordAt_torn (s : ByteArray) (p n : Nat) (hs : s.size ≤ 4611686018427387904) (hp : p ≤ s.size) (ht : Torn (s.data.toList.drop p)) (hne : s.data.toList.drop p ≠ []) (w : World) :
    Calls Tryz.prog 36 #[.string s, .int .i64 p, .int .i64 n] w fun e w' => e = .returned (.tuple #[recV 0 0 ⟨#[]⟩, .int .i64 0, .int .i64 11]) ∧ Below w.heap.size w w' := by
  have hU : ∀ W, Calls Tryz.prog 54 #[.string s, .int .i64 p] W fun e w' => e = .returned (.tuple #[.string ⟨#[]⟩, .int .i64 0, .agg #[.int .i64 p, .int .i64 11]]) ∧ Below W.heap.size W w' := fun W => by
    have h := Unframe_any s p W hs (by omega) (by omega)
    rw [unframeV, unframe_bad hp (ht.unf hne) (by decide)] at h
    exact h
  have hA : (w.alloc (.cells #[.int .i64 0, .int .i64 0, .string ⟨#[]⟩] 46)).heap[w.heap.size]? = some (.cells #[.int .i64 0, .int .i64 0, .string ⟨#[]⟩] 46 (0, 0)) := heap_alloc_new w _
  go_enter Tryz.func36, Tryz.ntmps36
  go_wp2_with fail
  refine (hU _).mono ?_
  rintro e w1 ⟨rfl, hb1⟩
  have hA1 := (hb1.block _ (by simp)).trans hA
  have hz1 : w.heap.size < w1.heap.size := by have := hb1.size; simp at this; omega
  have hb : Below w.heap.size w w1 := ((Below.refl _ _).alloc (Nat.le_refl _) _).trans (hb1.mono (by simp))
  have e0 : w1.cell? ⟨w.heap.size, 0, none⟩ = some (.int .i64 0) := cell_of_block hA1 0
  have e1 : w1.cell? ⟨w.heap.size, 1, none⟩ = some (.int .i64 0) := cell_of_block hA1 1
  have e2 : w1.cell? ⟨w.heap.size, 2, none⟩ = some (.string ⟨#[]⟩) := cell_of_block hA1 2
  have z0 := unfrozen_of_block hA1 0
  have z1 := unfrozen_of_block hA1 1
  have z2 := unfrozen_of_block hA1 2
  clear hA1 hb1 hA hU
  go_wp2
  refine bodyPost_ret (v := .tuple #[recV 0 0 ⟨#[]⟩, .int .i64 0, .int .i64 11]) (by simp [results, Tryz.results36, go_sem, e0, e1, e2, hz1]) rfl ⟨rfl, ?_⟩
  exact (((hb.setCell (Nat.le_refl _) _).setCell (Nat.le_refl _) _).setCell (Nat.le_refl _) _).alloc (by simp; omega) _

set_option maxRecDepth 100000 in
set_option maxHeartbeats 3200000 in
theorem recordAt_ok (s : ByteArray) (p n : Nat) (r : Rec) (q : List UInt8) (hm : r.may) (hn : n ≤ 9223372036854775807) (hs : s.size ≤ 4611686018427387904) (hp : p ≤ s.size) (hd : s.data.toList.drop p = fr n r ++ q) (w : World) :
    Calls Tryz.prog 36 #[.string s, .int .i64 p, .int .i64 n] w fun e w' => e = .returned (.tuple #[recV n r.brick r.body, .int .i64 ((p + (fr n r).length : Nat) : Int), .int .i64 0]) ∧ Below w.heap.size w w' := by
  have hel := encs_flds n r
  have hm2 := hm.2
  have hsz : (ByteArray.mk (encs (flds n r)).toArray).size = (encs (flds n r)).length := by show (encs (flds n r)).toArray.size = _; simp
  have hU : ∀ W, Calls Tryz.prog 54 #[.string s, .int .i64 p] W fun e w' => e = .returned (.tuple #[.string ⟨(encs (flds n r)).toArray⟩, .int .i64 ((p + (fr n r).length : Nat) : Int), .agg #[.int .i64 0, .int .i64 0]]) ∧ Below W.heap.size W w' := fun W => by
    have h := Unframe_any s p W hs (by omega) (by omega)
    rw [unframeV, unframe_good hp (by rw [hd]; exact unf_frame _ q (by omega))] at h
    refine h.mono ?_
    rintro e w' ⟨rfl, hb⟩
    refine ⟨?_, hb⟩
    rw [fr_length]; simp only [Int.natCast_add]
  have hD : ∀ W, Calls Tryz.prog 55 #[.string ⟨(encs (flds n r)).toArray⟩] W fun e w' => ∃ b cap, e = .returned (.tuple #[.slice (some ⟨b, 0, none⟩) 3 cap, .agg #[.int .i64 0, .int .i64 0]]) ∧ W.heap.size ≤ b ∧ b < w'.heap.size ∧ liesAt w' b 0 (flds n r) ∧ Below W.heap.size W w' := fun W => by
    have h := Decode_any ⟨(encs (flds n r)).toArray⟩ W (by rw [hsz]; omega)
    rw [decode_flds hn hm] at h
    refine h.mono ?_
    rintro e w' ⟨v, rfl, ho, hb⟩
    obtain ⟨a, cap, rfl, hl⟩ := own_lies ho
    rcases ho.2 with ⟨_, h0⟩ | ⟨g, cap', cur, e1, h1, _⟩
    · simp [flds] at h0
    · cases e1
      rcases hl with h | ⟨b, off, e2, h2, h3⟩
      · simp [flds] at h
      · cases e2
        exact ⟨g, cap, rfl, h1, h2, h3, hb⟩
  generalize hE : p + (fr n r).length = E at *
  clear hE hd hel hsz
  generalize (ByteArray.mk (encs (flds n r)).toArray) = b0 at *
  have hA : (w.alloc (.cells #[.int .i64 0, .int .i64 0, .string ⟨#[]⟩] 46)).heap[w.heap.size]? = some (.cells #[.int .i64 0, .int .i64 0, .string ⟨#[]⟩] 46 (0, 0)) := heap_alloc_new w _
  go_enter Tryz.func36, Tryz.ntmps36
  go_wp2_with fail
  refine (hU _).mono ?_
  rintro e w1 ⟨rfl, hb1⟩
  have hA1 := (hb1.block _ (by simp)).trans hA
  have hz1 : w.heap.size < w1.heap.size := by have := hb1.size; simp at this; omega
  have hb : Below w.heap.size w w1 := ((Below.refl _ _).alloc (Nat.le_refl _) _).trans (hb1.mono (by simp))
  have HA1 := hide hA1
  clear hA1 hb1 hA hU
  go_wp2_with fail
  refine (hD _).mono ?_
  rintro e w2 ⟨b, cap, rfl, hbl, hlt, hl2, hb2⟩
  have hb3 : Below w.heap.size w w2 := (hb.alloc (by omega) _).trans (hb2.mono (by simp; omega))
  have hA2 := (hb2.block w.heap.size (by simp; omega)).trans ((Below.heap_alloc w1 _ w.heap.size hz1).trans HA1.out)
  have hB2 : w2.heap[w1.heap.size]? = some (.cells #[.int .i64 0, .int .i64 0] 103 (0, 0)) := (hb2.block _ (by simp)).trans (heap_alloc_new w1 _)
  have hz2 : w1.heap.size < w2.heap.size := by have := hb2.size; simp at this; omega
  have f0 : w2.cell? ⟨w1.heap.size, 0, none⟩ = some (.int .i64 0) := cell_of_block hB2 0
  have f1 : w2.cell? ⟨w1.heap.size, 1, none⟩ = some (.int .i64 0) := cell_of_block hB2 1
  have y0 := unfrozen_of_block hB2 0
  have y1 := unfrozen_of_block hB2 1
  have hne : w.heap.size ≠ w1.heap.size := by omega
  have hbn1 : b ≠ w1.heap.size := by simp at hbl; omega
  have hbn0 : b ≠ w.heap.size := by simp at hbl; omega
  have h0 := hl2 0 (by simp [flds])
  have h1 := hl2 1 (by simp [flds])
  have h2 := hl2 2 (by simp [flds])
  simp only [flds, List.getElem_cons_zero, List.getElem_cons_succ, Nat.zero_mul, Nat.one_mul, Nat.add_zero, Nat.reduceMul, Nat.zero_add, Nat.reduceAdd] at h0 h1 h2
  obtain ⟨-, x1, -⟩ := h0
  obtain ⟨-, x4, -⟩ := h1
  obtain ⟨-, -, x8⟩ := h2
  obtain ⟨W3, hW3⟩ : ∃ W3, W3 = (w2.setCell ⟨w1.heap.size, 0, none⟩ (.int .i64 0)).setCell ⟨w1.heap.size, 1, none⟩ (.int .i64 0) := ⟨_, rfl⟩
  have k3 : ∀ k, k ≠ w1.heap.size → W3.heap[k]? = w2.heap[k]? := fun k hk => by rw [hW3, Below.heap_setCell _ _ _ k hk, Below.heap_setCell _ _ _ k hk]
  have hb4 : Below w.heap.size w W3 := by rw [hW3]; exact (hb3.setCell (by show _ ≤ w1.heap.size; omega) _).setCell (by show _ ≤ w1.heap.size; omega) _
  have hl3 : liesAt W3 b 0 (flds n r) := fun i hi => by
    have c : ∀ o, W3.cell? ⟨b, o, none⟩ = w2.cell? ⟨b, o, none⟩ := fun o => World.cell?_of_block (a := ⟨b, o, none⟩) (k3 b hbn1)
    rw [c, c, c]; exact hl2 i hi
  have hI := isRecord_any n r hm (some ⟨b, 0, none⟩) cap W3 (Or.inr ⟨b, 0, rfl, by rw [hW3]; simpa using hlt, hl3⟩)
  have hA3 := (k3 w.heap.size hne).trans hA2
  have hB3 := k3 b hbn1
  replace x1 := (World.cell?_of_block (a := ⟨b, 1, none⟩) hB3).trans x1
  replace x4 := (World.cell?_of_block (a := ⟨b, 4, none⟩) hB3).trans x4
  replace x8 := (World.cell?_of_block (a := ⟨b, 8, none⟩) hB3).trans x8
  have a0 : W3.cell? ⟨w.heap.size, 0, none⟩ = some (.int .i64 0) := cell_of_block hA3 0
  have a1 : W3.cell? ⟨w.heap.size, 1, none⟩ = some (.int .i64 0) := cell_of_block hA3 1
  have a2 : W3.cell? ⟨w.heap.size, 2, none⟩ = some (.string ⟨#[]⟩) := cell_of_block hA3 2
  have z0 := unfrozen_of_block hA3 0
  have z1 := unfrozen_of_block hA3 1
  have z2 := unfrozen_of_block hA3 2
  have HA3 := hide hA3
  clear hl2 hb hb2 hD HA1 hbl hl3 hA3 hB3 k3 hb3
  go_wp2_with fail
  rw [← hW3]
  clear hW3
  refine hI.mono ?_
  rintro e w4 ⟨rfl, rfl⟩
  clear f0 f1 y0 y1 hA2 hB2 hI
  go_wp2
  go_region_law (fail)
  all_goals go_wp2
  all_goals exact bodyPost_ret (v := .tuple #[recV n r.brick r.body, .int .i64 E, .int .i64 0]) (by simp [results, Tryz.results36, go_sem, a0, a1, a2]) rfl ⟨rfl, by first | exact (((hb4.setCell (p := ⟨w.heap.size, 0, none⟩) (Nat.le_refl _) _).setCell (p := ⟨w.heap.size, 1, none⟩) (Nat.le_refl _) _).setCell (p := ⟨w.heap.size, 2, none⟩) (Nat.le_refl _) _).drew | exact ((((hb4.setCell (p := ⟨w.heap.size, 0, none⟩) (Nat.le_refl _) _).setCell (p := ⟨w.heap.size, 1, none⟩) (Nat.le_refl _) _).setCell (p := ⟨w.heap.size, 2, none⟩) (Nat.le_refl _) _).drew).drew⟩

end Go.Proofs.YtdlicndbdnfekaaGreatDoor.Wl
