/- Walks over the laws' own works, among. -/
import Derived.Test.YtcmdglmcmifflaaDoorRgMet
namespace Go.Proofs.YtcmdglmcmifflaaDoor.Rg
open Go.RowKit Go.Joins Gk

/-- elements in a block of their own -/
theorem lies_blk {α : Type} {enc : α → List Value} {w : World} {g : Nat} {cs : Array Value} {T : TypeId} {l : List α} (h : w.heap[g]? = some (.cells cs T (0, 0))) (e : cs.toList = rc enc l) : Lies w enc (some ⟨g, 0, none⟩) l := by
  refine Or.inr ⟨g, 0, rfl, (Array.getElem?_eq_some_iff.1 h).1, fun j u hj => ?_⟩
  rw [Nat.zero_add, cell_of_block h, ← Array.getElem?_toList, e]
  exact hj
theorem may_1 : May [1] := ⟨by simp, by simp, by simp, by simp⟩
theorem may_03 : May [0, 3] := ⟨by simp, by simp, by simp, by simp⟩
theorem may_00 : ¬ May [0, 0] := fun h => by have := h.some; simp at this
theorem owns_1 {h : Int} {c : Nat} (k : Owns [1] h c) : c = 0 := by have := k.weighs.1; simp at this; exact this
theorem owns_03 {h : Int} {c : Nat} (k : Owns [0, 3] h c) : c = 1 := by
  have h1 := k.weighs
  match c, h1 with
  | 0, h1 => simp at h1
  | 1, _ => rfl
  | c + 2, h1 => simp at h1
theorem hash_ne : ¬ hashL [] = hashL [97] := by decide +kernel

set_option maxHeartbeats 3200000 in
set_option maxRecDepth 100000 in
theorem works_any (w : World) (hT : Tab w) : Calls Tryd.prog 7 #[] w fun e w' => e = .returned (.bool true) ∧ Below w.heap.size w w' := by
  have h1 := fun W g c (h : Lies W ienc (some ⟨g, 0, none⟩) [1]) (hT : Tab W) => of_yes (some ⟨g, 0, none⟩) c [1] may_1 ⟨#[107]⟩ (by decide) W h hT
  have h2 := fun W g c (h : Lies W ienc (some ⟨g, 0, none⟩) [0, 3]) (hT : Tab W) => of_yes (some ⟨g, 0, none⟩) c [0, 3] may_03 ⟨#[107]⟩ (by decide) W h hT
  have h3 := fun W g c (h : Lies W ienc (some ⟨g, 0, none⟩) [0, 0]) => check_any (some ⟨g, 0, none⟩) c [0, 0] W h (by simp)
  rw [chk_no may_00] at h3
  have h4 := fun W => hash_any ⟨#[]⟩ W (by decide)
  have h5 := fun W => hash_any ⟨#[97]⟩ W (by decide)
  have hne : (hashL (⟨#[]⟩ : ByteArray).data.toList != hashL (⟨#[97]⟩ : ByteArray).data.toList) = true := by simpa using hash_ne
  generalize hashL (⟨#[]⟩ : ByteArray).data.toList = x at h4 hne
  generalize hashL (⟨#[97]⟩ : ByteArray).data.toList = y at h5 hne
  generalize hashL (⟨#[107]⟩ : ByteArray).data.toList = z at h1 h2
  go_enter Tryd.func7, Tryd.ntmps7
  go_wp2_with fail
  refine (h1 _ w.heap.size 1 (lies_blk (heap_alloc_new w _) rfl) (hT.below (below_alloc1 w _))).mono ?_
  rintro e w1 ⟨⟨c1, hc1, rfl⟩, hb1⟩
  obtain rfl := owns_1 hc1
  have hb1' : Below w.heap.size w w1 := (below_alloc1 w _).trans (hb1.mono (by simp))
  clear h1 hb1 hc1
  go_wp2_with fail
  refine (h2 _ w1.heap.size 2 (lies_blk (heap_alloc_new w1 _) rfl) ((hT.below hb1').below (below_alloc1 w1 _))).mono ?_
  rintro e w2 ⟨⟨c2, hc2, rfl⟩, hb2⟩
  obtain rfl := owns_03 hc2
  have hb2' : Below w.heap.size w w2 := hb1'.trans (((below_alloc1 w1 _).trans (hb2.mono (by simp))).mono hb1'.size)
  clear h2 hb2 hc2 hb1'
  go_wp2_with fail
  refine (h3 _ w2.heap.size 2 (lies_blk (heap_alloc_new w2 _) rfl)).mono ?_
  rintro e w3 ⟨rfl, rfl⟩
  go_wp2_with fail
  refine (h4 _).mono ?_
  rintro e w4 ⟨rfl, rfl⟩
  go_wp2_with fail
  refine (h5 _).mono ?_
  rintro e w5 ⟨rfl, rfl⟩
  go_wp2
  go_ret
  exact ⟨rfl, hb2'.alloc hb2'.size _⟩

end Go.Proofs.YtcmdglmcmifflaaDoor.Rg
