/- Walks over disk.go: rising, Names. -/
import Derived.Test.YtokcknfbanpjjaaDName
import Derived.Test.YtokcknfbanpjjaaIter
namespace Go.Proofs.Ytokcknfbanpjjaa.Dk
open Go.RowKit Go.Maps Go.Joins Go.Sort Go.Shelf

/-- the names, as texts -/
def nms (l : List (Bs × Ent)) : List ByteArray := l.map fun p => ⟨p.1.toArray⟩

set_option maxHeartbeats 1000000 in
theorem rising_any {own : Nat → Prop} {bd bm room : Nat} {l : List (Bs × Ent)} {fuse : Int} {down : Bool} (w : World) (h : Base w own bd bm room l fuse down) (hn : l.length ≤ 64) :
    Calls Try.prog 42 #[.pointer (some ⟨bd, 0, none⟩)] w fun e w' => ∃ v, e = .returned v ∧ w'.ownsRow w.heap.size 9 1 v (nms l).length (tcells (nms l)) ∧ Below w.heap.size w w' := by
  have c1 := h.c1
  have hown := h.map
  have hmax : Maps.size (DD l) ≤ maxLen := by rw [DD_size]; unfold maxLen; omega
  have hbytes : Maps.size (DD l) * 16 ≤ 140737488355328 := by rw [DD_size]; omega
  refine (callsIn_wide (n := 6)).1 ?_
  have hfK : Fence.wide.fn 50 := trivial
  have hfS : Fence.wide.fn 49 := trivial
  refine callsIn_of_wp Try.func42 rfl trivial ?_ rfl
  simp only [Try.ntmps42, List.size_toArray, List.length_cons, List.length_nil, Nat.reduceAdd, Nat.reduceSub, Array.replicate_succ, Array.replicate_zero, List.push_toArray, List.append_toArray, List.nil_append, List.cons_append]
  gi_wp2_with (first
    | (gi_at_call 50; refine (Try.maps_Keys_50 _ _).mono ?_; rintro e w' ⟨rfl, rfl⟩)
    | (gi_at_call 49; refine (Try.slices_Sorted_keys_49_50 bm l.length (DD l) RV w hown hmax hbytes).mono ?_; rintro e w' ⟨v, ss, rfl, hS, hrow, hnil, hb⟩))
  go_ret
  have hperm := hS.length_eq
  rw [DD_keys, List.length_map] at hperm
  have hms := mergeSort_of_perm hS
  rw [DD_keys, keys_sorted h.rising] at hms
  have e1 : (ss.mergeSort (fun x y => decide (x ≤ y))).map encStr = tcells (nms l) := by
    show (ss.mergeSort leB).map encStr = _
    rw [hms, tcells, nms, List.map_map, List.map_map]; rfl
  rw [e1] at hrow
  rw [hperm] at hrow
  refine ⟨v, rfl, ?_, ((Below.refl _ w).alloc (Nat.le_refl _) _).trans (hb.mono (by simp))⟩
  have : (nms l).length = l.length := by simp [nms]
  rw [this]
  exact own_mono hrow (by simp)

end Go.Proofs.Ytokcknfbanpjjaa.Dk
