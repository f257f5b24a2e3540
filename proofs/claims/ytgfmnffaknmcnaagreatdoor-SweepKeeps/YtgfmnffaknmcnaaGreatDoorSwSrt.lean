/- Layer 12: places sorted; in order, each once. -/
import Derived.Test.YtgfmnffaknmcnaaGreatDoorSwCpt
import Derived.Shelf.SlSortCmp.WholeK
import Derived.Shelf.SlSortCmp.NoneTotal
import Derived.Shelf.Lay
import Derived.Shelf.SlGeneric
import Derived.Ground.SlsfProg
namespace Go.Proofs.YtgfmnffaknmcnaaGreatDoor
open Go.Shelf
shelf_lay_g SlLaysF0.n6 Slsf 6 at Tryz 94 as Tryz.sortPl
end Go.Proofs.YtgfmnffaknmcnaaGreatDoor
namespace Go.Proofs.YtgfmnffaknmcnaaGreatDoor.Sw
open Go.RowKit Go.Joins Go.Sort Gk

theorem cf_lt {x y : Pc} : ltOf cf x y = true ↔ B4 x y := by
  unfold ltOf cf orV cz B4
  rw [decide_eq_true_eq]
  (repeat' split) <;> omega
theorem cf_swo : SWO (ltOf cf) where
  irrefl x := by rw [Bool.eq_false_iff]; intro h; exact B4.irr _ (cf_lt.1 h)
  trans x y z h k := cf_lt.2 ((cf_lt.1 h).tr (cf_lt.1 k))
  ntrans x y z h k := by
    rw [Bool.eq_false_iff] at h k ⊢
    intro m
    have m := cf_lt.1 m
    have h' : ¬ B4 x y := fun q => h (cf_lt.2 q)
    have k' : ¬ B4 y z := fun q => k (cf_lt.2 q)
    unfold B4 at *
    omega


set_option maxRecDepth 100000 in
theorem enters_compare : ∀ args w, (callFunc 95 args).run Tryz.prog w = .ok (.enter 95 args) w := enters_of Tryz.func95 (by kernel_rfl) rfl
set_option maxRecDepth 100000 in
theorem cmpLays (blk off size : Nat) (w : World) : Go.Proofs.CmpLays Tryz.prog 95 #[] penc 3 cf blk off size w :=
  fun _ _ _ _ x y => compare_any x y _
set_option maxRecDepth 100000 in
theorem isAgg_p (w : World) : (isAgg PT).run Tryz.prog w = .ok true w := Tryz.isAgg110 w
set_option maxRecDepth 100000 in
theorem size_p (w : World) : (Go.sizeOf PT).run Tryz.prog w = .ok 3 w := Tryz.sizeOf110 w
theorem flat_cell (d : Array Pc) (i j : Nat) (hi : i < d.size) (hj : j < 3) : (Go.Sort.flatK penc 3 d)[i * 3 + j]! = (penc d[i]!)[j]! := by
  rw [Go.Sort.get_flatK _ _ _ _ (by omega), show (i * 3 + j) / 3 = i by omega, show (i * 3 + j) % 3 = j by omega]
theorem holds_cell {w : World} {g : Nat} {E : List Pc} (h : Go.Sort.HoldsK penc 3 w g 0 E.toArray) (t : Nat) (u : Value) (ht : (rc penc E)[t]? = some u) : w.cell? ⟨g, t, none⟩ = some u := by
  have htl : t < E.length * 3 := by have := (List.getElem?_eq_some_iff.1 ht).1; rwa [rc_length penc_len] at this
  have hi : t / 3 < E.length := by omega
  have hj : t % 3 < 3 := by omega
  have e : t = t / 3 * 3 + t % 3 := by omega
  have h1 := (h t (by simpa using htl)).1
  rw [Nat.zero_add] at h1
  rw [h1]
  rw [e, rc_at penc_len E _ hi _ hj] at ht
  have h2 := flat_cell E.toArray (t / 3) (t % 3) (by simpa using hi) hj
  rw [← e] at h2
  rw [h2]
  have h3 : E.toArray[t / 3]! = E[t / 3] := by simp [hi]
  rw [h3, ← ht]
  have h4 : t % 3 < (penc E[t / 3]).length := hj
  simp [h4]
theorem holds_of_own {w : World} {B g n cap : Nat} {E : List Pc} (h : w.ownsRow B PT 3 (.slice (some ⟨g, 0, none⟩) n cap) E.length (rc penc E)) : Go.Sort.HoldsK penc 3 w g 0 E.toArray := by
  intro t ht
  have htl : t < E.length * 3 := by simpa using ht
  have hi : t / 3 < E.length := by omega
  have hj : t % 3 < 3 := by omega
  have e : t = t / 3 * 3 + t % 3 := by omega
  have h2 := flat_cell E.toArray (t / 3) (t % 3) (by simpa using hi) hj
  rw [← e] at h2
  have h3 : E.toArray[t / 3]! = E[t / 3] := by simp [hi]
  rw [h3] at h2
  rcases h.2 with ⟨h0, _⟩ | ⟨g', cap', cur, e1, _, hg, k1, k2, k3, k4⟩
  · cases h0
  · cases e1
    rw [Nat.zero_add]
    refine ⟨?_, unfrozen_of_block hg t⟩
    rw [cell_of_block hg, h2]
    have h5 := rc_at penc_len E _ hi _ hj
    rw [← e, ← k4, List.getElem?_take, if_pos (by omega), Array.getElem?_toList] at h5
    rw [h5]
    have h4 : t % 3 < (penc E[t / 3]).length := hj
    simp [h4]
theorem below_sortWorld {B g n : Nat} {d : Array Pc} {os : Array Obj} (w : World) (hg : B ≤ g) (hB : B ≤ w.heap.size) : Below B w (Go.Proofs.sortWorldK penc 3 w g 0 n d os) := by
  refine ⟨rfl, rfl, rfl, by simp [Go.Proofs.sortWorldK, Go.Sort.putRowK, Go.Sort.ahead], fun k hk => ?_⟩
  unfold Go.Proofs.sortWorldK
  rw [Go.Sort.heap_grow_old _ _ (by simp [Go.Sort.putRowK, Go.Sort.ahead]; omega)]
  simp only [Go.Sort.putRowK, Go.Sort.putRow, Go.Sort.mapBlock, Go.Sort.ahead, Array.getElem?_modify]
  rw [if_neg (by omega)]
set_option maxRecDepth 100000 in
theorem block_sortWorld {g n : Nat} {d : Array Pc} {os : Array Obj} {w : World} {cur : Array Value} (hg : w.heap[g]? = some (.cells cur PT (0, 0))) : ∃ cur', cur'.size = cur.size ∧ (Go.Proofs.sortWorldK penc 3 w g 0 n d os).heap[g]? = some (.cells cur' PT (0, 0)) := by
  have hlt := (Array.getElem?_eq_some_iff.1 hg).1
  refine ⟨Go.Sort.putCells id 0 (Go.Sort.flatK penc 3 d) cur, by simp [Go.Sort.putCells], ?_⟩
  unfold Go.Proofs.sortWorldK
  rw [Go.Sort.heap_grow_old _ _ (by simp [Go.Sort.putRowK, Go.Sort.ahead]; omega)]
  simp only [Go.Sort.putRowK, Go.Sort.putRow, Go.Sort.mapBlock, Go.Sort.ahead, Array.getElem?_modify, if_true, hg, Option.map_some, Go.Sort.onCells]

set_option maxHeartbeats 1000000 in
set_option maxRecDepth 100000 in
theorem sort_any {B : Nat} {v : Value} {E : List Pc} (w : World) (h : w.ownsRow B PT 3 v E.length (rc penc E)) (hB : B ≤ w.heap.size) (hn : E.length ≤ 1000000) :
    Calls Tryz.prog 94 #[v, .func (.func 95) #[] #[]] w fun e w' => e = .returned (.tuple #[]) ∧ ∃ E', E'.Perm E ∧ (E'.Pairwise fun a b => ¬ B4 b a) ∧ w'.ownsRow B PT 3 v E'.length (rc penc E') ∧ Below B w w' := by
  by_cases h0 : E = []
  · subst h0
    obtain ⟨a, cap, rfl⟩ := own_slice h
    refine (Go.Proofs.AnyF.slices_SortFunc_none Tryz.sortPl a cap _ w).mono ?_
    rintro e w' ⟨rfl, rfl⟩
    exact ⟨rfl, [], List.Perm.refl _, List.Pairwise.nil, h, Below.refl _ _⟩
  · obtain ⟨g, cap, cur, rfl, hg, k1, k2, k3, k4⟩ := own_form h (List.length_pos_iff.2 h0)
    have hgB : B ≤ g := (h.lt g rfl).1
    have hlt : g < w.heap.size := (h.lt g rfl).2
    have hH := holds_of_own h
    have hc := Go.Proofs.AnyQ.slices_SortFunc Tryz.sortPl 3 isAgg_p size_p penc penc_len penc_one cf cf_swo 95 #[] g 0 cap E.toArray w enters_compare (cmpLays g 0 _ w) hH hlt (by simp; omega)
    simp only [List.size_toArray] at hc
    refine hc.mono ?_
    rintro e w' ⟨rfl, d', n, os, hp, hs, rfl⟩
    have hsz : d'.size = E.length := by simpa using hp.1
    have hperm : d'.toList.Perm E := by
      have := hp.2.2
      rwa [show d'.extract 0 E.length = d' by rw [← hsz]; simp, show E.toArray.extract 0 E.length = E.toArray by simp] at this
    have hdl : d'.toList.length = E.length := hsz
    refine ⟨rfl, d'.toList, hperm, ?_, ?_, below_sortWorld w hgB hB⟩
    · refine List.pairwise_iff_getElem.2 fun i j hi hj hij => ?_
      have hi : i < d'.size := hi
      have hj : j < d'.size := hj
      have := hs i j (Nat.zero_le _) hij (by omega)
      rw [getElem!_pos d' i hi, getElem!_pos d' j hj] at this
      intro hb
      rw [cf_lt.2 (by simpa using hb)] at this
      cases this
    · obtain ⟨cur', hcs, hg'⟩ := block_sortWorld (n := n) (d := d') (os := os) hg
      have hH' : Go.Sort.HoldsK penc 3 (Go.Proofs.sortWorldK penc 3 w g 0 n d' os) g 0 d'.toList.toArray := by
        have := Go.Proofs.holdsK_sortWorldK penc 3 w g 0 n E.toArray d' os hlt hH (by simpa using hsz)
        simpa using this
      refine ⟨rc_length penc_len _, Or.inr ⟨g, cap, cur', by rw [hdl], hgB, hg', by omega, k2, by omega, ?_⟩⟩
      refine List.ext_getElem? fun t => ?_
      rw [List.getElem?_take]
      split
      · rename_i ht
        obtain ⟨u, hu⟩ : ∃ u, (rc penc d'.toList)[t]? = some u := ⟨_, List.getElem?_eq_getElem (by rw [rc_length penc_len]; exact ht)⟩
        rw [hu, ← holds_cell hH' t u hu, cell_of_block hg']
        simp
      · rename_i ht
        exact (List.getElem?_eq_none (by rw [rc_length penc_len]; omega)).symm

end Go.Proofs.YtgfmnffaknmcnaaGreatDoor.Sw
