/- Walks over rule.go: byPlace; the ends sorted by it. -/
import Derived.Test.YtolgpdjimfodkaaSpEnds
import Derived.Shelf.SlSortCmp.WholeK
import Derived.Shelf.SlSortCmp.NoneTotal
import Derived.Shelf.Small.Strs
import Derived.Shelf.Lay
import Derived.Shelf.SlGeneric
import Derived.Ground.SlsfProg
import Derived.Ground.NamesProg
namespace Go.Proofs.Ytolgpdjimfodkaa
open Go.Shelf
shelf_lay_g SlLaysF0.n6 Slsf 6 at Try 43 as Try.sortEn
shelf_lay Lays.n106 Nm 106 at Try as Try.cmpStr
end Go.Proofs.Ytolgpdjimfodkaa
namespace Go.Proofs.Ytolgpdjimfodkaa.Sp
open Go.RowKit Go.Joins Gk

def cmpE (x y : En) : Int := Lib.compareBytes x.pl.data.toList y.pl.data.toList
theorem cmp_neg : ∀ (a b : List UInt8), decide (Lib.compareBytes a b < 0) = bytesBefore a b
  | [], [] => rfl
  | [], _ :: _ => rfl
  | _ :: _, [] => rfl
  | a :: r, b :: t => by
    simp only [Lib.compareBytes, bytesBefore]
    by_cases h : a < b
    · simp [h]
    · by_cases h' : b < a
      · have : a ≠ b := fun e => by subst e; exact h h'
        simp [h, h', this]
      · have e : a = b := UInt8.le_antisymm (UInt8.not_lt.1 h') (UInt8.not_lt.1 h)
        subst e
        simp only [h, if_false]
        rw [cmp_neg r t]; simp
theorem cmp_zero : ∀ (a b : List UInt8), (Lib.compareBytes a b = 0) ↔ a = b
  | [], [] => by simp [Lib.compareBytes]
  | [], _ :: _ => by simp [Lib.compareBytes]
  | _ :: _, [] => by simp [Lib.compareBytes]
  | a :: r, b :: t => by
    simp only [Lib.compareBytes]
    by_cases h : a < b
    · have : a ≠ b := fun e => by subst e; exact absurd h (by simp)
      simp [h, this]
    · by_cases h' : b < a
      · have : a ≠ b := fun e => by subst e; exact h h'
        simp [h, h', this]
      · have e : a = b := UInt8.le_antisymm (UInt8.not_lt.1 h') (UInt8.not_lt.1 h)
        subst e
        simp only [h, if_false]
        rw [cmp_zero r t]; simp
theorem lt_b4 (x y : En) : ltOf cmpE x y = B4 x.pl y.pl := cmp_neg _ _
theorem cmpE_zero (x y : En) : cmpE x y = 0 ↔ x.pl = y.pl := by
  rw [cmpE, cmp_zero]
  exact ⟨fun h => ba_ext h, fun h => by rw [h]⟩
theorem swo : Go.Sort.SWO (ltOf cmpE) where
  irrefl x := by rw [lt_b4]; exact B4.irr _
  trans x y z h1 h2 := by rw [lt_b4] at *; exact B4.tr h1 h2
  ntrans x y z h1 h2 := by rw [lt_b4] at *; exact B4.le_tr h2 h1
theorem cmpE_range (x y : En) : -1 ≤ cmpE x y ∧ cmpE x y ≤ 1 := by
  unfold cmpE
  generalize x.pl.data.toList = a
  generalize y.pl.data.toList = b
  induction a generalizing b with
  | nil => cases b <;> simp [Lib.compareBytes]
  | cons c r ih =>
    cases b with
    | nil => simp [Lib.compareBytes]
    | cons d t =>
      simp only [Lib.compareBytes]
      split
      · omega
      · split
        · omega
        · exact ih t

theorem compare_any (a b : ByteArray) (w : World) : Calls Try.prog 46 #[.string a, .string b] w fun e w' => e = .returned (.int .i64 (Lib.compareBytes a.data.toList b.data.toList)) ∧ w' = w :=
  Go.Proofs.Any.strings_Compare Try.cmpStr a b w

set_option maxHeartbeats 1000000 in
theorem byPlace_any (x y : En) (W : World) : Calls Try.prog 35 #[nval x, nval y] W fun e w' => e = .returned (.int .i64 (cmpE x y)) ∧ ∃ q os', w' = Go.Sort.grow (W.drewN q) os' := by
  have hcon := fun W' => compare_any x.pl y.pl W'
  rw [show Lib.compareBytes x.pl.data.toList y.pl.data.toList = cmpE x y from rfl] at hcon
  generalize cmpE x y = r at hcon ⊢
  go_enter Try.func35, Try.ntmps35
  go_wp2_with (go_at_call 46; refine (hcon _).mono ?_; rintro e w' ⟨rfl, rfl⟩)
  go_ret
  exact ⟨rfl, 0, _, by rw [Go.Sort.alloc_eq_grow, Go.Sort.alloc_eq_grow, Go.Sort.grow_grow]; rfl⟩

theorem enters_byPlace : ∀ args w, (callFunc 35 args).run Try.prog w = .ok (.enter 35 args) w := enters_of Try.func35 (by kernel_rfl) rfl

theorem cmpLays (blk off size : Nat) (w : World) : Go.Proofs.CmpLays Try.prog 35 #[] nenc 3 cmpE blk off size w :=
  fun _ _ _ _ x y => byPlace_any x y _

theorem isAgg_en (w : World) : (isAgg EnT).run Try.prog w = .ok true w := Try.isAgg58 w
theorem size_en (w : World) : (Go.sizeOf EnT).run Try.prog w = .ok 3 w := Try.sizeOf58 w

/-- a row's cells, as the sort has them -/
theorem flat_cell (d : Array En) (i j : Nat) (hi : i < d.size) (hj : j < 3) : (Go.Sort.flatK nenc 3 d)[i * 3 + j]! = (nenc d[i]!)[j]! := by
  rw [Go.Sort.get_flatK _ _ _ _ (by omega), show (i * 3 + j) / 3 = i by omega, show (i * 3 + j) % 3 = j by omega]
theorem lies_of_holds {w : World} {g : Nat} {E : List En} (hg : g < w.heap.size) (h : Go.Sort.HoldsK nenc 3 w g 0 E.toArray) : Lies w nenc (some ⟨g, 0, none⟩) E := by
  refine Or.inr ⟨g, 0, rfl, hg, fun t u ht => ?_⟩
  have htl : t < E.length * 3 := by have := (List.getElem?_eq_some_iff.1 ht).1; rwa [rc_length nenc_len] at this
  have hi : t / 3 < E.length := by omega
  have hj : t % 3 < 3 := by omega
  have e : t = t / 3 * 3 + t % 3 := by omega
  have h1 := (h t (by simpa using htl)).1
  rw [h1]
  rw [e, rc_at nenc_len E _ hi _ hj] at ht
  have h2 := flat_cell E.toArray (t / 3) (t % 3) (by simpa using hi) hj
  rw [← e] at h2
  rw [h2]
  have h3 : E.toArray[t / 3]! = E[t / 3] := by simp [hi]
  rw [h3, ← ht]
  have h4 : t % 3 < (nenc E[t / 3]).length := hj
  simp [h4]
theorem holds_of_own {w : World} {B g n cap : Nat} {E : List En} (h : w.ownsRow B EnT 3 (.slice (some ⟨g, 0, none⟩) n cap) E.length (rc nenc E)) : Go.Sort.HoldsK nenc 3 w g 0 E.toArray := by
  intro t ht
  have htl : t < E.length * 3 := by simpa using ht
  have hi : t / 3 < E.length := by omega
  have hj : t % 3 < 3 := by omega
  have e : t = t / 3 * 3 + t % 3 := by omega
  have h2 := flat_cell E.toArray (t / 3) (t % 3) (by simpa using hi) hj
  rw [← e] at h2
  have h3 : E.toArray[t / 3]! = E[t / 3] := by simp [hi]
  rw [h3] at h2
  rcases h.2 with ⟨h0, _⟩ | ⟨g', cap', cur, e1, _, hg, k1, k2, k3, k4⟩
  · cases h0
  · cases e1
    rw [Nat.zero_add]
    refine ⟨?_, unfrozen_of_block hg t⟩
    rw [cell_of_block hg, h2]
    have h5 := rc_at nenc_len E _ hi _ hj
    rw [← e, ← k4, List.getElem?_take, if_pos (by omega), Array.getElem?_toList] at h5
    rw [h5]
    have h4 : t % 3 < (nenc E[t / 3]).length := hj
    simp [h4]
theorem below_sortWorld {B g n : Nat} {d : Array En} {os : Array Obj} (w : World) (hg : B ≤ g) (hB : B ≤ w.heap.size) : Below B w (Go.Proofs.sortWorldK nenc 3 w g 0 n d os) := by
  refine ⟨rfl, rfl, rfl, by simp [Go.Proofs.sortWorldK, Go.Sort.putRowK, Go.Sort.ahead], fun k hk => ?_⟩
  unfold Go.Proofs.sortWorldK
  rw [Go.Sort.heap_grow_old _ _ (by simp [Go.Sort.putRowK, Go.Sort.ahead]; omega)]
  simp only [Go.Sort.putRowK, Go.Sort.putRow, Go.Sort.mapBlock, Go.Sort.ahead, Array.getElem?_modify]
  rw [if_neg (by omega)]

set_option maxHeartbeats 1000000 in
theorem sort_any {B : Nat} {v : Value} {E : List En} (w : World) (h : w.ownsRow B EnT 3 v E.length (rc nenc E)) (hB : B ≤ w.heap.size) (hn : E.length ≤ 1000000) :
    Calls Try.prog 43 #[v, .func (.func 35) #[] #[]] w fun e w' => e = .returned (.tuple #[]) ∧ ∃ E' a cap, v = .slice a E'.length cap ∧ E'.Perm E ∧ Sorted E' ∧ Lies w' nenc a E' ∧ Below B w w' ∧ w.heap.size ≤ w'.heap.size := by
  by_cases h0 : E = []
  · subst h0
    obtain ⟨a, cap, rfl⟩ := own_slice h
    refine (Go.Proofs.AnyF.slices_SortFunc_none Try.sortEn a cap _ w).mono ?_
    rintro e w' ⟨rfl, rfl⟩
    exact ⟨rfl, [], a, cap, rfl, List.Perm.refl _, List.Pairwise.nil, Or.inl rfl, Below.refl _ _, Nat.le_refl _⟩
  · obtain ⟨g, cap, cur, rfl, hg, _⟩ := own_form h (List.length_pos_iff.2 h0)
    have hgB : B ≤ g := (h.lt g rfl).1
    have hlt : g < w.heap.size := (h.lt g rfl).2
    have hH := holds_of_own h
    have hc := Go.Proofs.AnyQ.slices_SortFunc Try.sortEn 3 isAgg_en size_en nenc nenc_len nenc_one cmpE swo 35 #[] g 0 cap E.toArray w enters_byPlace (cmpLays g 0 _ w) hH hlt (by simp; omega)
    simp only [List.size_toArray] at hc
    refine hc.mono ?_
    rintro e w' ⟨rfl, d', n, os, hp, hs, rfl⟩
    have hsz : d'.size = E.length := by simpa using hp.1
    have hperm : d'.toList.Perm E := by
      have := hp.2.2
      rwa [show d'.extract 0 E.length = d' by rw [← hsz]; simp, show E.toArray.extract 0 E.length = E.toArray by simp] at this
    refine ⟨rfl, d'.toList, some ⟨g, 0, none⟩, cap, by rw [show d'.toList.length = E.length from hsz], hperm, ?_, ?_, below_sortWorld w hgB hB, (below_sortWorld w hgB hB).size⟩
    · refine List.pairwise_iff_getElem.2 fun i j hi hj hij => ?_
      have hi : i < d'.size := hi
      have hj : j < d'.size := hj
      have := hs i j (Nat.zero_le _) hij (by omega)
      rw [lt_b4, getElem!_pos d' i hi, getElem!_pos d' j hj] at this
      simpa using this
    · refine lies_of_holds (by simp [Go.Proofs.sortWorldK, Go.Sort.putRowK, Go.Sort.ahead]; omega) ?_
      have := Go.Proofs.holdsK_sortWorldK nenc 3 w g 0 n E.toArray d' os hlt hH (by simpa using hsz)
      simpa using this

end Go.Proofs.Ytolgpdjimfodkaa.Sp
