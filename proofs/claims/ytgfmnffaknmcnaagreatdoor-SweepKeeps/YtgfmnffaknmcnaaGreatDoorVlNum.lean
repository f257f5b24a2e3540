/- Walks over vals/file.go and refuse.go: refuseIf, pass, numbersOf, Files. -/
import Derived.Test.YtgfmnffaknmcnaaGreatDoorVlName
import Derived.Test.YtgfmnffaknmcnaaGreatDoorGRow
import Derived.Shelf.Sort.Plain
import Derived.Shelf.Slices.In.SortNone
import Derived.Shelf.Slices.Turned
import Derived.Sort.OwnSortedInts
import Derived.Defers
import Derived.Recover
namespace Go.Proofs.YtgfmnffaknmcnaaGreatDoor
open Go.Shelf
shelf_lay Lays.n189 Nm 189 at Tryz as Tryz.laysSort
shelf_lay Lays.n107 Nm 107 at Tryz as Tryz.laysCont
end Go.Proofs.YtgfmnffaknmcnaaGreatDoor
namespace Go.Proofs.YtgfmnffaknmcnaaGreatDoor.Vl
open Go.RowKit Go.Joins Go.Sort
open Go.Proofs.YtgfmnffaknmcnaaGreatDoor.Dk (Bs Fil Fls St St.Ok Held Rising nms nms_size names_any)

abbrev ErrT : TypeId := 28
/-- a panic with an error -/
abbrev gone (c : Nat) : Ending := .panicked [{ v := .iface ErrT (.int .i64 c), recovered := false }]
set_option maxRecDepth 100000 in
theorem refuse_no (c : Nat) (w : World) : Calls Tryz.prog 36 #[.bool false, .int .i64 c] w fun e w' => e = .returned (.tuple #[]) ∧ w' = w := by
  go_enter Tryz.func36, Tryz.ntmps36
  go_wp2
  go_end0
  exact ⟨rfl, rfl⟩
set_option maxRecDepth 100000 in
theorem refuse_yes (c : Nat) (w : World) : Calls Tryz.prog 36 #[.bool true, .int .i64 c] w fun e w' => e = gone c ∧ w' = w := by
  go_enter Tryz.func36, Tryz.ntmps36
  go_wp2
  exact ⟨rfl, rfl, rfl⟩
set_option maxRecDepth 100000 in
theorem pass_no (w : World) : Calls Tryz.prog 45 #[.int .i64 0] w fun e w' => e = .returned (.tuple #[]) ∧ w' = w := by
  go_enter Tryz.func45, Tryz.ntmps45
  go_wp2
  go_end0
  exact ⟨rfl, rfl⟩
set_option maxRecDepth 100000 in
theorem pass_yes (c : Nat) (hc : c ≠ 0) (w : World) : Calls Tryz.prog 45 #[.int .i64 c] w fun e w' => e = gone c ∧ w' = w := by
  have hb : ((c : Int) == 0) = false := by rw [beq_eq_false_iff_ne]; omega
  go_enter Tryz.func45, Tryz.ntmps45
  go_wp2
  exact ⟨rfl, rfl, rfl⟩

abbrev IntT : TypeId := 3
theorem int_info : (Tryz.prog.info? IntT).map (fun i => (i.zero, i.size, i.bytes)) = some (some (.int .i64 0), 1, 8) := by kernel_rfl
abbrev nE (n : Nat) : List Value := [.int .i64 n]
theorem nE_len (n : Nat) : (nE n).length = 1 := rfl
theorem nE_one (n : Nat) : ∀ u ∈ nE n, u.oneCell' = true := by intro u hu; simp only [nE, List.mem_singleton] at hu; subst hu; rfl
abbrev sE (s : ByteArray) : List Value := [.string s]
theorem sE_len (s : ByteArray) : (sE s).length = 1 := rfl
theorem sE_one (s : ByteArray) : ∀ u ∈ sE s, u.oneCell' = true := by intro u hu; simp only [sE, List.mem_singleton] at hu; subst hu; rfl
theorem sE_rc (l : List ByteArray) : Gk.rc sE l = l.map Value.string := by
  induction l with
  | nil => rfl
  | cons x r ih => rw [Gk.rc_cons, ih]; rfl
theorem nE_rc (l : List Nat) : Gk.rc nE l = l.map fun (n : Nat) => Value.int .i64 (n : Int) := by
  induction l with
  | nil => rfl
  | cons x r ih => rw [Gk.rc_cons, ih]; rfl
theorem sorted_nums {fs ss : List Nat} (hp : fs.Perm ss) (hs : ss.Pairwise (· ≤ ·)) : (fs.map fun (n : Nat) => (n : Int)).mergeSort (fun x y => decide (x ≤ y)) = ss.map fun (n : Nat) => (n : Int) := by
  refine List.Perm.eq_of_pairwise (le := fun (a b : Int) => a ≤ b) (fun a b _ _ h1 h2 => by omega) ?_ ?_ ((List.mergeSort_perm _ _).trans (hp.map _))
  · have := List.pairwise_mergeSort (le := fun (x y : Int) => decide (x ≤ y)) (fun a b c h1 h2 => by simp only [decide_eq_true_eq] at *; omega) (fun a b => by simp only [Bool.or_eq_true, decide_eq_true_eq]; omega) (fs.map fun (n : Nat) => (n : Int))
    exact this.imp fun h => by simpa using h
  · rw [List.pairwise_map]
    exact hs.imp fun h => by omega
/-- the numbers in names -/
def fnd (ks : List ByteArray) : List Nat := ks.filterMap fun k => numF k.data.toList
def nmsL (ks : List ByteArray) : List Nat := numsL (ks.map fun k => k.data.toList)
theorem fnd_perm (ks : List ByteArray) : (fnd ks).Perm (nmsL ks) := by
  have := nums_perm (ks.map fun k => k.data.toList)
  rwa [List.filterMap_map] at this
theorem nmsL_le (ks : List ByteArray) : (nmsL ks).Pairwise (· ≤ ·) := by
  have := List.pairwise_mergeSort (le := fun (x y : Nat) => decide (x ≤ y)) (fun a b c h1 h2 => by simp only [decide_eq_true_eq] at *; omega) (fun a b => by simp only [Bool.or_eq_true, decide_eq_true_eq]; omega) ((ks.map fun k => k.data.toList).filterMap numF)
  exact this.imp fun h => by simpa using h

set_option maxRecDepth 100000 in
set_option maxHeartbeats 3200000 in
theorem numbersOf_any (a : Option Addr) (cap : Nat) (ks : List ByteArray) (w : World) (hL : Gk.Lies w sE a ks) (hlen : ks.length ≤ 64) (hk32 : ∀ s ∈ ks, s.size ≤ 32) (hE : Env w) :
    Calls Tryz.prog 62 #[.slice a ks.length cap] w fun e w' => ∃ v, e = .returned v ∧ w'.ownsRow w.heap.size IntT 1 v (nmsL ks).length (Gk.rc nE (nmsL ks)) ∧ Below w.heap.size w w' := by
  have HS := hide (sorted_nums (fnd_perm ks) (nmsL_le ks))
  have HPL := hide (fnd_perm ks).length_eq
  generalize nmsL ks = ss at *
  go_enter Tryz.func62, Tryz.ntmps62
  go_wp2
  go_loopw [3, 10] (fun v i wr => ∃ k : Nat, k ≤ ks.length ∧ i = .int .i64 k ∧ wr.ownsRow w.heap.size IntT 1 v (fnd (ks.take k)).length (Gk.rc nE (fnd (ks.take k))) ∧ Below w.heap.size w wr) (fun _ i _ => ks.length - (intOf i).toNat)
  case atStart => exact ⟨0, by omega, rfl, by simpa [Gk.rc, fnd] using World.ownsRow_nil w w.heap.size IntT 1, Below.refl _ _⟩
  case round =>
    obtain ⟨k, hk, rfl, hv, hbel⟩ := hrel
    by_cases hlt : k < ks.length
    · obtain ⟨b, off, rfl, hblt, hc⟩ := (hL.below hbel).at sE_len k hlt
      have c0 := hc 0 _ rfl
      rw [Nat.mul_one, Nat.add_zero] at c0
      have hsz := hk32 ks[k] (List.getElem_mem hlt)
      have HT := hide (show fnd (ks.take (k + 1)) = fnd (ks.take k) ++ (numF ks[k].data.toList).toList by
        rw [List.take_succ_eq_append_getElem hlt]
        simp only [fnd, List.filterMap_append, List.filterMap_cons, List.filterMap_nil]
        cases numF ks[k].data.toList <;> rfl)
      have HTL := hide (show (fnd (ks.take k)).length ≤ k from Nat.le_trans (List.length_filterMap_le ..) (List.length_take_le ..))
      generalize ks[k] = s at *
      generalize fnd (ks.take k) = T at *
      have hF := numberOf_any s hsz wr (hE.below hbel)
      have i1 : (0 : Int) ≤ (k : Int) := by omega
      have i2 : (k : Int) < (ks.length : Int) := by omega
      clear hc
      go_wp2_with fail
      refine hF.mono ?_
      rintro e w2 ⟨rfl, hb2⟩
      have hv2 := Gk.own_below hv hb2
      have hbel2 := hbel.trans (hb2.mono hbel.size)
      have hz2 := hbel2.size
      have hg2 := hv2.lt
      clear hF hb2 c0 hv hbel
      cases hn : numF s.data.toList with
      | none =>
        rw [numV_none hn]
        rw [hn] at HT
        clear hn
        go_wp2
        go_roundw
        case rel => exact ⟨k + 1, by omega, by go_num, by rw [HT.out, Option.toList_none, List.append_nil]; exact hv2, hbel2⟩
        case measure => simp [intOf]; omega
      | some n =>
        rw [numV_some hn]
        rw [hn] at HT
        clear hn
        go_wp2_with (at_builtin; refine Gk.wpList_push (enc := nE) (k := 1) rfl (.tmp 20) (.tmp 22) 23 rfl IntT (.int .i64 0) 8 Tryz.underlying23 int_info rfl (by decide) nE_len nE_one w.heap.size _ T rfl (Gk.own_below hv2 (below_alloc1 w2 _)) w2.heap.size n rfl (heap_alloc_new w2 _) ?c1 ?c2 ?c3 ?_)
        case c1 => have := HTL.out; omega
        case c2 => have := HTL.out; omega
        case c3 => simp; omega
        intro v' w3 hv3 hg3 hat3
        have hb3 : Below w.heap.size w w3 := (hbel2.alloc hz2 _).grown hg3 (by simp; omega) (fun k hk => (hg2 k hk).1)
        clear hv2 hbel2 hg3 hat3
        go_wp2
        go_roundw
        case rel => exact ⟨k + 1, by omega, by go_num, by rw [HT.out, Option.toList_some, List.length_append]; exact hv3, hb3⟩
        case measure => simp [intOf]; omega
    · obtain rfl : k = ks.length := by omega
      rw [List.take_length] at hv
      rcases hv.2 with ⟨rfl, h0⟩ | ⟨g, cap2, cur, rfl, hgb, hgc, h1, h2, h3, h4⟩
      · have HSS : Hid (ss = []) := List.eq_nil_of_length_eq_zero (by rw [← HPL.out]; exact h0)
        clear HPL HS hv
        go_wp2_with (first | (go_at_call 103; refine (Any.slices_Sort_int_none Tryz.laysSort none 0 _).mono ?_; rintro e w2 ⟨rfl, rfl⟩))
        go_ret
        rw [HSS.out]
        exact ⟨_, rfl, World.ownsRow_nil _ _ _ _, hbel⟩
      · have hfl : (fnd ks).length ≤ 64 := Nat.le_trans (List.length_filterMap_le ..) hlen
        generalize fnd ks = fs at *
        have hz : (fs.map fun (n : Nat) => (n : Int)).length = fs.length := by simp
        have hh : Holds (Value.int .i64) wr g 0 (fs.map fun (n : Nat) => (n : Int)).toArray := holds_of_blockI hgc (by
          rw [hz, ← Nat.mul_one fs.length, h4, nE_rc, List.map_map]; rfl)
        have hS := Any.slices_Sort_int Tryz.laysSort g 0 cap2 (fs.map fun (n : Nat) => (n : Int)) wr hh (Array.getElem?_eq_some_iff.1 hgc).1 (by rw [hz]; omega)
        rw [hz, HS.out] at hS
        go_wp2_with fail
        refine hS.mono ?_
        rintro e w2 ⟨rfl, n, os, rfl⟩
        have hr2 := ownsRow_sortedI (n := n) (os := os) (base := w.heap.size) (ss := fs.map fun (n : Nat) => (n : Int)) (ts := ss.map fun (n : Nat) => (n : Int)) (by rw [List.length_map, List.length_map]; exact HPL.out.symm) hgb hgc (by rw [hz]; exact h1) h2 h3
        have hg2 := grownBy_sortedI (w := wr) (g := g) (n := n) (os := os) (ss.map fun (n : Nat) => (n : Int)).toArray
        generalize grow (putRow (Value.int .i64) (Sort.ahead wr n) g 0 (ss.map fun (n : Nat) => (n : Int)).toArray) os = w3 at *
        rw [hz] at hr2
        go_wp2
        go_ret
        refine ⟨_, rfl, ?_, hbel.grown hg2 hbel.size fun k e => by cases e; exact hgb⟩
        rw [← HPL.out, nE_rc]
        rw [List.map_map] at hr2
        exact hr2

end Go.Proofs.YtgfmnffaknmcnaaGreatDoor.Vl
