/- Walks over segment.go: firstsOn. -/
import Derived.Test.YtdlicndbdnfekaaGreatDoorWlName
import Derived.Test.YtdlicndbdnfekaaGreatDoorWlSt
import Derived.Test.YtdlicndbdnfekaaGreatDoorGRow
import Derived.Shelf.Sort.Plain
import Derived.Shelf.Slices.In.SortNone
import Derived.Sort.OwnSortedInts
namespace Go.Proofs.YtdlicndbdnfekaaGreatDoor
open Go.Shelf
shelf_lay Lays.n189 Nm 189 at Tryz as Tryz.laysSort
end Go.Proofs.YtdlicndbdnfekaaGreatDoor
namespace Go.Proofs.YtdlicndbdnfekaaGreatDoor.Wl
open Go.RowKit Go.Joins Go.Sort
open Go.Proofs.YtdlicndbdnfekaaGreatDoor.Dk (Bs Fil Fls St St.Ok Held Rising nms nms_size names_any)

abbrev IntT : TypeId := 3
theorem int_info : (Tryz.prog.info? IntT).map (fun i => (i.zero, i.size, i.bytes)) = some (some (.int .i64 0), 1, 8) := by kernel_rfl
abbrev nE (n : Nat) : List Value := [.int .i64 n]
theorem nE_len (n : Nat) : (nE n).length = 1 := rfl
theorem nE_one (n : Nat) : ∀ u ∈ nE n, u.oneCell' = true := by intro u hu; simp only [nE, List.mem_singleton] at hu; subst hu; rfl
def nums (l : List Nat) : List Value := l.map fun (n : Nat) => Value.int .i64 (n : Int)
theorem nums_rc (l : List Nat) : Gk.rc nE l = nums l := by
  induction l with
  | nil => rfl
  | cons x r ih => rw [Gk.rc_cons, ih]; rfl
theorem names_held {own : Nat → Prop} {bd : Nat} {S : St} (w : World) (h : Held w own bd S) (fs : List Nat) (hn : S.files.map (·.1) = fs.map nm) :
    Calls Tryz.prog 51 #[.pointer (some ⟨bd, 0, none⟩)] w fun e w' => ∃ v, e = .returned v ∧ w'.ownsRow w.heap.size 9 1 v fs.length (fs.map fun n => .string (nt n)) ∧ Below w.heap.size w w' := by
  obtain ⟨bm, l, hL, hfl, hok⟩ := h
  have hm : l.length ≤ 64 := by have := hok.many; rw [hfl, List.length_map] at this; exact this
  have := names_any w hL.base hm (fun p hp => (hok.each (p.1, p.2.2) (by rw [hfl]; exact List.mem_map.2 ⟨p, hp, rfl⟩)).1)
  have e : nms l = fs.map nt := by
    have h1 : l.map (·.1) = fs.map nm := by rw [← hn, hfl, List.map_map]; rfl
    have h2 : nms l = (l.map (·.1)).map fun k => (⟨k.toArray⟩ : ByteArray) := by rw [List.map_map]; rfl
    rw [h2, h1, List.map_map]; rfl
  rw [e] at this
  refine this.mono ?_
  rintro e w' ⟨v, rfl, h1, h2⟩
  refine ⟨v, rfl, ?_, h2⟩
  rw [List.length_map, Dk.tcells, List.map_map] at h1
  exact h1
theorem sorted_nums {fs ss : List Nat} (hp : fs.Perm ss) (hs : ss.Pairwise (· < ·)) : (fs.map fun (n : Nat) => (n : Int)).mergeSort (fun x y => decide (x ≤ y)) = ss.map fun (n : Nat) => (n : Int) := by
  refine List.Perm.eq_of_pairwise (le := fun (a b : Int) => a ≤ b) (fun a b _ _ h1 h2 => by omega) ?_ ?_ ((List.mergeSort_perm _ _).trans (hp.map _))
  · have := List.pairwise_mergeSort (le := fun (x y : Int) => decide (x ≤ y)) (fun a b c h1 h2 => by simp only [decide_eq_true_eq] at *; omega) (fun a b => by simp only [Bool.or_eq_true, decide_eq_true_eq]; omega) (fs.map fun (n : Nat) => (n : Int))
    exact this.imp fun h => by simpa using h
  · rw [List.pairwise_map]
    exact hs.imp fun h => by omega

set_option maxRecDepth 100000 in
set_option maxHeartbeats 3200000 in
theorem firstsOn_any {own : Nat → Prop} {bd : Nat} {S : St} (w : World) (h : Held w own bd S) (hT : Tab w) (fs ss : List Nat) (hn : S.files.map (·.1) = fs.map nm) (hr : ∀ n ∈ fs, 1 ≤ n ∧ n ≤ 1048576) (hp : fs.Perm ss) (hs : ss.Pairwise (· < ·)) :
    Calls Tryz.prog 34 #[.pointer (some ⟨bd, 0, none⟩)] w fun e w' => ∃ v, e = .returned v ∧ w'.ownsRow w.heap.size IntT 1 v ss.length (nums ss) ∧ Below w.heap.size w w' := by
  have hN := names_held w h fs hn
  have hlen : fs.length ≤ 64 := by
    have h1 := h.ok.many
    have h2 := congrArg List.length hn
    simp only [List.length_map] at h2
    omega
  have HS := hide (sorted_nums hp hs)
  have HPL := hide hp.length_eq
  clear h hn hp hs
  go_enter Tryz.func34, Tryz.ntmps34
  go_wp2_with fail
  refine hN.mono ?_
  rintro e w1 ⟨v, rfl, hown, hb1⟩
  obtain ⟨a, cap, rfl⟩ := Dk.own_slice hown
  clear hN
  go_wp2
  go_loopw [3, 11] (fun v i wr => ∃ k : Nat, k ≤ fs.length ∧ i = .int .i64 k ∧ wr.ownsRow w.heap.size 9 1 (.slice a fs.length cap) fs.length (fs.map fun n => .string (nt n)) ∧ wr.ownsRow w.heap.size IntT 1 v (fs.take k).length (Gk.rc nE (fs.take k)) ∧ (∀ g, v.ownBlock = some g → ∀ g', (Value.slice a fs.length cap).ownBlock = some g' → g ≠ g') ∧ Below w.heap.size w wr) (fun _ i _ => fs.length - (intOf i).toNat)
  case atStart => exact ⟨0, by omega, rfl, hown, by simpa [Gk.rc] using World.ownsRow_nil w1 w.heap.size IntT 1, fun g hg => by simp [Value.ownBlock] at hg, hb1⟩
  case round =>
    obtain ⟨k, hk, rfl, ho, hv, hne, hbel⟩ := hrel
    by_cases hlt : k < fs.length
    · obtain ⟨g, cap', e⟩ := ownsRow_form ho (by omega)
      cases e
      have hcell : wr.cell? ⟨g, k, none⟩ = some (.string (nt fs[k])) := by rw [ho.cellAt _ (by omega)]; simp [List.getElem?_eq_getElem hlt]
      have hnr := hr fs[k] (List.getElem_mem hlt)
      have HT := hide (List.take_succ_eq_append_getElem hlt)
      have HTL := hide (show (fs.take k).length = k by rw [List.length_take]; omega)
      generalize fs[k] = n at *
      generalize fs.take k = T at *
      have hF := firstOf_any n hnr.1 hnr.2 wr (hT.below hbel)
      have i1 : (0 : Int) ≤ (k : Int) := by omega
      have i2 : (k : Int) < (fs.length : Int) := by omega
      go_wp2_with fail
      refine hF.mono ?_
      rintro e w2 ⟨rfl, hb2⟩
      have ho2 := Dk.own_keepF hb2 ho
      have hv2 := Gk.own_below hv hb2
      have hbel2 := hbel.trans (hb2.mono hbel.size)
      have hz2 := hbel2.size
      have hg2 := hv2.lt
      clear hF hb2
      go_wp2_with (at_builtin; refine Gk.wpList_push (enc := nE) (k := 1) rfl (.tmp 21) (.tmp 23) 36 rfl IntT (.int .i64 0) 8 Tryz.underlying36 int_info rfl (by decide) nE_len nE_one w.heap.size _ T rfl (Gk.own_below hv2 (below_alloc1 w2 _)) w2.heap.size n rfl (heap_alloc_new w2 _) ?c1 ?c2 ?c3 ?_)
      case c1 => have := HTL.out; omega
      case c2 => have := HTL.out; omega
      case c3 => simp; omega
      intro v' w3 hv3 hg3 hat3
      have ho3 : w3.ownsRow w.heap.size 9 1 (.slice (some ⟨g, 0, none⟩) fs.length cap) fs.length (fs.map fun n => .string (nt n)) := Gk.own_stay (Gk.own_below ho2 (below_alloc1 w2 _)) fun g' hg' => hg3.block g' (by have := (ho2.lt g' hg').2; simp; omega) fun e => by exact hne g' e.symm g' hg' rfl
      have hb3 : Below w.heap.size w w3 := (hbel2.alloc hz2 _).grown hg3 (by simp; omega) (fun k hk => (hg2 k hk).1)
      have hne3 : ∀ g1, v'.ownBlock = some g1 → ∀ g', (Value.slice (some ⟨g, 0, none⟩) fs.length cap).ownBlock = some g' → g1 ≠ g' := fun g1 h1 g' h2 => by
        rcases hat3 g1 h1 with h3 | h3
        · exact hne g1 h3 g' h2
        · have := (ho2.lt g' h2).2; first | omega | (simp at h3; omega)
      clear ho2 hv2 hbel2 hg3 hat3 ho hv hbel hcell
      go_wp2
      go_roundw
      case rel => exact ⟨k + 1, by omega, by go_num, ho3, by rw [HT.out, List.length_append]; exact hv3, hne3, hb3⟩
      case measure => simp [intOf]; omega
    · obtain rfl : k = fs.length := by omega
      rw [List.take_length] at hv
      rcases hv.2 with ⟨rfl, h0⟩ | ⟨g, cap2, cur, rfl, hgb, hgc, h1, h2, h3, h4⟩
      · have hfs : fs = [] := List.eq_nil_of_length_eq_zero h0
        subst hfs
        have hss : ss = [] := List.eq_nil_of_length_eq_zero (by rw [← HPL.out]; rfl)
        subst hss
        clear HPL HS
        go_wp2_with (first | (go_at_call 53; refine (Any.slices_Sort_int_none Tryz.laysSort none 0 _).mono ?_; rintro e w2 ⟨rfl, rfl⟩))
        go_ret
        exact ⟨_, rfl, World.ownsRow_nil _ _ _ _, hbel⟩
      · have hz : (fs.map fun (n : Nat) => (n : Int)).length = fs.length := by simp
        have hh : Holds (Value.int .i64) wr g 0 (fs.map fun (n : Nat) => (n : Int)).toArray := holds_of_blockI hgc (by
          rw [hz, ← Nat.mul_one fs.length, h4, nums_rc, List.map_map]; rfl)
        have hS := Any.slices_Sort_int Tryz.laysSort g 0 cap2 (fs.map fun (n : Nat) => (n : Int)) wr hh (Array.getElem?_eq_some_iff.1 hgc).1 (by rw [hz]; omega)
        rw [hz, HS.out] at hS
        go_wp2_with fail
        refine hS.mono ?_
        rintro e w2 ⟨rfl, n, os, rfl⟩
        have hr2 := ownsRow_sortedI (n := n) (os := os) (base := w.heap.size) (ss := fs.map fun (n : Nat) => (n : Int)) (ts := ss.map fun (n : Nat) => (n : Int)) (by rw [List.length_map, List.length_map]; exact HPL.out.symm) hgb hgc (by rw [hz]; exact h1) h2 h3
        have hg2 := grownBy_sortedI (w := wr) (g := g) (n := n) (os := os) (ss.map fun (n : Nat) => (n : Int)).toArray
        generalize grow (putRow (Value.int .i64) (Sort.ahead wr n) g 0 (ss.map fun (n : Nat) => (n : Int)).toArray) os = w3 at *
        rw [hz] at hr2
        go_wp2
        go_ret
        refine ⟨_, rfl, ?_, hbel.grown hg2 hbel.size fun k e => by cases e; exact hgb⟩
        rw [← HPL.out]
        rw [List.map_map] at hr2
        exact hr2

end Go.Proofs.YtdlicndbdnfekaaGreatDoor.Wl
