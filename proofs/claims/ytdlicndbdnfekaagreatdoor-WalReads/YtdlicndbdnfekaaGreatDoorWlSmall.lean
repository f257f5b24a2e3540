/- Walks over wal.go: First, Next, Sync, Segments. -/
import Derived.Test.YtdlicndbdnfekaaGreatDoorWlApp
namespace Go.Proofs.YtdlicndbdnfekaaGreatDoor.Wl
open Go.RowKit Go.Joins
open Go.Proofs.YtdlicndbdnfekaaGreatDoor.Dk (Bs Fil Fls St St.Ok Held Only)

theorem two_new (w : World) (o1 o2 : Obj) : ((w.alloc o1).alloc o2).heap[w.heap.size + 1]? = some o2 := by
  have := heap_alloc_new (w.alloc o1) o2
  rwa [show (w.alloc o1).heap.size = w.heap.size + 1 by simp] at this
def fst : List Sm → Nat → Nat
  | [], nx => nx
  | p :: _, _ => p.1
set_option maxRecDepth 100000 in
set_option maxHeartbeats 1600000 in
theorem First_any {bw bd most : Nat} {v : Value} {ss : List Sm} {nx : Nat} (w : World) (h : WH w bw bd most v ss nx) :
    Calls Tryz.prog 15 #[.pointer (some ⟨bw, 0, none⟩)] w fun e w' => e = .returned (.int .i64 (fst ss nx)) ∧ w = w' := by
  have c2 := h.c2
  have c3 := h.c3
  cases ss with
  | nil =>
    obtain ⟨a, c, rfl⟩ := h.row.slice
    clear h
    simp only [List.length_nil] at c2
    go_enter Tryz.func15, Tryz.ntmps15
    go_wp2
    go_ret
    exact ⟨rfl, rfl⟩
  | cons p r =>
    obtain ⟨g, o, c, hv, -⟩ := h.row.form (by simp)
    rw [hv] at c2 h
    have x0 := (h.row.shape.at 0 (by simp)).1
    simp only [Nat.zero_mul, Nat.add_zero, List.getElem_cons_zero] at x0
    obtain ⟨K, hK⟩ : ∃ K, K = (p :: r).length := ⟨_, rfl⟩
    rw [← hK] at c2
    have i1 : 0 < K := by rw [hK]; simp
    have i2 : ((K : Int) == 0) = false := by rw [beq_eq_false_iff_ne]; omega
    clear h hK hv
    go_enter Tryz.func15, Tryz.ntmps15
    go_wp2
    go_ret
    exact ⟨rfl, rfl⟩
set_option maxRecDepth 100000 in
theorem Next_any {bw bd most : Nat} {v : Value} {ss : List Sm} {nx : Nat} (w : World) (h : WH w bw bd most v ss nx) :
    Calls Tryz.prog 9 #[.pointer (some ⟨bw, 0, none⟩)] w fun e w' => e = .returned (.int .i64 nx) ∧ w = w' := by
  have c3 := h.c3
  go_enter Tryz.func9, Tryz.ntmps9
  go_wp2
  go_ret
  exact ⟨rfl, rfl⟩
set_option maxRecDepth 100000 in
theorem Sync_any {own : Nat → Prop} {bw bd most : Nat} {S : St} {v : Value} {ss : List Sm} {nx : Nat} (w : World) (h : Both w own bd bw most S v ss nx) :
    Calls Tryz.prog 10 #[.pointer (some ⟨bw, 0, none⟩)] w fun e w' => e = .returned (.int .i64 S.sync.1) ∧ ∃ own', Both w' own' bd bw most S.sync.2 v ss nx ∧ (∀ b, own' b → own b ∨ w.heap.size ≤ b) ∧ Only (plus own w.heap.size) w w' := by
  have c0 := h.log.c0
  have hS := Dk.sync_any w h.disk.open
  go_enter Tryz.func10, Tryz.ntmps10
  go_wp2_with fail
  refine hS.mono ?_
  rintro e w' ⟨rfl, hH, hO⟩
  go_wp2
  go_ret
  exact ⟨rfl, _, h.disked hH hO, fun b hb => hb.1, hO⟩

set_option maxRecDepth 100000 in
set_option maxHeartbeats 3200000 in
theorem Segments_any {bw bd most : Nat} {v : Value} {ss : List Sm} {nx : Nat} (w : World) (h : WH w bw bd most v ss nx) (hn : ss.length ≤ 1000) :
    Calls Tryz.prog 16 #[.pointer (some ⟨bw, 0, none⟩)] w fun e w' => ∃ u, e = .returned u ∧ w'.ownsRow w.heap.size IntT 1 u ss.length (nums (ss.map (·.1))) ∧ Below w.heap.size w w' := by
  have c2 := h.c2
  obtain ⟨a, c, hv⟩ := h.row.slice
  rw [hv] at c2
  have HR := hide h.row
  rw [hv] at HR
  clear h hv
  go_enter Tryz.func16, Tryz.ntmps16
  go_wp2
  go_loopw [3, 11] (fun u i wr => ∃ k : Nat, k ≤ ss.length ∧ i = .int .i64 k ∧ wr.ownsRow w.heap.size IntT 1 u ((ss.take k).map (·.1)).length (Gk.rc nE ((ss.take k).map (·.1))) ∧ Below w.heap.size w wr) (fun _ i _ => ss.length - (intOf i).toNat)
  case atStart => exact ⟨0, by omega, rfl, by simpa [Gk.rc] using World.ownsRow_nil w w.heap.size IntT 1, Below.refl _ _⟩
  case round =>
    obtain ⟨k, hk, rfl, hu, hb⟩ := hrel
    by_cases hlt : k < ss.length
    · obtain ⟨g, o, cc, e, hsc⟩ := HR.out.form (by intro h; rw [h] at hlt; simp at hlt)
      cases e
      obtain ⟨x0, x1, -, -⟩ := hsc.at k hlt
      have hgl := hsc.lt
      replace x0 := (hb.cell (p := ⟨g, o * 2 + k * 2, none⟩) hgl).trans x0
      replace x1 := (hb.cell (p := ⟨g, o * 2 + k * 2 + 1, none⟩) hgl).trans x1
      have HT : Hid ((ss.take (k + 1)).map (·.1) = (ss.take k).map (·.1) ++ [ss[k].1]) := by
        show _ = _
        rw [List.take_succ_eq_append_getElem hlt, List.map_append]; rfl
      have HTL := hide (show ((ss.take k).map (·.1)).length = k by rw [List.length_map, List.length_take]; omega)
      generalize ss[k] = x at *
      generalize (ss.take k).map (·.1) = T at *
      have i1 : (0 : Int) ≤ (k : Int) := by omega
      have i2 : (k : Int) < (ss.length : Int) := by omega
      have hz := hb.size
      have hg2 := hu.lt
      go_wp2_with (at_builtin; refine Gk.wpList_push (enc := nE) (k := 1) rfl (.tmp 15) (.tmp 18) 36 rfl IntT (.int .i64 0) 8 Tryz.underlying36 int_info rfl (by decide) nE_len nE_one w.heap.size _ T rfl (Gk.own_below hu (below_alloc2 wr _ _)) (wr.heap.size + 1) x.1 rfl (two_new wr _ _) ?c1 ?c2 ?c3 ?_)
      case c1 => have := HTL.out; omega
      case c2 => have := HTL.out; omega
      case c3 => simp; omega
      intro v' w3 hv3 hg3 hat3
      have hb3 : Below w.heap.size w w3 := ((hb.alloc hz _).alloc (by simp; omega) _).grown hg3 (by simp; omega) (fun k hk => (hg2 k hk).1)
      clear hu hb x0 x1 hg3 hat3
      go_wp2
      go_roundw
      case rel => exact ⟨k + 1, by omega, by go_num, by rw [HT.out, List.length_append]; exact hv3, hb3⟩
      case measure => simp [intOf]; omega
    · obtain rfl : k = ss.length := by omega
      rw [List.take_length] at hu
      go_wp2
      go_ret
      refine ⟨_, rfl, ?_, hb⟩
      rw [nums_rc, List.length_map] at hu
      exact hu

end Go.Proofs.YtdlicndbdnfekaaGreatDoor.Wl
