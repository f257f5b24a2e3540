/- Walks over skylarkref03: New. -/
import Derived.Test.YtmdpkkipjdpopaaRtDrops
namespace Go.Proofs.Ytmdpkkipjdpopaa.Nk
open Go.RowKit Go.Joins Gk
attribute [local go_sem ↓] Go.wp_at_zero Go.wp_at_succ

theorem bools_info : (Try.prog.info? BoolsT).map (fun i => (i.zero, i.size, i.bytes)) = some (some (.slice none 0 0), 1, 24) := by kernel_rfl
theorem bool_info : (Try.prog.info? BoolT).map (fun i => (i.zero, i.size, i.bytes)) = some (some (.bool false), 1, 1) := by kernel_rfl
theorem genc_one (n g : Nat) : ∀ u ∈ genc n g, u.oneCell' = true := by
  intro u hu
  simp only [genc, List.mem_singleton] at hu
  subst hu; rfl
def noCut (n : Nat) : Array Value := (List.replicate n (Value.bool false)).toArray
theorem noCut_row (n i : Nat) : cutRow ⟨n, 0, [], []⟩ i = noCut n := by
  have : ∀ j, (⟨n, 0, [], []⟩ : Nst).parted i j = false := fun j => rfl
  simp only [cutRow, noCut, this]
  congr 1
  rw [List.map_const', List.length_range]
theorem made_noCut (n : Nat) : madeCells (Value.bool false).cells n = noCut n := by
  apply Array.ext'
  apply List.ext_getElem
  · simp [madeCells, noCut]
  · intro i h1 h2
    have e : (Value.bool false).cells = #[.bool false] := rfl
    simp [madeCells, noCut, e, Nat.mod_one]

theorem rnew_bad (n : Int) (w : World) (h : n < 1 ∨ 16 < n) :
    Calls Try.prog 9 #[.int .i64 n] w fun e w' => e = .returned (.tuple #[.pointer none, .int .i64 1]) ∧ w' = w := by
  rcases h with h | h
  · go_enter Try.func9, Try.ntmps9
    go_wp2
    go_ret2
    exact ⟨rfl, rfl⟩
  · have h' : ¬ n < 1 := by omega
    go_enter Try.func9, Try.ntmps9
    go_wp2
    go_ret2
    exact ⟨rfl, rfl⟩

/-- while the table is made -/
structure Making (w : World) (br n k : Nat) (u : Value) (gs : List Nat) (B : Nat) : Prop where
  block : w.heap[br]? = some (.cells #[.int .i64 n, .slice none 0 0, .int .i64 0, u] RNetT (0, 0))
  crow : Row w (genc n) BoolsT 1 u gs
  glen : gs.length = k
  gnod : gs.Nodup
  cut : ∀ g ∈ gs, w.heap[g]? = some (.cells (noCut n) BoolT (0, 0))
  upG : ∀ g ∈ gs, B ≤ g
  upU : ∀ g, u.ownBlock = some g → B ≤ g

/-- a row more -/
theorem Making.more {wr w4 w5 : World} {br n k B : Nat} {u v5 : Value} {gs : List Nat} (HM : Making wr br n k u gs B) (hB : B ≤ br) (hX : Below wr.heap.size wr w4)
    (hbn : w4.heap[wr.heap.size]? = some (.cells (noCut n) BoolT (0, 0))) (hrow : Row w5 (genc n) BoolsT 1 v5 (gs ++ [wr.heap.size])) (hg : w4.grownBy w5 u.ownBlock)
    (hat : ∀ g, v5.ownBlock = some g → u.ownBlock = some g ∨ w4.heap.size ≤ g) :
    Making (w5.setCell ⟨br, 3, none⟩ v5) br n (k + 1) v5 (gs ++ [wr.heap.size]) B ∧ Below B wr (w5.setCell ⟨br, 3, none⟩ v5) := by
  have hbrl := (Array.getElem?_eq_some_iff.1 HM.block).1
  have hne : ∀ (b : Nat) (cs : Array Value) (t : TypeId), w4.heap[b]? = some (.cells cs t (0, 0)) → t ≠ BoolsT → w5.heap[b]? = w4.heap[b]? := fun b cs t hc ht =>
    hg.block b (Array.getElem?_eq_some_iff.1 hc).1 fun e => own_ne (HM.crow.below hX) hc ht e.symm rfl
  have hbk : w5.heap[br]? = _ := (hne br _ _ ((hX.block br hbrl).trans HM.block) (by decide)).trans ((hX.block br hbrl).trans HM.block)
  have hns : ∀ (b : Nat) (cs : Array Value) (t : TypeId), w5.heap[b]? = some (.cells cs t (0, 0)) → t ≠ RNetT → (w5.setCell ⟨br, 3, none⟩ v5).heap[b]? = w5.heap[b]? := fun b cs t hc ht => Below.heap_setCell w5 _ _ b fun e => by
    cases e; rw [hbk] at hc; cases hc; exact ht rfl
  have hold : ∀ g ∈ gs, g < wr.heap.size := fun g hg => (Array.getElem?_eq_some_iff.1 (HM.cut g hg)).1
  have hcut : ∀ g ∈ gs ++ [wr.heap.size], w4.heap[g]? = some (.cells (noCut n) BoolT (0, 0)) := fun g hg => by
    rcases List.mem_append.1 hg with hg | hg
    · exact (hX.block g (hold g hg)).trans (HM.cut g hg)
    · rw [List.mem_singleton.1 hg]; exact hbn
  refine ⟨⟨by rw [block_setCell hbk]; rfl, hrow.stay fun g hg => let ⟨_, hc⟩ := row_block hrow hg; hns _ _ _ hc (by decide), by rw [List.length_append, HM.glen]; rfl, ?_, ?_, ?_, ?_⟩, ?_⟩
  · rw [List.nodup_append]
    refine ⟨HM.gnod, by simp, fun a ha b hb e => ?_⟩
    have := hold a ha
    rw [List.mem_singleton.1 hb] at e
    omega
  · intro g hg
    have h5 := (hne g _ _ (hcut g hg) (by decide)).trans (hcut g hg)
    exact (hns g _ _ h5 (by decide)).trans h5
  · intro g hg
    rcases List.mem_append.1 hg with hg | hg
    · exact HM.upG g hg
    · rw [List.mem_singleton.1 hg]; omega
  · intro g hg
    rcases hat g hg with h | h
    · exact HM.upU g h
    · have := hX.size; omega
  · have hw : Below B wr w4 := hX.mono (by omega)
    have hB4 : B ≤ w4.heap.size := by have := hX.size; omega
    have h5 : Below B wr w5 := hw.trans ((Only.of_grown (own := fun b => B ≤ b) hg fun g e => HM.upU g e).below hB4 fun _ hb => hb)
    exact h5.trans ((Only.of_set (own := fun b => B ≤ b) w5 (a := ⟨br, 3, none⟩) hB v5).below (by have := h5.size; omega) fun _ hb => hb)

set_option maxHeartbeats 3200000 in
set_option maxRecDepth 100000 in
theorem rnew_ok (n : Nat) (w : World) (h1 : 1 ≤ n) (h2 : n ≤ 16) (own : Nat → Prop) (ho : ∀ b, w.heap.size ≤ b → own b) :
    Calls Try.prog 9 #[.int .i64 n] w fun e w' => ∃ br, e = .returned (.tuple #[.pointer (some ⟨br, 0, none⟩), .int .i64 0]) ∧ RNHeld w' own br ⟨n, 0, [], []⟩ ∧ Below w.heap.size w w' := by
  have i1 : (1 : Int) ≤ (n : Int) := by omega
  have i2 : (n : Int) ≤ (16 : Int) := by omega
  obtain ⟨i0, hi, hz0, hz1, hz2⟩ := info_parts bool_info
  have hmk : ∀ W : World, (Instr.makeSlice 67 (.int .i64 (n : Int)) (.int .i64 (n : Int))).run Try.prog W = .ok (.slice (some ⟨W.heap.size, 0, none⟩) n n) (W.alloc (.cells (noCut n) BoolT)) := fun W => by
    have h := run_make (P := Try.prog) W 67 BoolT i0 (.bool false) Try.underlying67 hi hz0 .i64 .i64 (n : Int) (n : Int) (by omega) (by omega) (by rw [hz2]; omega) (by omega)
    rw [hz1] at h
    simpa [made_noCut] using h
  clear hi hz0 hz1 hz2
  obtain ⟨br, hbr⟩ : ∃ br, br = w.heap.size := ⟨_, rfl⟩
  have HBR := hide hbr
  go_enter Try.func9, Try.ntmps9
  go_wp2
  rw [← hbr]
  clear hbr
  go_loopw [5] (fun i wr => ∃ (k : Nat) (u : Value) (gs : List Nat), k ≤ n ∧ i = .int .i64 k ∧ Hid (Making wr br n k u gs w.heap.size) ∧ Below w.heap.size w wr) (fun i _ => n - (intOf i).toNat)
  case atStart =>
    refine ⟨0, .slice none 0 0, [], by omega, rfl, ⟨by rw [HBR.out]; exact heap_alloc_new w _, Row.nil _ _, rfl, by simp, by simp, by simp, fun g hg => by simp [Value.ownBlock] at hg⟩, below_alloc1 _ _⟩
  case round =>
    obtain ⟨k, u, gs, hk, rfl, HM, hbel⟩ := hrel
    by_cases hlt : k < n
    · have j1 : (k : Int) < (n : Int) := by omega
      obtain ⟨au, cu, rfl⟩ := HM.out.crow.slice
      have c3 : wr.cell? ⟨br, 3, none⟩ = some (.slice au gs.length cu) := by rw [cell_of_block HM.out.block]; rfl
      have hbrl := (Array.getElem?_eq_some_iff.1 HM.out.block).1
      have n1 : br ≠ wr.heap.size := by omega
      have n2 : br ≠ wr.heap.size + 1 := by omega
      have hgl : gs.length ≤ 16 := by rw [HM.out.glen]; omega
      have HX := hide (show Below wr.heap.size wr ((wr.drew.alloc (.cells (noCut n) BoolT)).alloc (.cells (genc n wr.heap.size).toArray BoolsT)) from ((Below.refl _ _).drew.alloc (Nat.le_refl _) _).alloc (by simp) _)
      have HBX := hide (show ((wr.drew.alloc (.cells (noCut n) BoolT)).alloc (.cells (genc n wr.heap.size).toArray BoolsT)).heap[wr.heap.size + 1]? = some (.cells (genc n wr.heap.size).toArray BoolsT (0, 0)) by
        have := heap_alloc_new (wr.drew.alloc (.cells (noCut n) BoolT)) (.cells (genc n wr.heap.size).toArray BoolsT)
        simpa using this)
      have HBN := hide (show ((wr.drew.alloc (.cells (noCut n) BoolT)).alloc (.cells (genc n wr.heap.size).toArray BoolsT)).heap[wr.heap.size]? = some (.cells (noCut n) BoolT (0, 0)) from
        ((below_alloc1 (wr.drew.alloc (.cells (noCut n) BoolT)) _).block wr.heap.size (by simp)).trans (heap_alloc_new wr.drew _))
      go_wp2_with fail
      go_region_law (first | (refine step_push (enc := genc n) (k := 1) (by rfl) (.tmp 24) (.tmp 27) 64 (by rfl) BoolsT (.slice none 0 0) 24 Try.underlying64 bools_info rfl (by decide) (genc_len n) (genc_one n) (.slice au gs.length cu) gs (by rfl) (HM.out.crow.below HX.out) (wr.heap.size + 1) wr.heap.size (by rfl) HBX.out (by omega) (by omega) ?_; intro ad5 cap5 w5 hrow5 hg5 hat5; have hne5 : ∀ (b : Nat) (cs : Array Value) (t : TypeId), ((wr.drew.alloc (.cells (noCut n) BoolT)).alloc (.cells (genc n wr.heap.size).toArray BoolsT)).heap[b]? = some (.cells cs t (0, 0)) → t ≠ BoolsT → w5.heap[b]? = ((wr.drew.alloc (.cells (noCut n) BoolT)).alloc (.cells (genc n wr.heap.size).toArray BoolsT)).heap[b]? := fun b cs t hc ht => hg5.block b (Array.getElem?_eq_some_iff.1 hc).1 fun e => own_ne (HM.out.crow.below HX.out) hc ht e.symm rfl; have hbk5 := hide ((hne5 br _ _ ((HX.out.block br hbrl).trans HM.out.block) (by decide)).trans ((HX.out.block br hbrl).trans HM.out.block)); have k5 : w5.cell? ⟨br, 3, none⟩ = some (.slice au gs.length cu) := cell_of_block hbk5.out 3; have z5 := unfrozen_of_block hbk5.out 3))
      all_goals (
        obtain ⟨hm6, hb6⟩ := HM.out.more (by rw [HBR.out]; exact Nat.le_refl _) HX.out HBN.out hrow5 hg5 hat5
        have HM6 := hide hm6
        have HB6 := hide hb6
        clear hm6 hb6 hrow5 hg5 hat5 hne5 hbk5 k5 z5)
      all_goals go_wp2
      all_goals (
        go_roundw
        · exact ⟨k + 1, _, _, by omega, by rfl, HM6, hbel.trans HB6.out⟩
        · simp only [intOf]; omega)
    · have j1 : ¬ (k : Int) < (n : Int) := by omega
      obtain rfl : k = n := by omega
      have HM' := hide HM.out
      clear HM
      go_wp2
      go_ret2
      refine ⟨br, rfl, ⟨.slice none 0 0, u, gs, ⟨HM'.out.block, Row.nil _ _, HM'.out.crow, HM'.out.glen, HM'.out.gnod, fun i hi => by rw [noCut_row]; exact HM'.out.cut _ (List.getElem_mem hi), ho br (by rw [HBR.out]; exact Nat.le_refl _), fun g hg => by simp [Value.ownBlock] at hg, fun g hg => ho g (HM'.out.upU g hg), fun g hg => ho g (HM'.out.upG g hg)⟩⟩, hbel⟩

end Go.Proofs.Ytmdpkkipjdpopaa.Nk
