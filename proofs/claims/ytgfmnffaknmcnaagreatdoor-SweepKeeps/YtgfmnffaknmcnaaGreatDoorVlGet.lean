/- The walk over vals: Get. -/
import Derived.Test.YtgfmnffaknmcnaaGreatDoorVlEnd
import Derived.Test.YtgfmnffaknmcnaaGreatDoorVlCat
namespace Go.Proofs.YtgfmnffaknmcnaaGreatDoor.Vl
open Go.RowKit Go.Joins
open Go.Proofs.YtgfmnffaknmcnaaGreatDoor.Dk (Bs Fil Fls St St.Ok Held Only Rising named getL getL_some)

theorem makeFunc_run (fn : Fn) (first cap : Array Value) (w : World) : (Instr.makeFunc fn first cap).run Tryz.prog w = .ok (.func fn first cap) w := rfl
/-- what Get answers of a file that is there -/
def getR (D : ByteArray) (at_ long : Int) : ByteArray × Nat := if (unframe D at_).2.2.2 = 0 ∧ ((unframe D at_).1.size : Int) = long then ((unframe D at_).1, 0) else (⟨#[]⟩, 110)
abbrev getV (r : ByteArray × Nat) : Value := .tuple #[.string r.1, .int .i64 r.2]
/-- the place's cells are there -/
abbrev GS (bp : Nat) (z at_ : Int) (w W : World) : Prop := (W.cell? ⟨bp, 0, none⟩ = some (.int .i64 z) ∧ W.cell? ⟨bp, 1, none⟩ = some (.int .i64 at_)) ∧ Hid (bp < W.heap.size ∧ Below w.heap.size w W)
theorem GS.drew {bp : Nat} {z at_ : Int} {w W : World} (h : GS bp z at_ w W) : GS bp z at_ w W.drew := ⟨h.1, h.2.out.1, h.2.out.2.drew⟩
theorem GS.call {bp : Nat} {z at_ : Int} {w W W' : World} (hb : Below W.heap.size W W') (h : GS bp z at_ w W) : GS bp z at_ w W' :=
  ⟨⟨(hb.cell (p := ⟨bp, 0, none⟩) h.2.out.1).trans h.1.1, (hb.cell (p := ⟨bp, 1, none⟩) h.2.out.1).trans h.1.2⟩, Nat.lt_of_lt_of_le h.2.out.1 hb.size, h.2.out.2.trans (hb.mono h.2.out.2.size)⟩
theorem GS.alloc {bp : Nat} {z at_ : Int} {w W : World} (h : GS bp z at_ w W) (o : Obj) : GS bp z at_ w (W.alloc o) := GS.call (below_alloc1 W o) h
theorem GS.sets {bp blk : Nat} {z at_ : Int} {w W : World} (h : GS bp z at_ w W) (hw : bp < w.heap.size) (hk : w.heap.size ≤ blk) (x y : Value) : GS bp z at_ w ((W.setCell ⟨blk, 0, none⟩ x).setCell ⟨blk, 1, none⟩ y) := by
  have hne : ∀ k, k < w.heap.size → ((W.setCell ⟨blk, 0, none⟩ x).setCell ⟨blk, 1, none⟩ y).heap[k]? = W.heap[k]? := fun k hk2 => (Below.heap_setCell _ _ _ k (by show k ≠ blk; omega)).trans (Below.heap_setCell _ _ _ k (by show k ≠ blk; omega))
  have hb := h.2.out.2
  refine ⟨⟨(World.cell?_of_block (a := ⟨bp, 0, none⟩) (hne bp hw)).trans h.1.1, (World.cell?_of_block (a := ⟨bp, 1, none⟩) (hne bp hw)).trans h.1.2⟩, by simpa using h.2.out.1, hb.os, hb.tape, hb.output, by simpa using hb.size, fun k hk2 => (hne k hk2).trans (hb.block k hk2)⟩
theorem GS.name {bp : Nat} {z at_ : Int} {w W : World} (_ : GS bp z at_ w W) : ∃ W4, W4 = W := ⟨_, rfl⟩
theorem set_one {w W : World} {b : Nat} {x : Value} (hb : Below w.heap.size w W) (hlt : w.heap.size ≤ b) (h : W.heap[b]? = some (.cells #[x] ErrT (0, 0))) (y : Value) : Below w.heap.size w (W.setCell ⟨b, 0, none⟩ y) ∧ (W.setCell ⟨b, 0, none⟩ y).heap[b]? = some (.cells #[y] ErrT (0, 0)) :=
  ⟨⟨hb.os, hb.tape, hb.output, by simpa using hb.size, fun k hk => (Below.heap_setCell _ _ _ k (by show k ≠ b; omega)).trans (hb.block k hk)⟩, by rw [block_setCell h]; rfl⟩
theorem cell_one {W : World} {b : Nat} {y : Value} (h : W.heap[b]? = some (.cells #[y] ErrT (0, 0))) : W.cell? ⟨b, 0, none⟩ = some y := cell_of_block h 0
theorem keepBlk {W W' : World} {k : Nat} {o : Obj} (hb : Below W.heap.size W W') (h : W.heap[k]? = some o) : W'.heap[k]? = some o := (hb.block k (Array.getElem?_eq_some_iff.1 h).1).trans h
theorem GS.bel {bp : Nat} {z at_ : Int} {w W : World} (h : GS bp z at_ w W) : Below w.heap.size w W := h.2.out.2
section
variable {w0 w w' : World} {own : Nat → Prop} {bd bv most top : Nat} {S : St}
set_option maxRecDepth 100000 in
set_option maxHeartbeats 3200000 in
theorem Get_any (h : VH w0 w own bd bv most top S) {n : Nat} (hn : n ∈ nums S) (at_ long : Int) (a1 : -9223372036854775808 ≤ at_) (a2 : at_ ≤ 9223372036854775807) :
    Calls Tryz.prog 31 #[.pointer (some ⟨bv, 0, none⟩), .agg #[.int .i64 n, .int .i64 at_, .int .i64 long]] w fun e w' => e = .returned (getV (getR ⟨(dat S n).toArray⟩ at_ long)) ∧ Below w.heap.size w w' := by
  have hmf := makeFunc_run
  have hb := nums_bound hn
  have hdl := dat_le h.ok (show n ≤ 1048577 by omega)
  have hds : (ByteArray.mk (dat S n).toArray).size = (dat S n).length := by show Array.size _ = _; simp
  have hrd : ∀ W, Below w.heap.size w W → _ := fun W hb2 => read_yes (h.below hb2) hn
  have hun := fun W => Unframe_any ⟨(dat S n).toArray⟩ at_ W (by omega) a1 a2
  obtain ⟨R, HR⟩ : ∃ R, Hid (R = getR ⟨(dat S n).toArray⟩ at_ long) := ⟨_, rfl⟩
  rw [← HR.out]
  unfold getR at HR
  unfold unframeV at hun
  generalize (ByteArray.mk (dat S n).toArray) = D at *
  generalize unframe D at_ = U at *
  obtain ⟨ub, un, up, uc⟩ := U
  simp only at HR hun
  clear h hn hds hdl hb
  go_enter_defers Tryz.func31, Tryz.ntmps31
  go_wp2
  obtain ⟨w1, hw1⟩ : ∃ w1, w1 = (w.alloc (.cells #[.int .i64 n, .int .i64 at_, .int .i64 long] PlT)).alloc (.cells #[.int .i64 0] ErrT) := ⟨_, rfl⟩
  have hb1 : Below w.heap.size w w1 := by rw [hw1]; exact ((Below.refl _ _).alloc (Nat.le_refl _) _).alloc (by simp) _
  have hz1 : w1.heap.size = w.heap.size + 2 := by rw [hw1]; simp
  have hp0 : w1.cell? ⟨w.heap.size, 0, none⟩ = some (.int .i64 n) := by rw [hw1]; simp
  have hp1 : w1.cell? ⟨w.heap.size, 1, none⟩ = some (.int .i64 at_) := by rw [hw1]; simp
  have HP2 : Hid (w1.cell? ⟨w.heap.size, 2, none⟩ = some (.int .i64 long)) := by show _ = _; rw [hw1]; simp
  have HEC : Hid (w1.cell? ⟨w.heap.size + 1, 0, none⟩ = some (.int .i64 0) ∧ w1.frozen? ⟨w.heap.size + 1, 0, none⟩ = false) := by show _ ∧ _; rw [hw1]; simp
  have HEB1 : Hid (w1.heap[w.heap.size + 1]? = some (.cells #[.int .i64 0] ErrT (0, 0))) := by
    show _ = _
    rw [hw1, show w.heap.size + 1 = (w.alloc (.cells #[.int .i64 n, .int .i64 at_, .int .i64 long] PlT)).heap.size by simp]
    exact heap_alloc_new _ _
  rw [← hw1]
  have hGS : GS w.heap.size n at_ w1 w1 := ⟨⟨hp0, hp1⟩, by omega, Below.refl _ _⟩
  have hrd1 : ∀ W, Below w1.heap.size w1 W → _ := fun W hb2 => hrd W (hb1.trans (hb2.mono hb1.size))
  have HB1 := hide hb1
  have HZ1 := hide hz1
  have HZ2 : Hid (w.heap.size < w1.heap.size) := by show _ < _; omega
  clear hw1 hb1 hrd hz1
  go_region_held3 (GS w.heap.size n at_ w1) (first | with_reducible exact GS.drew (by assumption) | with_reducible exact GS.call (by assumption) (by assumption) | with_reducible exact GS.alloc (by assumption) _ | with_reducible assumption | with_reducible exact GS.drew (GS.alloc hGS _) | with_reducible exact GS.alloc (Hid.out hG3) _ | with_reducible exact GS.sets (Hid.out hG3) HZ2.out HS2.out _ _ | with_reducible exact GS.sets (Hid.out hG3) HZ2.out (Nat.le_refl _) _ _)
    (first | (go_at_call 68; refine (hrd1 _ (GS.bel (by assumption))).mono ?_; rintro e w2 ⟨rfl, hb2⟩; have HS2 : Hid (w1.heap.size ≤ w2.heap.size) := (GS.bel (GS.call hb2 (by assumption))).size; try (have HK2 : Hid (w2.heap[w1.heap.size]? = some (.cells #[.int .i64 0, .int .i64 0] 133 (0, 0))) := keepBlk hb2 (heap_alloc_new _ _))) | (go_at_call 75; refine (hun _).mono ?_; rintro e w3 ⟨rfl, hb3⟩; have hG3 : Hid (GS w.heap.size n at_ w1 w3) := GS.call hb3 (by assumption); (first | (have HK3 : Hid (w3.heap[w1.heap.size]? = some (.cells #[.int .i64 0, .int .i64 0] 133 (0, 0))) := keepBlk hb3 HK2.out; have q0 : w3.cell? ⟨w1.heap.size, 0, none⟩ = some (.int .i64 0) := cell_of_block HK3.out 0; have q1 : w3.cell? ⟨w1.heap.size, 1, none⟩ = some (.int .i64 0) := cell_of_block HK3.out 1; have z0 := unfrozen_of_block HK3.out 0; have z1 := unfrozen_of_block HK3.out 1) | (have HK3 : Hid (w3.heap[w2.heap.size]? = some (.cells #[.int .i64 0, .int .i64 0] 133 (0, 0))) := keepBlk hb3 (heap_alloc_new _ _); have q0 : w3.cell? ⟨w2.heap.size, 0, none⟩ = some (.int .i64 0) := cell_of_block HK3.out 0; have q1 : w3.cell? ⟨w2.heap.size, 1, none⟩ = some (.int .i64 0) := cell_of_block HK3.out 1; have z0 := unfrozen_of_block HK3.out 0; have z1 := unfrozen_of_block HK3.out 1) | skip)))
  all_goals
    rename_i hHeld
    obtain ⟨W4, hW4⟩ := GS.name hHeld
    have HBL : Hid (Below w1.heap.size w1 W4) := by rw [hW4]; exact hHeld.bel
    rw [← hW4]
    clear hHeld
  have k1 : W4.cell? ⟨w3.heap.size, 1, none⟩ = some (.int .i64 uc) := by rw [hW4]; simp
  clear hW4
  rotate_left
  have hK4 : W4.heap[w2.heap.size]? = some (.cells #[.int .i64 up, .int .i64 uc] 133 (0, 0)) := by rw [hW4, block_setCell (block_setCell HK3.out _) _]; rfl
  have k1 : W4.cell? ⟨w2.heap.size, 1, none⟩ = some (.int .i64 uc) := cell_of_block hK4 1
  clear hK4
  clear hW4 q0 q1 z0 z1 HK3
  rotate_left
  have hK4 : W4.heap[w1.heap.size]? = some (.cells #[.int .i64 up, .int .i64 uc] 133 (0, 0)) := by rw [hW4, block_setCell (block_setCell HK3.out _) _]; rfl
  have k1 : W4.cell? ⟨w1.heap.size, 1, none⟩ = some (.int .i64 uc) := cell_of_block hK4 1
  clear hK4
  clear hW4 q0 q1 z0 z1 HK3 HK2
  all_goals
    have p2 := (HBL.out.cell (p := ⟨w.heap.size, 2, none⟩) HZ2.out).trans HP2.out
    have ec := (HBL.out.cell (p := ⟨w.heap.size + 1, 0, none⟩) (by have := HZ1.out; show w.heap.size + 1 < _; omega)).trans HEC.out.1
    have ez := (World.frozen?_of_block (a := ⟨w.heap.size + 1, 0, none⟩) (HBL.out.block (w.heap.size + 1) (by have := HZ1.out; omega))).trans HEC.out.2
    have hbel : Below w.heap.size w W4 := HB1.out.trans (HBL.out.mono HB1.out.size)
    clear hun hrd1 hGS hp0 hp1 HP2 HEC hG3 hb2 hb3
    have HEB := hide ((HBL.out.block (w.heap.size + 1) (by have := HZ1.out; omega)).trans HEB1.out)
    by_cases hok : uc = 0 ∧ (ub.size : Int) = long
    · obtain ⟨hu0, hul⟩ := hok
      rw [if_pos ⟨hu0, hul⟩] at HR
      subst hu0
      have u1 : ((ub.size : Int) != long) = false := by simp [hul]
      clear hul
      go_wp2_with (first | (go_at_call 36; refine (refuse_no 110 _).mono ?_; rintro e w5 ⟨rfl, rfl⟩))
      refine leaves_cons (f := 74) (args := #[.pointer (some ⟨w.heap.size + 1, 0, none⟩)]) (by simp) (by simp [go_sem]) ?_
      refine (get_idle ⟨w.heap.size + 1, 0, none⟩ 0 _ ?_ ?_).mono ?_
      · simp [go_sem, ec]
      · simp [go_sem, ez]
      rintro e u' w7 ⟨rfl, rfl, rfl⟩
      obtain ⟨f1, f2⟩ := set_one hbel (Nat.le_succ _) HEB.out (.int .i64 0)
      obtain ⟨f3, f4⟩ := set_one f1 (Nat.le_succ _) f2 (.int .i64 0)
      have f5 := cell_one f4
      simp [Leaves, settle, results, Tryz.results31, go_sem, f5]
      exact ⟨by rw [HR.out]; exact ⟨rfl, rfl⟩, f3⟩
    · rw [if_neg hok] at HR
      by_cases hu0 : uc = 0
      case' pos =>
        subst hu0
        have u1 : ((ub.size : Int) != long) = true := by rw [bne_iff_ne]; exact fun e => hok ⟨rfl, e⟩
      case' neg =>
        have u1 : (uc != 0) = true := by rw [bne_iff_ne]; exact hu0
      all_goals
        clear hok
        go_wp2_with (first | (go_at_call 36; refine (refuse_yes 110 _).mono ?_; rintro e w5 ⟨rfl, rfl⟩))
        refine leaves_cons (f := 74) (args := #[.pointer (some ⟨w.heap.size + 1, 0, none⟩)]) (by simp) (by simp [go_sem]) ?_
        refine (get_pan ⟨w.heap.size + 1, 0, none⟩ 0 110 [] _ ?_ ?_).mono ?_
        · simp [go_sem, ec]
        · simp [go_sem, ez]
        rintro e u' w7 ⟨rfl, rfl, rfl⟩
        obtain ⟨f3, f4⟩ := set_one hbel (Nat.le_succ _) HEB.out (.int .i64 110)
        have f5 := cell_one f4
        simp [Leaves, settle, results, Tryz.results31, go_sem, f5]
        exact ⟨by rw [HR.out]; exact ⟨rfl, rfl⟩, f3⟩
end

end Go.Proofs.YtgfmnffaknmcnaaGreatDoor.Vl
