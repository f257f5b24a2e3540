/- Walks over clock.go: New, Fork; works(), the chapter's example. -/
import Derived.Test.YtkofmdchopfcgaaCkCalls
namespace Go.Proofs.Ytkofmdchopfcgaa.Ck
open Go.RowKit Go.Joins Gk

def Cst.new (n : Nat) (seed : Int) : Cst := ⟨List.replicate n 0, seed⟩
theorem Cst.new_ok {n : Nat} {seed : Int} (h1 : 1 ≤ n) (h2 : n ≤ 16) (hs : 0 ≤ seed ∧ seed < 18446744073709551616) : (Cst.new n seed).Ok :=
  ⟨by simp [Cst.new, h1], by simp [Cst.new, h2], fun t ht => by have := List.eq_of_mem_replicate ht; omega, hs⟩

theorem zeroI (n : Nat) : (madeCells (Value.int .i64 0).cells n).toList = List.replicate n (.int .i64 0) := by
  apply List.ext_getElem
  · simp [madeCells]
  · intro i h1 h2
    have e : (Value.int .i64 0).cells = #[.int .i64 0] := rfl
    simp [madeCells, e, Nat.mod_one]
theorem rc_zeros (n : Nat) : rc ienc (List.replicate n 0) = List.replicate n (.int .i64 0) := by
  induction n with
  | zero => rfl
  | succ n ih => rw [List.replicate_succ, List.replicate_succ, rc_cons, ih]; rfl
/-- a row of noughts -/
theorem own_zeros {W : World} {B g n : Nat} {M : Array Value} (h : W.heap[g]? = some (.cells M IntT (0, 0))) (hM : M.toList = List.replicate n (.int .i64 0)) (hn : n ≤ 16) (hB : B ≤ g) : W.ownsRow B IntT 1 (.slice (some ⟨g, 0, none⟩) n n) n (rc ienc (List.replicate n 0)) := by
  have hs : M.size = n := by rw [← Array.length_toList, hM]; simp
  refine ⟨by rw [rc_length ienc_len]; simp, Or.inr ⟨g, n, M, rfl, hB, h, by simp, by unfold maxLen; omega, by omega, ?_⟩⟩
  rw [hM, rc_zeros, Nat.mul_one, List.take_of_length_le (by simp)]

theorem make_ints (n : Nat) (hn : n ≤ 16) : ∃ M : Array Value, M.toList = List.replicate n (.int .i64 0) ∧ ∀ W : World, (Instr.makeSlice 43 (.int .i64 (n : Int)) (.int .i64 (n : Int))).run Try.prog W = .ok (.slice (some ⟨W.heap.size, 0, none⟩) n n) (W.alloc (.cells M IntT)) := by
  obtain ⟨i0, hi, hz0, hz1, hz2⟩ := info_parts int_info
  refine ⟨_, zeroI n, fun W => ?_⟩
  have h := run_make (P := Try.prog) W 43 3 i0 (.int .i64 0) Try.underlying43 hi hz0 .i64 .i64 (n : Int) (n : Int) (by omega) (by omega) (by rw [hz2]; omega) (by omega)
  rw [h, hz1]; simp

set_option maxHeartbeats 400000 in
theorem newTimes_any (n : Nat) (hn : n ≤ 16) (w : World) :
    Calls Try.prog 23 #[.int .i64 (n : Int)] w fun e w' => ∃ v', e = .returned (.agg #[v']) ∧ w'.ownsRow w.heap.size IntT 1 v' n (rc ienc (List.replicate n 0)) ∧ Below w.heap.size w w' := by
  obtain ⟨M, hM, hmk⟩ := make_ints n hn
  have HM := hide hM
  clear hM
  go_enter Try.func23, Try.ntmps23
  go_wp2
  refine bodyPost_ret (v := .agg #[.slice (some ⟨w.heap.size + 1, 0, none⟩) n n]) (by simp [results, Try.results23, go_sem]) rfl ⟨_, rfl, own_zeros ?_ HM.out hn (by omega), below_alloc2 _ _ _⟩
  have := heap_alloc_new (w.alloc (.cells #[.slice (some ⟨w.heap.size + 1, 0, none⟩) n n] 47)) (.cells M IntT)
  simpa using this

/-- a new block beside a new row: a clock -/
theorem held_fork {S : Cst} {B : Nat} {W : World} {T : TypeId} {v : Value} (hown : W.ownsRow B IntT 1 v S.ts.length (rc ienc S.ts)) (hn : 1 ≤ S.ts.length) : ∃ g', B ≤ g' ∧ g' < W.heap.size ∧ CHeld (W.alloc (.cells #[v, .int .u64 S.wd] T)) T W.heap.size g' S := by
  obtain ⟨g', cap', cur, rfl, hg, _⟩ := own_form hown (by omega)
  have hlt := hown.lt g' rfl
  refine ⟨g', hlt.1, hlt.2, cap', heap_alloc_new W _, ?_, by omega⟩
  have hr : Row W ienc IntT 1 (.slice (some ⟨g', 0, none⟩) S.ts.length cap') S.ts := own_mono hown (Nat.zero_le _)
  exact hr.below (below_alloc1 W _)

set_option maxHeartbeats 800000 in
theorem new_ok (n : Nat) (seed : Int) (w : World) (h1 : 1 ≤ n) (h2 : n ≤ 16) (hs : 0 ≤ seed ∧ seed < 18446744073709551616) :
    Calls Try.prog 7 #[.int .i64 (n : Int), .int .u64 seed] w fun e w' => ∃ bc g, e = .returned (.tuple #[.pointer (some ⟨bc, 0, none⟩), .int .i64 0]) ∧ w.heap.size ≤ bc ∧ w.heap.size ≤ g ∧ CHeld w' ClkT bc g (Cst.new n seed) ∧ Below w.heap.size w w' := by
  have h1' : (1 : Int) ≤ (n : Int) := by omega
  have h2' : (n : Int) ≤ 16 := by omega
  obtain ⟨s1, s2⟩ := hs
  have hN := newTimes_any n h2 w
  go_enter Try.func7, Try.ntmps7
  go_wp2_with (go_at_call 23; refine hN.mono ?_; rintro e w1 ⟨v1, rfl, ho1, hb1⟩)
  go_ret2
  have hl : (Cst.new n seed).ts.length = n := by simp [Cst.new]
  obtain ⟨g', hg1, hg2, hh⟩ := held_fork (S := Cst.new n seed) (T := ClkT) (by rw [hl]; exact ho1) (by rw [hl]; exact h1)
  exact ⟨_, g', rfl, hb1.size, hg1, hh, hb1.alloc hb1.size _⟩

set_option maxHeartbeats 400000 in
theorem new_bad (n : Int) (seed : Int) (w : World) (h : n < 1 ∨ 16 < n) :
    Calls Try.prog 7 #[.int .i64 n, .int .u64 seed] w fun e w' => e = .returned (.tuple #[.pointer none, .int .i64 1]) ∧ w' = w := by
  by_cases h1 : n < 1
  · go_enter Try.func7, Try.ntmps7
    go_wp2
    go_ret2
    exact ⟨rfl, rfl⟩
  · have h2 : 16 < n := by omega
    go_enter Try.func7, Try.ntmps7
    go_wp2
    go_ret2
    exact ⟨rfl, rfl⟩

set_option maxHeartbeats 1600000 in
theorem cloneI_any (g cap : Nat) (l : List Int) (w : World) (hr : Row w ienc IntT 1 (.slice (some ⟨g, 0, none⟩) l.length cap) l) (hl : l.length ≤ 16) :
    Calls Try.prog 35 #[.slice (some ⟨g, 0, none⟩) l.length cap] w fun e w' => ∃ v', e = .returned v' ∧ w'.ownsRow w.heap.size IntT 1 v' l.length (rc ienc l) ∧ Below w.heap.size w w' := by
  have hown0 : (w.alloc (.cells #[] IntT)).ownsRow w.heap.size IntT 1 (.slice (some ⟨w.heap.size, 0, none⟩) 0 0) ([] : List Int).length (rc ienc []) := World.ownsRow_made w #[] 0 (Nat.le_refl _) (Nat.zero_le _) rfl
  have hl0 := hr.lies.below (below_alloc1 w (.cells #[] IntT))
  have hq : ∀ n c W, (binOp .eql 43 (.slice (some ⟨g, 0, none⟩) n c) (.slice none 0 0)).run Try.prog W = .ok (.bool false) W := fun n c W => Lib.run_eql_slice_nil W 43 IntT (some ⟨g, 0, none⟩) n c 0 0 Try.underlying43
  go_enter Try.func35, Try.ntmps35
  go_wp2_with (at_builtin; refine wpList_append_row (enc := ienc) (k := 1) rfl (.tmp 5) (.tmp 6) 43 rfl IntT (.int .i64 0) 8 Try.underlying43 int_info rfl (by decide) ienc_len ienc_one w.heap.size _ [] rfl hown0 _ l _ _ rfl rfl hl0 (fun e => by cases e) ?c1 ?c2 ?c3 ?_)
  case c1 => simp; omega
  case c2 => simp; omega
  case c3 => simp
  intro v4 w4 hown4 hg4 _
  have hb4 : Below w.heap.size w w4 := ((Below.refl _ _).alloc (Nat.le_refl _) _).grown hg4 (by simp) (fun k hk => (hown0.lt k hk).1)
  go_wp2
  go_ret
  exact ⟨_, rfl, hown4, hb4⟩

section
variable {bc g cap : Nat} {S : Cst}
set_option maxHeartbeats 800000 in
theorem copied_any (w : World) (h : CHeldL w ClkT bc g S cap) (hok : S.Ok) :
    Calls Try.prog 32 #[.pointer (some ⟨bc, 0, none⟩)] w fun e w' => ∃ v', e = .returned (.agg #[v']) ∧ w'.ownsRow w.heap.size IntT 1 v' S.ts.length (rc ienc S.ts) ∧ Below w.heap.size w w' := by
  have c0 := h.c0
  have hC := fun W (hb : Below w.heap.size w W) => cloneI_any g cap S.ts W (h.row.below hb) hok.n2
  have hlt := h.lt
  clear h
  go_enter Try.func32, Try.ntmps32
  go_wp2_with fail
  refine (hC _ (below_alloc1 w _)).mono ?_
  rintro e w1 ⟨v1, rfl, ho1, hb1⟩
  obtain ⟨a1, c1, rfl⟩ := own_slice ho1
  have hblk : w1.heap[w.heap.size]? = some (.cells #[.slice none 0 0] 47 (0, 0)) := (hb1.block _ (by simp)).trans (heap_alloc_new w _)
  have k1 : w1.cell? ⟨w.heap.size, 0, none⟩ = some (.slice none 0 0) := by rw [cell_of_block hblk]; rfl
  have z1 := unfrozen_of_block hblk 0
  have e1 : (w1.setCell ⟨w.heap.size, 0, none⟩ (.slice a1 S.ts.length c1)).cell? ⟨w.heap.size, 0, none⟩ = some (.slice a1 S.ts.length c1) := by rw [cell_of_block (block_setCell hblk _)]; rfl
  have hbw : Below w.heap.size w w1 := (below_alloc1 w _).trans (hb1.mono (by simp))
  have HO := hide ho1
  clear hC ho1
  go_wp2
  refine bodyPost_ret (v := .agg #[.slice a1 S.ts.length c1]) (by simp [results, Try.results32, go_sem, e1]) rfl ⟨_, rfl, ?_, hbw.setCell (p := ⟨w.heap.size, 0, none⟩) (Nat.le_refl _) _⟩
  have ho := HO.out
  refine own_mono (own_stay ho fun g' hg' => Below.heap_setCell _ _ _ g' ?_) (by simp)
  have := (ho.lt g' hg').1
  simp at this
  show g' ≠ w.heap.size
  omega

set_option maxHeartbeats 800000 in
theorem fork_any (w : World) (h : CHeld w ClkT bc g S) (hok : S.Ok) :
    Calls Try.prog 18 #[.pointer (some ⟨bc, 0, none⟩)] w fun e w' => ∃ bc' g', e = .returned (.pointer (some ⟨bc', 0, none⟩)) ∧ w.heap.size ≤ bc' ∧ w.heap.size ≤ g' ∧ CHeld w' ClkT bc' g' S ∧ Below w.heap.size w w' := by
  obtain ⟨cap, h⟩ := h
  have hC := fun W (hw : Sw w W) => copied_any W (h.sw hw) hok
  have c1 := h.c1
  have hlt := h.lt
  have hn := hok.n1
  have hS := Sw.refl w
  clear h
  go_enter Try.func18, Try.ntmps18
  go_wp2_with fail
  go_region_law (first | (go_simp; go_at_call 32; refine (hC _ hS.drew).mono ?_; rintro e w1 ⟨v1, rfl, ho1, hb1⟩; have hb2 : Below w.heap.size w w1 := (Below.refl _ _).drew.trans hb1; have k1 : w1.cell? ⟨bc, 1, none⟩ = some (.int .u64 S.wd) := (hb2.cell (p := ⟨bc, 1, none⟩) hlt).trans c1))
  all_goals
    go_wp2
    go_ret
    obtain ⟨g', hg1, hg2, hh⟩ := held_fork (S := S) (T := ClkT) ho1 hn
    exact ⟨_, g', rfl, hb2.size, hg1, hh, hb2.alloc hb2.size _⟩
end

end Go.Proofs.Ytkofmdchopfcgaa.Ck
