/- Layer 12: sets of numbers; a value put once more. -/
import Derived.Test.YtgfmnffaknmcnaaGreatDoorSwPlan
import Derived.Test.YtgfmnffaknmcnaaGreatDoorVlPutE
namespace Go.Proofs.YtgfmnffaknmcnaaGreatDoor.Sw
open Go.RowKit Go.Joins Go.Sort Go.Maps Gk
open Go.Proofs.YtgfmnffaknmcnaaGreatDoor.Dk (St Rising)
open Go.Proofs.YtgfmnffaknmcnaaGreatDoor.Vl (VH Up nums dat putS In Cln Stp wi PlT)

abbrev SetT : TypeId := 106
abbrev UnT : TypeId := 152
/-- a set is a map to nothing -/
def setF (F : List Int) : Int → Option Value := fun x => if x ∈ F then some (.agg #[]) else none
set_option maxRecDepth 100000 in
theorem setF_snoc (F : List Int) (x : Int) : setF (F ++ [x]) = updF (setF F) x (.agg #[]) := by
  funext p
  by_cases e : p = x
  · subst e; rw [updF_same]; simp [setF]
  · rw [updF_other _ _ e]; simp [setF, e]
set_option maxRecDepth 100000 in
theorem zero_un (w : World) : (zeroValue UnT).run Tryz.prog w = .ok (.agg #[]) w := by kernel_rfl
def nenc' (x : Int) : List Value := [.int .i64 x]
set_option maxRecDepth 100000 in
theorem nenc'_len (x : Int) : (nenc' x).length = 1 := rfl

set_option maxHeartbeats 1600000 in
set_option maxRecDepth 100000 in
theorem setOf_any (a : Option Addr) (cap : Nat) (F : List Int) (w : World) (hl : Lies w nenc' a F) (hn : F.length ≤ 100000) (hf : ∀ x ∈ F, I64 x) :
    Calls Tryz.prog 53 #[.slice a F.length cap] w fun e w' => ∃ bm : Nat, e = .returned (.map (some bm)) ∧ w.heap.size ≤ bm ∧ MapF intKs w' bm F.length (setF F) ∧ Below w.heap.size w w' := by
  have hmk := @run_makeMap Tryz.prog
  have hMp := MapF.made intKs w
  have hbm := below_alloc1 w (.map #[] 0)
  go_enter Tryz.func53, Tryz.ntmps53
  go_wp2
  have HW := hide (And.intro hMp hbm)
  clear hmk hMp hbm
  go_loopw [9] (fun i wr => ∃ k : Nat, k ≤ F.length ∧ i = .int .i64 k ∧ MapF intKs wr w.heap.size k (setF (F.take k)) ∧ Below w.heap.size w wr) (fun i _ => F.length - (intOf i).toNat)
  case atStart => exact ⟨0, Nat.zero_le _, rfl, by rw [show setF (F.take 0) = fun _ => none from by funext p; simp [setF]]; exact HW.out.1, HW.out.2⟩
  case round =>
    clear HW
    obtain ⟨k, hk, rfl, hM, hb⟩ := hrel
    by_cases hlt : k < F.length
    · obtain ⟨b, off, rfl, hbl, hc⟩ := (hl.below hb).at nenc'_len k hlt
      have i1 : (0 : Int) ≤ (k : Int) := by omega
      have i2 : (k : Int) < (F.length : Int) := by omega
      have c0 := hc 0 _ rfl
      rw [Nat.mul_one, Nat.add_zero] at c0
      have hx := hf F[k] (List.getElem_mem hlt)
      have hnx : setF (F.take (k + 1)) = updF (setF (F.take k)) F[k] (.agg #[]) := by rw [List.take_succ_eq_append_getElem hlt, setF_snoc]
      generalize F[k] = x at c0 hx hnx
      obtain ⟨w4, hrun, hM4, hg4⟩ := hM.put (t := SetT) (e := UnT) Tryz.underlying106 (by omega) hx (.agg #[])
      have hrun' : (Instr.mapUpdate SetT (.map (some w.heap.size)) (.int .i64 x) (.agg #[])).run Tryz.prog wr = .ok () w4 := hrun
      rw [← hnx] at hM4
      have hb4 : Below w.heap.size w w4 := hb.grown hg4 hb.size fun g' e => by cases e; exact Nat.le_refl _
      have HF := hide (And.intro hM4 hb4)
      clear hc hrun hM4 hb4 hg4 hM hb hnx hx
      go_wp2
      go_roundw
      case rel => exact ⟨k + 1, by omega, by go_num, HF.out.1, HF.out.2⟩
      case measure => simp [intOf]; omega
    · obtain rfl : k = F.length := by omega
      have i2 : ¬ (F.length : Int) < (F.length : Int) := by omega
      rw [List.take_length] at hM
      go_wp2
      go_ret
      exact ⟨_, rfl, Nat.le_refl _, hM, hb⟩
set_option maxHeartbeats 800000 in
set_option maxRecDepth 100000 in
theorem has_any {bm n : Nat} {f : Int → Option Value} (w : World) (hM : MapF intKs w bm n f) (x : Int) (hx : I64 x) (hv : ∀ y v, f y = some v → v = .agg #[]) :
    Calls Tryz.prog 55 #[.map (some bm), .int .i64 x] w fun e w' => e = .returned (.bool (f x).isSome) ∧ Below w.heap.size w w' := by
  have hlk := hM.look_ok (t := SetT) (e := UnT) Tryz.underlying106 (zero_un _) hx
  have hlk' : (Instr.lookup SetT (.map (some bm)) (.int .i64 x) true).run Tryz.prog w = .ok (.tuple #[.agg #[], .bool (f x).isSome]) w := by
    have e : (f x).getD (.agg #[]) = .agg #[] := by
      cases h : f x with
      | none => rfl
      | some v => exact hv x v h
    rw [e] at hlk
    exact hlk
  generalize (f x).isSome = r at hlk' ⊢
  clear hlk hM
  go_enter Tryz.func55, Tryz.ntmps55
  go_wp2
  go_ret
  exact ⟨rfl, below_alloc1 _ _⟩

section
variable {w0 w : World} {own : Nat → Prop} {bd bv most top : Nat} {S : St}
set_option maxHeartbeats 1600000 in
set_option maxRecDepth 100000 in
/-- a value that stands at a place is put once more, or there is no room -/
theorem copied_any (h : VH w0 w own bd bv most top S) (hu : Up S) (htops : ∀ n ∈ nums S, n ≤ top) (ht : top ≤ 1000000) {p : Nat × Nat × Nat} {t : ByteArray} (hi : In S p t) :
    Calls Tryz.prog 56 #[.pointer (some ⟨bv, 0, none⟩), .agg #[.int .i64 p.1, .int .i64 p.2.1, .int .i64 p.2.2]] w fun e w' => ∃ v, e = .returned v ∧ ∃ own' : Nat → Prop, Stp (wi own bv) (wi own' bv) w w' ∧
      ((∃ n : Nat, v = .tuple #[.agg #[.int .i64 n, .int .i64 (dat S n).length, .int .i64 t.size], .int .i64 0] ∧ 1 ≤ n ∧ n ≤ top + 1 ∧ (∀ m ∈ nums S, m ≤ n) ∧ VH w0 w' own' bd bv most (max top n) (putS S n t)) ∨
       (v = .tuple #[.agg #[.int .i64 0, .int .i64 0, .int .i64 0], .int .i64 22] ∧ VH w0 w' own' bd bv most top S)) := by
  obtain ⟨w1, hw1⟩ : ∃ w1, w1 = (w.alloc (.cells #[.int .i64 p.1, .int .i64 p.2.1, .int .i64 p.2.2] PlT)).alloc (.cells #[.int .i64 0, .int .i64 0, .int .i64 0] PlT) := ⟨_, rfl⟩
  have hb1 : Below w.heap.size w w1 := by rw [hw1]; exact (below_alloc1 w _).alloc (by simp) _
  have hz1 : w1.heap.size = w.heap.size + 2 := by rw [hw1]; simp
  have hR1 : w1.heap[w.heap.size + 1]? = some (.cells #[.int .i64 0, .int .i64 0, .int .i64 0] PlT (0, 0)) := by
    rw [hw1]
    have := heap_alloc_new (w.alloc (.cells #[.int .i64 p.1, .int .i64 p.2.1, .int .i64 p.2.2] PlT)) (.cells #[.int .i64 0, .int .i64 0, .int .i64 0] PlT)
    simpa using this
  have hle := hi.le
  have hdl := Vl.dat_le h.ok (show p.1 ≤ 1048577 by have := hi.2.1; omega)
  have hG := Vl.Get_any (h.below hb1) hi.file (p.2.1 : Nat) (p.2.2 : Nat) (by omega) (by omega)
  rw [hi.get] at hG
  have hts : t.size ≤ 65536 := by
    obtain ⟨-, -, xs, b, f, -, -, hm, -, -⟩ := hi
    exact hm t (by simp)
  go_enter Tryz.func56, Tryz.ntmps56
  go_wp2_with fail
  rw [← hw1]
  refine hG.mono ?_
  rintro e w2 ⟨rfl, hb2⟩
  have hb02 := hb1.trans (hb2.mono hb1.size)
  have hP := (h.below hb02).putE hu htops ht t hts
  have HR1 := hide (keepBlk hb2 hR1)
  have HH := hide (And.intro h (And.intro hb02 hz1))
  have HS2 := hide hb2.size
  clear hG hw1 hb1 hR1 hb2 h hz1 hb02 hi hle hdl
  go_wp2_with fail
  refine hP.mono ?_
  rintro e w3 ⟨own', hst, hcase⟩
  have hR3 : w3.heap[w.heap.size + 1]? = some (.cells #[.int .i64 0, .int .i64 0, .int .i64 0] PlT (0, 0)) := by
    have hz1 := HH.out.2.2
    have hlt := (Array.getElem?_eq_some_iff.1 HR1.out).1
    exact (hst.block hlt (fun e => by
      rcases e with e | e
      · have := (HH.out.1.old _ e).2; omega
      · have := HH.out.1.lt; omega)).1.trans HR1.out
  have hno : ¬ wi own' bv (w.heap.size + 1) := by
    have hlt := (Array.getElem?_eq_some_iff.1 HR1.out).1
    exact (hst.block hlt (fun e => by
      rcases e with e | e
      · have := (HH.out.1.old _ e).2; omega
      · have := HH.out.1.lt; omega)).2
  have r0 : w3.cell? ⟨w.heap.size + 1, 0, none⟩ = some (.int .i64 0) := cell_of_block hR3 0
  have r1 : w3.cell? ⟨w.heap.size + 1, 1, none⟩ = some (.int .i64 0) := cell_of_block hR3 1
  have r2 : w3.cell? ⟨w.heap.size + 1, 2, none⟩ = some (.int .i64 0) := cell_of_block hR3 2
  have f0 := unfrozen_of_block hR3 0
  have f1 := unfrozen_of_block hR3 1
  have f2 := unfrozen_of_block hR3 2
  clear hP
  rcases hcase with ⟨n, rfl, h1, h2, h3, hV⟩ | ⟨rfl, hV⟩
  · have HV := hide hV
    obtain ⟨q, hq⟩ : ∃ q, (dat S n).length = q := ⟨_, rfl⟩
    rw [hq]
    have HQ := hide hq
    clear hV hq
    go_wp2
    obtain ⟨w9, hw9⟩ : ∃ w9, w9 = ((w3.setCell ⟨w.heap.size + 1, 0, none⟩ (.int .i64 n)).setCell ⟨w.heap.size + 1, 1, none⟩ (.int .i64 q)).setCell ⟨w.heap.size + 1, 2, none⟩ (.int .i64 t.size) := ⟨_, rfl⟩
    have hb9 : w9.heap[w.heap.size + 1]? = some (.cells #[.int .i64 n, .int .i64 q, .int .i64 t.size] PlT (0, 0)) := by
      rw [hw9, block_setCell (block_setCell (block_setCell hR3 _) _) _]; rfl
    have hn1 : ¬ own' (w.heap.size + 1) := fun e => hno (Or.inl e)
    have hn2 : w.heap.size + 1 ≠ bv := fun e => hno (Or.inr e)
    have hg0 : w0.heap.size ≤ w.heap.size + 1 := by have := HH.out.1.base.size; omega
    have hV9 : VH w0 w9 own' bd bv most (max top n) (putS S n t) := by rw [hw9]; exact ((HV.out.set hn1 hn2 hg0 0 _).set hn1 hn2 hg0 1 _).set hn1 hn2 hg0 2 _
    have hst9 : Stp (wi own bv) (wi own' bv) w w9 := by
      have h0 := (Stp.below (O := wi own bv) HH.out.2.1).trans hst
      refine ⟨h0.sub, ?_⟩
      rw [hw9]
      exact Vl.only_sets (Vl.only_sets (Vl.only_sets h0.only (b := w.heap.size + 1) (Or.inr (by omega)) 0 _) (b := w.heap.size + 1) (Or.inr (by omega)) 1 _) (b := w.heap.size + 1) (Or.inr (by omega)) 2 _
    have s0 : w9.cell? ⟨w.heap.size + 1, 0, none⟩ = some (.int .i64 n) := cell_of_block hb9 0
    have s1 : w9.cell? ⟨w.heap.size + 1, 1, none⟩ = some (.int .i64 q) := cell_of_block hb9 1
    have s2 : w9.cell? ⟨w.heap.size + 1, 2, none⟩ = some (.int .i64 t.size) := cell_of_block hb9 2
    rw [← hw9]
    refine bodyPost_ret (v := .tuple #[.agg #[.int .i64 n, .int .i64 q, .int .i64 t.size], .int .i64 0]) (by simp [results, Tryz.results56, go_sem, s0, s1, s2]) rfl ⟨_, rfl, own', hst9, Or.inl ⟨n, by rw [HQ.out], h1, h2, h3, hV9⟩⟩
  · have HV := hide hV
    clear hV
    go_wp2
    obtain ⟨w9, hw9⟩ : ∃ w9, w9 = ((w3.setCell ⟨w.heap.size + 1, 0, none⟩ (.int .i64 0)).setCell ⟨w.heap.size + 1, 1, none⟩ (.int .i64 0)).setCell ⟨w.heap.size + 1, 2, none⟩ (.int .i64 0) := ⟨_, rfl⟩
    have hb9 : w9.heap[w.heap.size + 1]? = some (.cells #[.int .i64 0, .int .i64 0, .int .i64 0] PlT (0, 0)) := by
      rw [hw9, block_setCell (block_setCell (block_setCell hR3 _) _) _]; rfl
    have hn1 : ¬ own' (w.heap.size + 1) := fun e => hno (Or.inl e)
    have hn2 : w.heap.size + 1 ≠ bv := fun e => hno (Or.inr e)
    have hg0 : w0.heap.size ≤ w.heap.size + 1 := by have := HH.out.1.base.size; omega
    have hV9 : VH w0 w9 own' bd bv most top S := by rw [hw9]; exact ((HV.out.set hn1 hn2 hg0 0 _).set hn1 hn2 hg0 1 _).set hn1 hn2 hg0 2 _
    have hst9 : Stp (wi own bv) (wi own' bv) w w9 := by
      have h0 := (Stp.below (O := wi own bv) HH.out.2.1).trans hst
      refine ⟨h0.sub, ?_⟩
      rw [hw9]
      exact Vl.only_sets (Vl.only_sets (Vl.only_sets h0.only (b := w.heap.size + 1) (Or.inr (by omega)) 0 _) (b := w.heap.size + 1) (Or.inr (by omega)) 1 _) (b := w.heap.size + 1) (Or.inr (by omega)) 2 _
    have s0 : w9.cell? ⟨w.heap.size + 1, 0, none⟩ = some (.int .i64 0) := cell_of_block hb9 0
    have s1 : w9.cell? ⟨w.heap.size + 1, 1, none⟩ = some (.int .i64 0) := cell_of_block hb9 1
    have s2 : w9.cell? ⟨w.heap.size + 1, 2, none⟩ = some (.int .i64 0) := cell_of_block hb9 2
    rw [← hw9]
    refine bodyPost_ret (v := .tuple #[.agg #[.int .i64 0, .int .i64 0, .int .i64 0], .int .i64 22]) (by simp [results, Tryz.results56, go_sem, s0, s1, s2]) rfl ⟨_, rfl, own', hst9, Or.inr ⟨rfl, hV9⟩⟩
end

end Go.Proofs.YtgfmnffaknmcnaaGreatDoor.Sw
