/- Walks over net.go: Part, Join, Parted, Drop. -/
import Derived.Test.YtmdpkkipjdpopaaNtCalls
namespace Go.Proofs.Ytmdpkkipjdpopaa.Nk
open Go.RowKit Go.Joins Gk
attribute [local go_sem ↓] Go.wp_at_zero Go.wp_at_succ

def Nst.part (S : Nst) (a b : Int) : Int × Nst :=
  if hasN S.nodes a = false ∨ hasN S.nodes b = false then (30, S)
  else if a = b then (4, S)
  else if S.parted a.toNat b.toNat = true then (0, S) else (0, { S with ps := S.ps ++ [prOf a.toNat b.toNat] })
def Nst.join (S : Nst) (a b : Int) : Int × Nst :=
  if hasN S.nodes a = false ∨ hasN S.nodes b = false then (30, S)
  else (0, { S with ps := S.ps.filter fun p => !isPr (prOf a.toNat b.toNat) p })
def Nst.isParted (S : Nst) (a b : Int) : Bool × Int :=
  if hasN S.nodes a = false ∨ hasN S.nodes b = false then (false, 30) else (S.parted a.toNat b.toNat, 0)
def Nst.drop (S : Nst) (a : Int) : (Int × Int) × Nst :=
  if hasN S.nodes a = false then ((0, 30), S)
  else (((S.ls.length : Int) - ((S.ls.filter fun x => !touches a x).length : Int), 0), { S with ls := S.ls.filter fun x => !touches a x })

set_option maxHeartbeats 1600000 in
theorem parted_any {own : Nat → Prop} {bn : Nat} {S : Nst} (w : World) (h : NHeld w own bn S) (hok : S.Ok) (a b : Int) :
    Calls Try.prog 19 #[.pointer (some ⟨bn, 0, none⟩), .int .i64 a, .int .i64 b] w fun e w' => e = .returned (.tuple #[.bool (S.isParted a b).1, .int .i64 (S.isParted a b).2]) ∧ Below w.heap.size w w' := by
  obtain ⟨v, u, h⟩ := h
  have hX := has_any w h
  by_cases hb : hasN S.nodes a = false ∨ hasN S.nodes b = false
  · have hv : S.isParted a b = (false, 30) := by simp [Nst.isParted, hb]
    rw [hv]
    clear h
    cases ha : hasN S.nodes a
    · clear hb
      go_enter Try.func19, Try.ntmps19
      go_wp2_with (first | (go_at_call 31; refine (hX _).mono ?_; rintro e w1 ⟨rfl, rfl⟩))
      go_ret2
      exact ⟨rfl, Below.refl _ _⟩
    · have hb' : hasN S.nodes b = false := hb.resolve_left (by rw [ha]; simp)
      clear hb
      go_enter Try.func19, Try.ntmps19
      go_wp2_with (first | (go_at_call 31; refine (hX _).mono ?_; rintro e w1 ⟨rfl, rfl⟩))
      go_ret2
      exact ⟨rfl, Below.refl _ _⟩
  · have hv : S.isParted a b = (S.parted a.toNat b.toNat, 0) := by simp [Nst.isParted, hb]
    rw [hv]
    have ha' : hasN S.nodes a = true := by cases h1 : hasN S.nodes a <;> simp_all
    have hb' : hasN S.nodes b = true := by cases h1 : hasN S.nodes b <;> simp_all
    have hA := apart_any w h hok.few a.toNat b.toNat
    rw [Int.toNat_of_nonneg (hasN_iff.1 ha').1, Int.toNat_of_nonneg (hasN_iff.1 hb').1] at hA
    rw [show memP (prOf a.toNat b.toNat) S.ps = S.parted a.toNat b.toNat from rfl] at hA
    generalize S.parted a.toNat b.toNat = r at *
    clear h hb
    go_enter Try.func19, Try.ntmps19
    go_wp2_with (first | (go_at_call 31; refine (hX _).mono ?_; rintro e w1 ⟨rfl, rfl⟩) | (go_at_call 38; refine hA.mono ?_; rintro e w2 ⟨rfl, hb2⟩))
    go_ret2
    exact ⟨rfl, hb2⟩

set_option maxHeartbeats 1600000 in
theorem drop_any {own : Nat → Prop} {bn : Nat} {S : Nst} (w : World) (h : NHeld w own bn S) (hok : S.Ok) (a : Int) :
    Calls Try.prog 22 #[.pointer (some ⟨bn, 0, none⟩), .int .i64 a] w fun e w' => e = .returned (.tuple #[.int .i64 (S.drop a).1.1, .int .i64 (S.drop a).1.2]) ∧ NHeld w' own bn (S.drop a).2 ∧ Only own w w' := by
  obtain ⟨v, u, h⟩ := h
  have hb0 := below_alloc1 w (.cells #[.int .i64 a] 3)
  have hA0 := heap_alloc_new w (.cells #[.int .i64 a] 3)
  have h0 := h.below hb0
  obtain ⟨W, hW⟩ : ∃ W, W = w.alloc (.cells #[.int .i64 a] 3) := ⟨_, rfl⟩
  rw [← hW] at hb0 hA0 h0
  have hX := has_any W h0 a
  have k0 : W.cell? ⟨w.heap.size, 0, none⟩ = some (.int .i64 a) := cell_of_block hA0 0
  have hzW : w.heap.size < W.heap.size := (Array.getElem?_eq_some_iff.1 hA0).1
  cases ha : hasN S.nodes a
  · have hv : S.drop a = ((0, 30), S) := by simp [Nst.drop, ha]
    rw [hv]
    rw [ha] at hX
    have HH := hide h0
    clear h h0
    go_enter Try.func22, Try.ntmps22
    go_wp2_with fail
    rw [← hW]
    clear hW
    go_wp2_with (first | (go_at_call 31; refine hX.mono ?_; rintro e w1 ⟨rfl, rfl⟩))
    go_ret2
    exact ⟨rfl, ⟨v, u, HH.out⟩, Only.of_below hb0⟩
  · have hv : S.drop a = (((S.ls.length : Int) - ((S.ls.filter fun x => !touches a x).length : Int), 0), { S with ls := S.ls.filter fun x => !touches a x }) := by simp [Nst.drop, ha]
    rw [hv]
    rw [ha] at hX
    have hlt := h.lt
    have hrl : ∀ g, v.ownBlock = some g → g < w.heap.size := fun g hg => h.rowLt hg
    have hD := delFuncL_any (touches a) 43 #[.pointer (some ⟨w.heap.size, 0, none⟩)] enters_drop v S.ls W h0.row (by have := hok.many; omega) (fun W' x hg => dropC_any a w.heap.size W' x (Nat.lt_of_lt_of_le hzW hg.size) ((World.cell?_of_block (a := ⟨w.heap.size, 0, none⟩) (hg.block _ hzW fun e => absurd (hrl _ e.symm) (Nat.lt_irrefl _))).trans k0))
    have hfl : (S.ls.filter fun x => !touches a x).length ≤ 4096 := Nat.le_trans (List.length_filter_le _ _) hok.many
    have hml := hok.many
    obtain ⟨av, cv, rfl⟩ := h0.row.slice
    have d2 := h0.c2
    generalize hfe : (S.ls.filter fun x => !touches a x) = ls' at *
    have HH := hide h0
    clear h h0 hfe
    go_enter Try.func22, Try.ntmps22
    go_wp2_with fail
    rw [← hW]
    clear hW
    go_wp2_with (first | (go_at_call 31; refine hX.mono ?_; rintro e w1 ⟨rfl, rfl⟩) | (go_at_call 42; refine hD.mono ?_; rintro e w2 ⟨v2, rfl, hr2, hob2, hg2⟩; obtain ⟨a2, c2, rfl⟩ := hr2.slice; have hb2 := hide (hg2.block bn HH.out.lt (fun e => HH.out.rowNe e.symm rfl)); have k2 := (World.cell?_of_block (a := ⟨bn, 2, none⟩) hb2.out).trans HH.out.c2; have z2 := (World.frozen?_of_block (a := ⟨bn, 2, none⟩) hb2.out).trans (HH.out.fz 2)))
    go_ret2
    refine ⟨rfl, ⟨_, _, HH.out.setRow hr2 hb2.out (fun g' hg => hg2.block g' (HH.out.prowLt hg) fun e => HH.out.apart e.symm hg rfl) (fun g' hg => HH.out.ownR g' (hob2 ▸ hg))⟩, (Only.of_below hb0).trans ((Only.of_grown hg2 fun k e => HH.out.ownR k e).trans (Only.of_set w2 HH.out.ownD _))⟩

end Go.Proofs.Ytmdpkkipjdpopaa.Nk
