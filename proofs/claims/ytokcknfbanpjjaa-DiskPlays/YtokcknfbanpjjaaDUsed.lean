/- The walk over disk.go: Used. -/
import Derived.Test.YtokcknfbanpjjaaDNames
namespace Go.Proofs.Ytokcknfbanpjjaa.Dk
open Go.RowKit Go.Maps Go.Joins

/-- the files' bytes that are still to come -/
def sumLeft (left : Lit → Bool) (l : List (Bs × Ent)) : Nat := sumL (fun x => x.2.data.length) (l.filter fun p => left (.string p.1))
theorem getL_filter {α : Type} {l : List (Bs × α)} (hr : Rising l) {k : Bs} {x : α} (hg : getL k l = some x) (q : Bs → Bool) (hq : q k = true) : getL k (l.filter fun p => q p.1) = some x :=
  getL_of_mem (List.Pairwise.filter _ hr) (List.mem_filter.2 ⟨getL_some hg, hq⟩)
theorem sumLeft_step {left : Lit → Bool} {l : List (Bs × Ent)} (hr : Rising l) {k : Bs} {x : Ent} (hg : getL k l = some x) (hl : left (.string k) = true) :
    sumLeft left l = x.2.data.length + sumLeft (fun z => left z && !z.sameKey (.string k)) l := by
  have h1 := sumL_del (fun x : Ent => x.2.data.length) (List.Pairwise.filter _ hr : Rising (l.filter fun p => left (.string p.1))) (getL_filter hr hg (fun b => left (.string b)) hl)
  have h2 : delL k (l.filter fun p => left (.string p.1)) = l.filter fun p => left (.string p.1) && !(Lit.string p.1).sameKey (.string k) := by
    rw [delL, List.filter_filter]
    congr 1; funext p; rw [Bool.and_comm]; rfl
  rw [h2] at h1
  exact h1.symm
theorem sumLeft_all (l : List (Bs × Ent)) : sumLeft (has (DD l)) l = sumL (fun x => x.2.data.length) l := by
  unfold sumLeft
  congr 1
  rw [List.filter_eq_self]
  intro p hp
  rw [DD_has]
  cases hg : getL p.1 l with
  | none => exact absurd rfl (getL_none hg p hp)
  | some x => rfl
theorem sumLeft_none {left : Lit → Bool} (l : List (Bs × Ent)) (h : ∀ kl, left kl = false) : sumLeft left l = 0 := by
  unfold sumLeft
  rw [List.filter_eq_nil_iff.2 (fun p _ => by rw [h]; simp)]
  rfl

/-- a step of a range over the files -/
theorem wpList_next_files {w : World} {ops : Array Oper} {rest : List Oper} {o : Oper} {a : Act} {Q : Exit → Act → World → Prop} (hg : o.guard = none) (it : Operand) (hop : o.op = Op.next it false)
    (bm r n : Nat) (l : List (Bs × Ent)) (left : Lit → Bool) (cnt : Nat) (hrow : ∀ p ∈ l, ∃ a cap, p.2.1 = .slice a p.2.2.data.length cap)
    (hit : a.eval it = .pointer (some ⟨r, 0, none⟩)) (h : w.ranges Try.prog 9 RV bm r n (DD l) left cnt)
    (hDone : cnt = 0 → (∀ kl, left kl = false) → wpList Try.prog ops Q rest (a.put o.dst (.tuple #[.bool false])) w)
    (hMore : ∀ (k : Bs) (ad : Option Addr) (cap : Nat) (f : Fil) (w' : World) (cnt' : Nat), getL k l = some (.slice ad f.data.length cap, f) → left (.string k) = true → w'.ranges Try.prog 9 RV bm r n (DD l) (fun z => left z && !z.sameKey (.string k)) cnt' → cnt' < cnt →
      w.grownBy w' (some r) → w'.heap.size = w.heap.size → (Instr.entry (.pointer (some ⟨r, 0, none⟩))).run Try.prog w' = .ok (.tuple #[.string ⟨k.toArray⟩, FV (.slice ad f.data.length cap) f.safe]) w' →
      wpList Try.prog ops Q rest (a.put o.dst (.tuple #[.bool true, .string ⟨k.toArray⟩, FV (.slice ad f.data.length cap) f.safe])) w') :
    wpList Try.prog ops Q (o :: rest) a w := by
  refine wpList_next_ranges w hg it hop 9 keyed RV encStr id (fun key kl hk => by obtain ⟨x, hx, _⟩ := Maps.keyOf_str Try.underlying9 hk; exact ⟨x, hx⟩) (fun v _ _ => ⟨v, rfl⟩) bm r n (DD l) left cnt hit h hDone ?_
  intro x c kl y w' cnt' hkey hlk hv hat hrg hlt hgr hsz hen
  obtain ⟨x', ex, rfl, _⟩ := Maps.keyOf_str Try.underlying9 hkey
  cases encStr_inj ex
  cases hv
  have hat' := hat
  simp only [DD_at] at hat'
  cases hgl : getL x l with
  | none => rw [hgl] at hat'; have := hat' .nil; cases this
  | some e =>
    obtain ⟨v, f⟩ := e
    obtain ⟨ad, cap, hv⟩ := hrow _ (getL_some hgl)
    simp only at hv
    subst hv
    rw [hgl] at hat'
    have hc := hat' .nil
    simp only [DataW.held.injEq, id_eq] at hc
    subst hc
    exact hMore x ad cap f w' cnt' hgl hlk hrg hlt hgr hsz hen

theorem RowsOk.slices {w : World} {own : Nat → Prop} {l : List (Bs × Ent)} (h : RowsOk w own l) : ∀ p ∈ l, ∃ a cap, p.2.1 = .slice a p.2.2.data.length cap := fun p hp => own_slice (h.1 p hp).1

set_option maxHeartbeats 1600000 in
theorem used_any {own : Nat → Prop} {bd bm room : Nat} {l : List (Bs × Ent)} {fuse : Int} {down : Bool} (w : World) (h : HeldL w own bd bm room l fuse down) (hs : sumL (fun x => x.2.data.length) l ≤ 262144) :
    Calls Try.prog 29 #[.pointer (some ⟨bd, 0, none⟩)] w fun e w' => e = .returned (.int .i64 (sumL (fun x => x.2.data.length) l : Nat)) ∧ Below w.heap.size w w' := by
  have c1 := h.base.c1
  have hown := h.base.map
  have hrow := h.rows.slices
  have hris := h.base.rising
  have hSA := sumLeft_all l
  obtain ⟨S, hS⟩ : ∃ S, S = sumL (fun x : Ent => x.2.data.length) l := ⟨_, rfl⟩
  rw [← hS] at hs hSA ⊢
  clear hS
  go_enter Try.func29, Try.ntmps29
  go_wp2_with (first | (at_range; refine wpList_range_own _ rfl _ 37 rfl 9 61 keyed Try.underlying37 RV bm l.length (DD l) rfl hown ?_; intro w0 hrg0 hg0 hs0) | go_in)
  go_frame
  have hb0 : Below w.heap.size w w0 := (Below.refl _ _).grown hg0 (Nat.le_refl _) (by simp)
  go_loopw [3] (fun u wr => ∃ left cnt, ∃ q : Nat, u = .int .i64 q ∧ wr.ranges Try.prog 9 RV bm w.heap.size l.length (DD l) left cnt ∧ q + sumLeft left l = S ∧ Below w.heap.size w wr) (fun _ wr => wr.rangeLeft bm w.heap.size)
  case atStart => exact ⟨_, _, 0, rfl, hrg0, by rw [hSA]; omega, hb0⟩
  case round =>
    obtain ⟨left, cnt, q, rfl, hrg, hq, hbel⟩ := hrel
    have hz := hbel.size
    go_wp2_with (first | (at_next; refine wpList_next_files rfl _ rfl bm w.heap.size l.length l left cnt hrow rfl hrg ?_ ?_) | go_in)
    · intro hc0 hl0
      have HQ := hide (show q = S by rw [sumLeft_none l hl0] at hq; omega)
      clear hq
      go_wp2
      go_ret
      rw [HQ.out]
      exact ⟨rfl, hbel⟩
    · intro k ad cap f w1 cnt1 hgl hlk hrg1 hlt hg1 hs1 hen
      have HQ := sumLeft_step hris hgl hlk
      simp only at HQ
      have hq1 : q + f.data.length + sumLeft (fun z => left z && !z.sameKey (.string k)) l = S := by omega
      have HQ1 := hide hq1
      have hqs : ((q : Int) + (f.data.length : Int)) ≤ 262144 := by omega
      have hb1 : Below w.heap.size w w1 := hbel.grown hg1 hz (by intro j hj; cases hj; exact Nat.le_refl _)
      have hz1 := hb1.size
      clear HQ hq1 hgl
      generalize f.data.length = m at *
      go_wp2
      go_roundw
      case rel => exact ⟨_, _, q + m, by go_num, hrg1.alloc _, HQ1.out, hb1.alloc hz1 _⟩
      case measure => rw [(hrg1.alloc _).left_eq, hrg.left_eq]; omega

end Go.Proofs.Ytokcknfbanpjjaa.Dk
