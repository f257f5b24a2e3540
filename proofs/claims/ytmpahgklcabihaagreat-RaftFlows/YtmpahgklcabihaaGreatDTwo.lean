/- Walks over disk.go: rising, Names. The walk over disk.go: Names. The walk over disk.go: Used. Walks over file.go: grown, cutTo, synced, tail, torn. Walks over file.go: cutTo, synced, tail, torn. Walks over disk.go: find, put. The walk over disk.go: put. What a disk is, as the document has it, and what its calls do. What a disk is stays in its bounds, whatever is called. -/
import Derived.Test.YtmpahgklcabihaaGreatDOne
import Derived.Test.YtmpahgklcabihaaGreatIter
namespace Go.Proofs.YtmpahgklcabihaaGreat.Dk
open Go.RowKit Go.Maps Go.Joins Go.Sort Go.Shelf

/-- the names, as texts -/
def nms (l : List (Bs × Ent)) : List ByteArray := l.map fun p => ⟨p.1.toArray⟩

set_option maxRecDepth 100000 in
set_option maxHeartbeats 1000000 in
theorem rising_any {own : Nat → Prop} {bd bm room : Nat} {l : List (Bs × Ent)} {fuse : Int} {down : Bool} (w : World) (h : Base w own bd bm room l fuse down) (hn : l.length ≤ 64) :
    Calls Tryz.prog 69 #[.pointer (some ⟨bd, 0, none⟩)] w fun e w' => ∃ v, e = .returned v ∧ w'.ownsRow w.heap.size 9 1 v (nms l).length (tcells (nms l)) ∧ Below w.heap.size w w' := by
  have c1 := h.c1
  have hown := h.map
  have hmax : Maps.size (DD l) ≤ maxLen := by rw [DD_size]; unfold maxLen; omega
  have hbytes : Maps.size (DD l) * 16 ≤ 140737488355328 := by rw [DD_size]; omega
  refine (callsIn_wide (n := 6)).1 ?_
  have hfK : Fence.wide.fn 113 := trivial
  have hfS : Fence.wide.fn 112 := trivial
  refine callsIn_of_wp Tryz.func69 rfl trivial ?_ rfl
  simp only [Tryz.ntmps69, List.size_toArray, List.length_cons, List.length_nil, Nat.reduceAdd, Nat.reduceSub, Array.replicate_succ, Array.replicate_zero, List.push_toArray, List.append_toArray, List.nil_append, List.cons_append]
  gi_wp2_with (first
    | (gi_at_call 113; refine (Tryz.maps_Keys_113 _ _).mono ?_; rintro e w' ⟨rfl, rfl⟩)
    | (gi_at_call 112; refine (Tryz.slices_Sorted_keys_112_113 bm l.length (DD l) RV w hown hmax hbytes).mono ?_; rintro e w' ⟨v, ss, rfl, hS, hrow, hnil, hb⟩))
  go_ret
  have hperm := hS.length_eq
  rw [DD_keys, List.length_map] at hperm
  have hms := mergeSort_of_perm hS
  rw [DD_keys, keys_sorted h.rising] at hms
  have e1 : (ss.mergeSort (fun x y => decide (x ≤ y))).map encStr = tcells (nms l) := by
    show (ss.mergeSort leB).map encStr = _
    rw [hms, tcells, nms, List.map_map, List.map_map]; rfl
  rw [e1] at hrow
  rw [hperm] at hrow
  refine ⟨v, rfl, ?_, ((Below.refl _ w).alloc (Nat.le_refl _) _).trans (hb.mono (by simp))⟩
  have : (nms l).length = l.length := by simp [nms]
  rw [this]
  exact own_mono hrow (by simp)

end Go.Proofs.YtmpahgklcabihaaGreat.Dk

namespace Go.Proofs.YtmpahgklcabihaaGreat.Dk
open Go.RowKit Go.Maps Go.Joins

theorem own_setSame {w : World} {B e g n cap k : Nat} {xs : List Value} {u : Value} (h : w.ownsRow B e 1 (.slice (some ⟨g, 0, none⟩) n cap) n xs) (hk : xs[k]? = some u) : (w.setCell ⟨g, k, none⟩ u).ownsRow B e 1 (.slice (some ⟨g, 0, none⟩) n cap) n xs := by
  rcases h.2 with ⟨h0, _⟩ | ⟨g', cap', cur, he, hb, hg, h1, h2, h3, h4⟩
  · cases h0
  · cases he
    refine ⟨h.1, .inr ⟨g, cap, cur, rfl, hb, ?_, h1, h2, h3, h4⟩⟩
    rw [block_setCell hg]
    have hc : cur.setIfInBounds k u = cur := by
      apply Array.ext'
      rw [Array.toList_setIfInBounds]
      refine List.ext_getElem? fun j => ?_
      rw [List.getElem?_set]
      split
      · rename_i e; subst e
        rw [← h4, List.getElem?_take] at hk
        split at hk
        · rw [hk]; split
          · rfl
          · have := (List.getElem?_eq_some_iff.1 hk).1; omega
        · cases hk
      · rfl
    rw [hc]

theorem nms_size {l : List (Bs × Ent)} (hb : ∀ p ∈ l, named p.1 = true) : ∀ s ∈ nms l, s.size ≤ 32 := by
  intro s hs
  simp only [nms, List.mem_map] at hs
  obtain ⟨p, hp, rfl⟩ := hs
  have := hb p hp
  simp only [named, Bool.and_eq_true, decide_eq_true_eq] at this
  show p.1.toArray.size ≤ 32
  rw [List.size_toArray]; exact this.1.2


end Go.Proofs.YtmpahgklcabihaaGreat.Dk

namespace Go.Proofs.YtmpahgklcabihaaGreat.Dk
open Go.RowKit Go.Maps Go.Joins

/-- the files' bytes that are still to come -/
def sumLeft (left : Lit → Bool) (l : List (Bs × Ent)) : Nat := sumL (fun x => x.2.data.length) (l.filter fun p => left (.string p.1))
theorem getL_filter {α : Type} {l : List (Bs × α)} (hr : Rising l) {k : Bs} {x : α} (hg : getL k l = some x) (q : Bs → Bool) (hq : q k = true) : getL k (l.filter fun p => q p.1) = some x :=
  getL_of_mem (List.Pairwise.filter _ hr) (List.mem_filter.2 ⟨getL_some hg, hq⟩)
theorem sumLeft_step {left : Lit → Bool} {l : List (Bs × Ent)} (hr : Rising l) {k : Bs} {x : Ent} (hg : getL k l = some x) (hl : left (.string k) = true) :
    sumLeft left l = x.2.data.length + sumLeft (fun z => left z && !z.sameKey (.string k)) l := by
  have h1 := sumL_del (fun x : Ent => x.2.data.length) (List.Pairwise.filter _ hr : Rising (l.filter fun p => left (.string p.1))) (getL_filter hr hg (fun b => left (.string b)) hl)
  have h2 : delL k (l.filter fun p => left (.string p.1)) = l.filter fun p => left (.string p.1) && !(Lit.string p.1).sameKey (.string k) := by
    rw [delL, List.filter_filter]
    congr 1; funext p; rw [Bool.and_comm]; rfl
  rw [h2] at h1
  exact h1.symm
theorem sumLeft_all (l : List (Bs × Ent)) : sumLeft (has (DD l)) l = sumL (fun x => x.2.data.length) l := by
  unfold sumLeft
  congr 1
  rw [List.filter_eq_self]
  intro p hp
  rw [DD_has]
  cases hg : getL p.1 l with
  | none => exact absurd rfl (getL_none hg p hp)
  | some x => rfl
theorem sumLeft_none {left : Lit → Bool} (l : List (Bs × Ent)) (h : ∀ kl, left kl = false) : sumLeft left l = 0 := by
  unfold sumLeft
  rw [List.filter_eq_nil_iff.2 (fun p _ => by rw [h]; simp)]
  rfl

/-- a step of a range over the files -/
theorem wpList_next_files {w : World} {ops : Array Oper} {rest : List Oper} {o : Oper} {a : Act} {Q : Exit → Act → World → Prop} (hg : o.guard = none) (it : Operand) (hop : o.op = Op.next it false)
    (bm r n : Nat) (l : List (Bs × Ent)) (left : Lit → Bool) (cnt : Nat) (hrow : ∀ p ∈ l, ∃ a cap, p.2.1 = .slice a p.2.2.data.length cap)
    (hit : a.eval it = .pointer (some ⟨r, 0, none⟩)) (h : w.ranges Tryz.prog 9 RV bm r n (DD l) left cnt)
    (hDone : cnt = 0 → (∀ kl, left kl = false) → wpList Tryz.prog ops Q rest (a.put o.dst (.tuple #[.bool false])) w)
    (hMore : ∀ (k : Bs) (ad : Option Addr) (cap : Nat) (f : Fil) (w' : World) (cnt' : Nat), getL k l = some (.slice ad f.data.length cap, f) → left (.string k) = true → w'.ranges Tryz.prog 9 RV bm r n (DD l) (fun z => left z && !z.sameKey (.string k)) cnt' → cnt' < cnt →
      w.grownBy w' (some r) → w'.heap.size = w.heap.size → (Instr.entry (.pointer (some ⟨r, 0, none⟩))).run Tryz.prog w' = .ok (.tuple #[.string ⟨k.toArray⟩, FV (.slice ad f.data.length cap) f.safe]) w' →
      wpList Tryz.prog ops Q rest (a.put o.dst (.tuple #[.bool true, .string ⟨k.toArray⟩, FV (.slice ad f.data.length cap) f.safe])) w') :
    wpList Tryz.prog ops Q (o :: rest) a w := by
  refine wpList_next_ranges w hg it hop 9 keyed RV encStr id (fun key kl hk => by obtain ⟨x, hx, _⟩ := Maps.keyOf_str Tryz.underlying9 hk; exact ⟨x, hx⟩) (fun v _ _ => ⟨v, rfl⟩) bm r n (DD l) left cnt hit h hDone ?_
  intro x c kl y w' cnt' hkey hlk hv hat hrg hlt hgr hsz hen
  obtain ⟨x', ex, rfl, _⟩ := Maps.keyOf_str Tryz.underlying9 hkey
  cases encStr_inj ex
  cases hv
  have hat' := hat
  simp only [DD_at] at hat'
  cases hgl : getL x l with
  | none => rw [hgl] at hat'; have := hat' .nil; cases this
  | some e =>
    obtain ⟨v, f⟩ := e
    obtain ⟨ad, cap, hv⟩ := hrow _ (getL_some hgl)
    simp only at hv
    subst hv
    rw [hgl] at hat'
    have hc := hat' .nil
    simp only [DataW.held.injEq, id_eq] at hc
    subst hc
    exact hMore x ad cap f w' cnt' hgl hlk hrg hlt hgr hsz hen

theorem RowsOk.slices {w : World} {own : Nat → Prop} {l : List (Bs × Ent)} (h : RowsOk w own l) : ∀ p ∈ l, ∃ a cap, p.2.1 = .slice a p.2.2.data.length cap := fun p hp => own_slice (h.1 p hp).1

set_option maxRecDepth 100000 in
set_option maxHeartbeats 1600000 in
theorem used_any {own : Nat → Prop} {bd bm room : Nat} {l : List (Bs × Ent)} {fuse : Int} {down : Bool} (w : World) (h : HeldL w own bd bm room l fuse down) (hs : sumL (fun x => x.2.data.length) l ≤ 262144) :
    Calls Tryz.prog 236 #[.pointer (some ⟨bd, 0, none⟩)] w fun e w' => e = .returned (.int .i64 (sumL (fun x => x.2.data.length) l : Nat)) ∧ Below w.heap.size w w' := by
  have c1 := h.base.c1
  have hown := h.base.map
  have hrow := h.rows.slices
  have hris := h.base.rising
  have hSA := sumLeft_all l
  obtain ⟨S, hS⟩ : ∃ S, S = sumL (fun x : Ent => x.2.data.length) l := ⟨_, rfl⟩
  rw [← hS] at hs hSA ⊢
  clear hS
  go_enter Tryz.func236, Tryz.ntmps236
  go_wp2_with (first | (at_range; refine wpList_range_own _ rfl _ 70 rfl 9 131 keyed Tryz.underlying70 RV bm l.length (DD l) rfl hown ?_; intro w0 hrg0 hg0 hs0) | go_in)
  go_frame
  have hb0 : Below w.heap.size w w0 := (Below.refl _ _).grown hg0 (Nat.le_refl _) (by simp)
  go_loopw [3] (fun u wr => ∃ left cnt, ∃ q : Nat, u = .int .i64 q ∧ wr.ranges Tryz.prog 9 RV bm w.heap.size l.length (DD l) left cnt ∧ q + sumLeft left l = S ∧ Below w.heap.size w wr) (fun _ wr => wr.rangeLeft bm w.heap.size)
  case atStart => exact ⟨_, _, 0, rfl, hrg0, by rw [hSA]; omega, hb0⟩
  case round =>
    obtain ⟨left, cnt, q, rfl, hrg, hq, hbel⟩ := hrel
    have hz := hbel.size
    go_wp2_with (first | (at_next; refine wpList_next_files rfl _ rfl bm w.heap.size l.length l left cnt hrow rfl hrg ?_ ?_) | go_in)
    · intro hc0 hl0
      have HQ := hide (show q = S by rw [sumLeft_none l hl0] at hq; omega)
      clear hq
      go_wp2
      go_ret
      rw [HQ.out]
      exact ⟨rfl, hbel⟩
    · intro k ad cap f w1 cnt1 hgl hlk hrg1 hlt hg1 hs1 hen
      have HQ := sumLeft_step hris hgl hlk
      simp only at HQ
      have hq1 : q + f.data.length + sumLeft (fun z => left z && !z.sameKey (.string k)) l = S := by omega
      have HQ1 := hide hq1
      have hqs : ((q : Int) + (f.data.length : Int)) ≤ 262144 := by omega
      have hb1 : Below w.heap.size w w1 := hbel.grown hg1 hz (by intro j hj; cases hj; exact Nat.le_refl _)
      have hz1 := hb1.size
      clear HQ hq1 hgl
      generalize f.data.length = m at *
      go_wp2
      go_roundw
      case rel => exact ⟨_, _, q + m, by go_num, hrg1.alloc _, HQ1.out, hb1.alloc hz1 _⟩
      case measure => rw [(hrg1.alloc _).left_eq, hrg.left_eq]; omega

end Go.Proofs.YtmpahgklcabihaaGreat.Dk

namespace Go.Proofs.YtmpahgklcabihaaGreat.Dk
open Go.RowKit Go.Maps Go.Joins

theorem append_str_at (w : World) (v : Value) (n : Nat) (xs : List Value) (s : ByteArray) (ty : TypeId) (hown : w.ownsRow 0 5 1 v n xs) (hk : n + s.size ≤ 140737488351232) :
    ∃ v' w', (Builtin.append_ #[64, 9] ty #[v, .string s]).run Tryz.prog w = .ok v' w' ∧ w'.ownsRow 0 5 1 v' (n + s.size) (xs ++ Lib.strCells s) ∧ w.grownBy w' v.ownBlock ∧ ∀ g, v'.ownBlock = some g → v.ownBlock = some g ∨ w.heap.size ≤ g := by
  obtain ⟨i0, hi, hz0, hz1, hz2⟩ := info_parts u8_info
  have hm : n + s.size ≤ maxLen := by unfold maxLen; omega
  obtain ⟨v', w', hr, h2, h3, h4⟩ := Lib.run_append_own_string (P := Tryz.prog) w 0 64 9 ty 5 i0 Tryz.underlying64 Tryz.underlying9 hi hz0 hz1 hz2 v n xs hown s hm (by omega) (by omega)
  refine ⟨v', w', hr, h2, h3, ?_⟩
  intro g hg
  rcases hown.2 with ⟨rfl, rfl⟩ | ⟨g', cap, cur, rfl, hbg, hgc, hnc, hcm, hcs, htake⟩
  · have hx : xs = [] := List.eq_nil_of_length_eq_zero (by simpa using hown.1)
    subst hx
    obtain ⟨v2, w2, hr2, k2, _⟩ := Lib.run_append_own_string (P := Tryz.prog) w w.heap.size 64 9 ty 5 i0 Tryz.underlying64 Tryz.underlying9 hi hz0 hz1 hz2 (.slice none 0 0) 0 [] (World.ownsRow_nil w w.heap.size 5 1) s hm (by omega) (Nat.le_refl _)
    rw [hr2] at hr
    cases hr
    exact Or.inr (k2.lt g hg).1
  · by_cases hroom : n + s.size ≤ cap
    · have hcs' : cur.size = cap := by simpa using hcs
      have hr2 := Lib.run_append_room_string (P := Tryz.prog) w 64 9 ty 5 i0 Tryz.underlying64 Tryz.underlying9 hi hz1 g' n cap cur hgc s hroom (by omega)
      rw [hr2] at hr
      cases hr
      exact Or.inl hg
    · have hr2 := Lib.run_append_grow_string (P := Tryz.prog) w 64 9 ty 5 i0 (.int .u8 0) Tryz.underlying64 Tryz.underlying9 hi hz0 ⟨g', 0, none⟩ n cap xs (by rw [hz1]; exact hown.1) (fun j u hj => hown.cells rfl j u hj) s (by omega) (by omega) (by rw [hz2]; exact growslice_fits (by omega) (by omega))
      rw [hr2] at hr
      cases hr
      simp [Value.ownBlock] at hg
      exact Or.inr (by omega)

theorem wpList_append_str {w : World} {ops : Array Oper} {rest : List Oper} {o : Oper} {a : Act} {Q : Exit → Act → World → Prop} (hgd : o.guard = none) (sl x : Operand)
    (ho : o.op = .call { callee := .builtin .append, args := #[sl, x], argTypes := #[64, 9] })
    (v : Value) (n : Nat) (xs : List Value) (hs : a.eval sl = v) (hown : w.ownsRow 0 5 1 v n xs) (s : ByteArray) (hx : a.eval x = .string s) (hk : n + s.size ≤ 140737488351232)
    (h : ∀ v' w', w'.ownsRow 0 5 1 v' (n + s.size) (xs ++ Lib.strCells s) → w.grownBy w' v.ownBlock → (∀ g, v'.ownBlock = some g → v.ownBlock = some g ∨ w.heap.size ≤ g) → wpList Tryz.prog ops Q rest (a.put o.dst v') w') : wpList Tryz.prog ops Q (o :: rest) a w := by
  refine wpList_plain hgd fun K hK => ?_
  obtain ⟨v', w', hr, h2, h3, h4⟩ := append_str_at w v n xs s o.type hown hk
  unfold Oper.wp execOp
  simp only [ho, resolve, invoke, builtin, Sem.run_bind, Sem.run_pure, Result.andThen_ok, List.map_toArray, List.map_cons, List.map_nil, hs, hx, hr]
  exact hK _ _ (h v' w' h2 h3 h4)

theorem step_append_str {w : World} {ops : Array Oper} {o : Oper} {a : Act} {K : Act → World → Prop} {Q : Exit → Act → World → Prop} {E : Prop} (hgd : o.guard = none) (sl x : Operand)
    (ho : o.op = .call { callee := .builtin .append, args := #[sl, x], argTypes := #[64, 9] })
    (v : Value) (n : Nat) (xs : List Value) (hs : a.eval sl = v) (hown : w.ownsRow 0 5 1 v n xs) (s : ByteArray) (hx : a.eval x = .string s) (hk : n + s.size ≤ 140737488351232)
    (h : ∀ v' w', w'.ownsRow 0 5 1 v' (n + s.size) (xs ++ Lib.strCells s) → w.grownBy w' v.ownBlock → (∀ g, v'.ownBlock = some g → v.ownBlock = some g ∨ w.heap.size ≤ g) → K (a.put o.dst v') w') :
    if Region.wanted o (yielded ops a.tmps) = true then Oper.wp Tryz.prog o a w K Q else E := by
  have hw : Region.wanted o (yielded ops a.tmps) = true := by simp [Region.wanted, hgd]
  rw [if_pos hw]
  obtain ⟨v', w', hr, h2, h3, h4⟩ := append_str_at w v n xs s o.type hown hk
  unfold Oper.wp execOp
  simp only [ho, resolve, invoke, builtin, Sem.run_bind, Sem.run_pure, Result.andThen_ok, List.map_toArray, List.map_cons, List.map_nil, hs, hx, hr]
  exact h v' w' h2 h3 h4

/-- what stays while a file grows -/
abbrev GS (w : World) (ob : Option Nat) (v : Value) (safe : Nat) (W : World) : Prop := W.cell? ⟨w.heap.size, 0, none⟩ = some v ∧ W.cell? ⟨w.heap.size, 1, none⟩ = some (.int .i64 safe) ∧ w.heap.size + 2 ≤ W.heap.size ∧ w.grownBy W ob
theorem GS.drew {w : World} {ob : Option Nat} {v : Value} {safe : Nat} {W : World} (h : GS w ob v safe W) : GS w ob v safe W.drew := ⟨h.1, h.2.1, h.2.2.1, ⟨h.2.2.2.os, h.2.2.2.tape, h.2.2.2.output, h.2.2.2.size, h.2.2.2.block⟩⟩
theorem GS.grown {w : World} {ob : Option Nat} {v : Value} {safe : Nat} {W W' : World} (h : GS w ob v safe W) (hlt : ∀ g, ob = some g → g < w.heap.size) (hg : W.grownBy W' ob) : GS w ob v safe W' := by
  obtain ⟨h0, h1, h2, h3⟩ := h
  have hb : W'.heap[w.heap.size]? = W.heap[w.heap.size]? := hg.block _ (by omega) fun e => by have := hlt _ e.symm; omega
  exact ⟨(World.cell?_of_block (a := ⟨w.heap.size, 0, none⟩) hb).trans h0, (World.cell?_of_block (a := ⟨w.heap.size, 1, none⟩) hb).trans h1, Nat.le_trans h2 hg.size, h3.trans hg⟩
theorem GS.set {w : World} {ob : Option Nat} {v : Value} {safe : Nat} {W : World} (h : GS w ob v safe W) (i : Nat) (u : Value) : GS w ob v safe (W.setCell ⟨w.heap.size + 1, i, none⟩ u) := by
  obtain ⟨h0, h1, h2, h3⟩ := h
  have hb : ∀ k, k < w.heap.size + 1 → (W.setCell ⟨w.heap.size + 1, i, none⟩ u).heap[k]? = W.heap[k]? := fun k hk => Below.heap_setCell W _ u k (by show k ≠ w.heap.size + 1; omega)
  exact ⟨(World.cell?_of_block (a := ⟨w.heap.size, 0, none⟩) (hb _ (by simp))).trans h0, (World.cell?_of_block (a := ⟨w.heap.size, 1, none⟩) (hb _ (by simp))).trans h1, by simpa using h2, ⟨h3.os, h3.tape, h3.output, by simpa using h3.size, fun k hk hn => (hb k (by omega)).trans (h3.block k hk hn)⟩⟩

set_option maxRecDepth 100000 in
set_option maxHeartbeats 800000 in
theorem grown_any (v : Value) (data : Bs) (safe : Nat) (s : ByteArray) (w : World) (hown : w.ownsRow 0 5 1 v data.length (bys data)) (hk : data.length + s.size ≤ 262144) :
    Calls Tryz.prog 237 #[FV v safe, .string s] w fun e w' => ∃ v', e = .returned (FV v' safe) ∧ w'.ownsRow 0 5 1 v' (data ++ s.data.toList).length (bys (data ++ s.data.toList)) ∧ w.grownBy w' v.ownBlock ∧ ∀ g, v'.ownBlock = some g → v.ownBlock = some g ∨ w.heap.size ≤ g := by
  obtain ⟨a, cap, rfl⟩ := own_slice hown
  have hlt : ∀ g, (Value.slice a data.length cap).ownBlock = some g → g < w.heap.size := fun g hg => (hown.lt g hg).2
  generalize hob : (Value.slice a data.length cap).ownBlock = ob at *
  go_enter Tryz.func237, Tryz.ntmps237
  go_wp2
  obtain ⟨W, hW⟩ : ∃ W, W = (w.alloc (.cells #[.slice a data.length cap, .int .i64 safe] 131)).alloc (.cells #[.slice none 0 0, .int .i64 0] 131) := ⟨_, rfl⟩
  have hownW : W.ownsRow 0 5 1 (.slice a data.length cap) data.length (bys data) := by rw [hW]; exact (hown.alloc _).alloc _
  have hS : GS w ob (.slice a data.length cap) safe W := by
    rw [hW]; refine ⟨by simp, by simp, by simp, (World.grownBy_alloc w _ _).trans (World.grownBy_alloc _ _ _)⟩
  have hlt' : ∀ g, ob = some g → g < w.heap.size := hlt
  have hX : W.heap[w.heap.size + 1]? = some (.cells #[.slice none 0 0, .int .i64 0] 131 (0, 0)) := by
    rw [hW]
    have := heap_alloc_new (w.alloc (.cells #[.slice a data.length cap, .int .i64 safe] 131)) (.cells #[.slice none 0 0, .int .i64 0] 131)
    simpa using this
  have hXl : w.heap.size + 1 < W.drew.heap.size := (Array.getElem?_eq_some_iff.1 hX).1
  rw [← hW]
  clear hW
  go_region_held3 (GS w ob (.slice a data.length cap) safe) (first | exact GS.grown (by assumption) hlt' (by assumption) | exact GS.drew (by assumption) | exact GS.set (GS.set (by assumption) _ _) _ _ | exact GS.set (by assumption) _ _)
    (first | (refine step_append_str rfl (.tmp 6) (.tmp 7) rfl (.slice a data.length cap) _ _ rfl hownW.drew s rfl (by omega) ?_; rw [hob]; intro v4 w4 hown4 hg4 hat4; obtain ⟨a4, c4, rfl⟩ := own_slice hown4; have hX4 := (hg4.block (w.heap.size + 1) hXl (fun e => absurd (hlt' _ e.symm) (by omega))).trans hX; have e0 : w4.cell? ⟨w.heap.size + 1, 0, none⟩ = some (.slice none 0 0) := cell_of_block hX4 0; have e1 : w4.cell? ⟨w.heap.size + 1, 1, none⟩ = some (.int .i64 0) := cell_of_block hX4 1; have z0 := unfrozen_of_block hX4 0; have z1 := unfrozen_of_block hX4 1))
  have hH : GS w ob (.slice a data.length cap) safe ((w4.setCell ⟨w.heap.size + 1, 0, none⟩ (.slice a4 (data.length + s.size) c4)).setCell ⟨w.heap.size + 1, 1, none⟩ (.int .i64 safe)) := by assumption
  have hne : ∀ g, (Value.slice a4 (data.length + s.size) c4).ownBlock = some g → g ≠ w.heap.size + 1 := fun g hg e => by
    rcases hat4 g hg with h1 | h1
    · have := hlt' g h1; omega
    · omega
  have ho5 : ((w4.setCell ⟨w.heap.size + 1, 0, none⟩ (.slice a4 (data.length + s.size) c4)).setCell ⟨w.heap.size + 1, 1, none⟩ (.int .i64 safe)).ownsRow 0 5 1 (.slice a4 (data.length + s.size) c4) (data.length + s.size) (bys data ++ Lib.strCells s) :=
    ownsRow_stay hown4 fun g hg => (Below.heap_setCell _ _ _ g (hne g hg)).trans (Below.heap_setCell _ _ _ g (hne g hg))
  have hXl' : w.heap.size ≤ W.drew.heap.size := by omega
  clear hX hX4 hownW hown4
  go_wp2
  refine bodyPost_ret (v := FV (.slice a4 (data.length + s.size) c4) safe) (by simp [results, Tryz.results237, go_sem, e0, e1]) rfl ?_
  refine ⟨_, rfl, ?_, hH.2.2.2, fun g hg => (hat4 g hg).imp id fun h1 => by omega⟩
  rw [bys_str] at ho5
  have : (data ++ s.data.toList).length = data.length + s.size := by rw [List.length_append, ← Lib.size_eq]
  rw [this]; exact ho5

end Go.Proofs.YtmpahgklcabihaaGreat.Dk

namespace Go.Proofs.YtmpahgklcabihaaGreat.Dk
open Go.RowKit Go.Maps Go.Joins

theorem own_cut {w : World} {a : Option Addr} {cap : Nat} {data : Bs} (h : w.ownsRow 0 5 1 (.slice a data.length cap) data.length (bys data)) (k : Nat) (hk : k ≤ data.length) :
    w.ownsRow 0 5 1 (.slice a k cap) (data.take k).length (bys (data.take k)) := by
  have hl : (data.take k).length = k := by rw [List.length_take]; omega
  rw [hl]
  refine ⟨by rw [bys_length, hl]; omega, ?_⟩
  rcases h.2 with ⟨e, h0⟩ | ⟨g, cap', cur, e, hb, hg, h1, h2, h3, h4⟩
  · obtain ⟨rfl, _, rfl⟩ : a = none ∧ data.length = 0 ∧ cap = 0 := by simpa using e
    left
    have : k = 0 := by omega
    subst this
    exact ⟨rfl, rfl⟩
  · cases e
    refine .inr ⟨g, cap, cur, rfl, hb, hg, by omega, h2, h3, ?_⟩
    have e1 : bys (data.take k) = (bys data).take k := by simp [bys]
    rw [e1, ← h4, List.take_take]
    congr 1
    omega

set_option maxRecDepth 100000 in
set_option maxHeartbeats 400000 in
theorem cutTo_any (a : Option Addr) (n cap safe k : Nat) (w : World) (hk : k ≤ n) (hn : n ≤ cap) (hz : a = none → cap = 0) (hc : cap ≤ 9223372036854775807) (hs : safe ≤ 262144) :
    Calls Tryz.prog 114 #[FV (.slice a n cap) safe, .int .i64 k] w fun e w' => e = .returned (FV (.slice a k cap) (min safe k)) ∧ Below w.heap.size w w' := by
  have i1 : (0 : Int) ≤ (k : Int) := by omega
  have i2 : (k : Int) ≤ (n : Int) := by omega
  have i3 : (k : Int) ≤ (cap : Int) := by omega
  cases a with
  | none =>
    have := hz rfl
    subst this
    have : n = 0 := by omega
    subst this
    have : k = 0 := by omega
    subst this
    go_enter Tryz.func114, Tryz.ntmps114
    go_wp2
    obtain ⟨W, hW⟩ : ∃ W, W = (w.alloc (.cells #[.slice none 0 0, .int .i64 safe] 131)).alloc (.cells #[.slice none 0 0, .int .i64 0] 131) := ⟨_, rfl⟩
    have hS : GS w none (.slice none 0 0) safe W := by
      rw [hW]; refine ⟨by simp, by simp, by simp, (World.grownBy_alloc w _ _).trans (World.grownBy_alloc _ _ _)⟩
    have hX : W.heap[w.heap.size + 1]? = some (.cells #[.slice none 0 0, .int .i64 0] 131 (0, 0)) := by
      rw [hW]
      have := heap_alloc_new (w.alloc (.cells #[.slice none 0 0, .int .i64 safe] 131)) (.cells #[.slice none 0 0, .int .i64 0] 131)
      simpa using this
    rw [← hW]
    clear hW
    have e0 : W.cell? ⟨w.heap.size + 1, 0, none⟩ = some (.slice none 0 0) := cell_of_block hX 0
    have e1 : W.cell? ⟨w.heap.size + 1, 1, none⟩ = some (.int .i64 0) := cell_of_block hX 1
    have z0 := unfrozen_of_block hX 0
    have z1 := unfrozen_of_block hX 1
    go_region_held3 (GS w none (.slice none 0 0) safe) (first | exact GS.drew (by assumption) | exact GS.set (GS.set (by assumption) _ _) _ _ | exact GS.set (by assumption) _ _) (first | fail)
    have hH := ‹GS w none (.slice none 0 0) safe _›
    go_wp2
    have hmin : min (safe : Int) 0 = 0 := by omega
    exact bodyPost_ret (v := FV (.slice none 0 0) (min safe 0)) (by simp [results, Tryz.results114, go_sem, e0, e1, hmin]) rfl ⟨rfl, (Below.refl _ _).grown hH.2.2.2 (Nat.le_refl _) (by simp)⟩
  | some ad =>
    go_enter Tryz.func114, Tryz.ntmps114
    go_wp2
    obtain ⟨W, hW⟩ : ∃ W, W = (w.alloc (.cells #[.slice (some ad) n cap, .int .i64 safe] 131)).alloc (.cells #[.slice none 0 0, .int .i64 0] 131) := ⟨_, rfl⟩
    have hS : GS w none (.slice (some ad) n cap) safe W := by
      rw [hW]; refine ⟨by simp, by simp, by simp, (World.grownBy_alloc w _ _).trans (World.grownBy_alloc _ _ _)⟩
    have hX : W.heap[w.heap.size + 1]? = some (.cells #[.slice none 0 0, .int .i64 0] 131 (0, 0)) := by
      rw [hW]
      have := heap_alloc_new (w.alloc (.cells #[.slice (some ad) n cap, .int .i64 safe] 131)) (.cells #[.slice none 0 0, .int .i64 0] 131)
      simpa using this
    rw [← hW]
    clear hW
    have e0 : W.cell? ⟨w.heap.size + 1, 0, none⟩ = some (.slice none 0 0) := cell_of_block hX 0
    have e1 : W.cell? ⟨w.heap.size + 1, 1, none⟩ = some (.int .i64 0) := cell_of_block hX 1
    have z0 := unfrozen_of_block hX 0
    have z1 := unfrozen_of_block hX 1
    go_region_held3 (GS w none (.slice (some ad) n cap) safe) (first | exact GS.drew (by assumption) | exact GS.set (GS.set (by assumption) _ _) _ _ | exact GS.set (by assumption) _ _) (first | fail)
    have hH := ‹GS w none (.slice (some ad) n cap) safe _›
    go_wp2
    have hmin : ((min safe k : Nat) : Int) = min (safe : Int) (k : Int) := by omega
    exact bodyPost_ret (v := FV (.slice (some ad) k cap) (min safe k)) (by simp [results, Tryz.results114, go_sem, e0, e1, hmin]) rfl ⟨rfl, (Below.refl _ _).grown hH.2.2.2 (Nat.le_refl _) (by simp)⟩

set_option maxRecDepth 100000 in
set_option maxHeartbeats 400000 in
theorem synced_any (a : Option Addr) (n cap safe : Nat) (w : World) :
    Calls Tryz.prog 115 #[FV (.slice a n cap) safe] w fun e w' => e = .returned (FV (.slice a n cap) n) ∧ Below w.heap.size w w' := by
  go_enter Tryz.func115, Tryz.ntmps115
  go_wp2
  exact bodyPost_ret (v := FV (.slice a n cap) n) (by simp [results, Tryz.results115, go_sem]) rfl ⟨rfl, below_alloc2 _ _ _⟩

set_option maxRecDepth 100000 in
set_option maxHeartbeats 400000 in
theorem tail_any (a : Option Addr) (n cap safe : Nat) (w : World) (hs : safe ≤ n) (hn : n ≤ 262144) :
    Calls Tryz.prog 70 #[FV (.slice a n cap) safe] w fun e w' => e = .returned (.int .i64 (n - safe : Nat)) ∧ Below w.heap.size w w' := by
  go_enter Tryz.func70, Tryz.ntmps70
  go_wp2
  go_ret
  exact ⟨ret_int (by omega), (Below.refl _ _).alloc (Nat.le_refl _) _⟩

theorem two_boxes {w W : World} {x0 x1 y0 y1 : Value} {t u : TypeId} (h : W = (w.alloc (.cells #[x0, x1] t)).alloc (.cells #[y0, y1] u)) :
    W.heap[w.heap.size]? = some (.cells #[x0, x1] t (0, 0)) ∧ W.heap[w.heap.size + 1]? = some (.cells #[y0, y1] u (0, 0)) ∧ Below w.heap.size w W := by
  subst h
  refine ⟨?_, ?_, below_alloc2 _ _ _⟩
  · rw [Below.heap_alloc _ _ _ (by simp)]; exact heap_alloc_new w _
  · have := heap_alloc_new (w.alloc (.cells #[x0, x1] t)) (.cells #[y0, y1] u)
    simpa using this

/-- how much of a tail is left -/
def keptOf (draw : Int) (tail : Nat) : Nat := if 0 < draw then (draw % (tail + 1 : Int)).toNat else 0
theorem keptOf_le (draw : Int) (tail : Nat) : keptOf draw tail ≤ tail := by
  unfold keptOf
  split
  · have := Int.emod_lt_of_pos draw (show (0 : Int) < (tail : Int) + 1 by omega)
    have := Int.emod_nonneg draw (show (tail : Int) + 1 ≠ 0 by omega)
    omega
  · omega

set_option maxRecDepth 100000 in
set_option maxHeartbeats 1600000 in
theorem torn_any (a : Option Addr) (n cap safe : Nat) (draw : Int) (w : World) (hsn : safe ≤ n) (hn : n ≤ cap) (hz : a = none → cap = 0) (hc : cap ≤ 9223372036854775807) (hs : n ≤ 262144) (d0 : -9223372036854775808 ≤ draw) (d1 : draw ≤ 9223372036854775807) :
    Calls Tryz.prog 71 #[FV (.slice a n cap) safe, .int .i64 draw] w fun e w' => e = .returned (FV (.slice a (safe + keptOf draw (n - safe)) cap) (safe + keptOf draw (n - safe))) ∧ Below w.heap.size w w' := by
  have hkl := keptOf_le draw (n - safe)
  by_cases hd : 0 < draw
  · have hke : (keptOf draw (n - safe) : Int) = draw % ((n - safe : Nat) + 1 : Int) := by
      have := Int.emod_nonneg draw (show ((n - safe : Nat) : Int) + 1 ≠ 0 by omega)
      unfold keptOf; rw [if_pos hd]; omega
    generalize keptOf draw (n - safe) = q at *
    go_enter Tryz.func71, Tryz.ntmps71
    go_wp2_with fail
    obtain ⟨W, hW⟩ : ∃ W, W = (w.alloc (.cells #[.slice a n cap, .int .i64 safe] 131)).alloc (.cells #[.slice none 0 0, .int .i64 0] 131) := ⟨_, rfl⟩
    obtain ⟨hA, hB, hbW⟩ := two_boxes hW
    rw [← hW]
    clear hW
    have hzA := (Array.getElem?_eq_some_iff.1 hA).1
    have hzB := (Array.getElem?_eq_some_iff.1 hB).1
    refine (tail_any a n cap safe W hsn hs).mono ?_
    rintro e w1 ⟨rfl, hb1⟩
    have hz1 := hb1.size
    have hA1 := (hb1.block _ hzA).trans hA
    have hB1 := (hb1.block _ hzB).trans hB
    have hb1' := hbW.trans (hb1.mono hbW.size)
    have c0 : w1.cell? ⟨w.heap.size, 0, none⟩ = some (.slice a n cap) := cell_of_block hA1 0
    have c1 : w1.cell? ⟨w.heap.size, 1, none⟩ = some (.int .i64 safe) := cell_of_block hA1 1
    clear hA hB hb1 hbW
    go_wp2_with fail
    rw [show (safe : Int) + draw % ((n - safe : Nat) + 1 : Int) = ((safe + q : Nat) : Int) by omega]
    refine (cutTo_any a n cap safe (safe + q) w1 (by omega) hn hz hc (by omega)).mono ?_
    rintro e w2 ⟨rfl, hb2⟩
    have hA2 := (hb2.block _ (by omega)).trans hA1
    have hB2 := (hb2.block _ (by omega)).trans hB1
    have hb2' := hb1'.trans (hb2.mono (by omega))
    have hz2 := hb2.size
    clear hb2 hA1 hB1 hb1'
    go_wp2_with fail
    refine (synced_any a (safe + q) cap _ w2).mono ?_
    rintro e w3 ⟨rfl, hb3⟩
    have hB3 := (hb3.block _ (by omega)).trans hB2
    have hb3' := hb2'.trans (hb3.mono (by omega))
    have hz3 := hb3.size
    have e0 : w3.cell? ⟨w.heap.size + 1, 0, none⟩ = some (.slice none 0 0) := cell_of_block hB3 0
    have e1 : w3.cell? ⟨w.heap.size + 1, 1, none⟩ = some (.int .i64 0) := cell_of_block hB3 1
    have z0 := unfrozen_of_block hB3 0
    have z1 := unfrozen_of_block hB3 1
    clear hb3 hA2 hB2 hb2' hB3
    go_wp2
    exact bodyPost_ret (v := FV (.slice a (safe + q) cap) (safe + q)) (by simp [results, Tryz.results71, go_sem, e0, e1, hke]) rfl ⟨rfl, (hb3'.setCell (by simp) _).setCell (by simp) _⟩
  · have hk0 : keptOf draw (n - safe) = 0 := by unfold keptOf; rw [if_neg hd]
    rw [hk0]
    go_enter Tryz.func71, Tryz.ntmps71
    go_wp2_with fail
    obtain ⟨W, hW⟩ : ∃ W, W = (w.alloc (.cells #[.slice a n cap, .int .i64 safe] 131)).alloc (.cells #[.slice none 0 0, .int .i64 0] 131) := ⟨_, rfl⟩
    obtain ⟨hA, hB, hbW⟩ := two_boxes hW
    rw [← hW]
    clear hW
    have hzA := (Array.getElem?_eq_some_iff.1 hA).1
    have hzB := (Array.getElem?_eq_some_iff.1 hB).1
    refine (cutTo_any a n cap safe safe W (by omega) hn hz hc (by omega)).mono ?_
    rintro e w2 ⟨rfl, hb2⟩
    have hA2 := (hb2.block _ (by omega)).trans hA
    have hB2 := (hb2.block _ (by omega)).trans hB
    have hb2' := hbW.trans (hb2.mono (by omega))
    have hz2 := hb2.size
    clear hb2 hA hB hbW
    go_wp2_with fail
    refine (synced_any a safe cap _ w2).mono ?_
    rintro e w3 ⟨rfl, hb3⟩
    have hB3 := (hb3.block _ (by omega)).trans hB2
    have hb3' := hb2'.trans (hb3.mono (by omega))
    have hz3 := hb3.size
    have e0 : w3.cell? ⟨w.heap.size + 1, 0, none⟩ = some (.slice none 0 0) := cell_of_block hB3 0
    have e1 : w3.cell? ⟨w.heap.size + 1, 1, none⟩ = some (.int .i64 0) := cell_of_block hB3 1
    have z0 := unfrozen_of_block hB3 0
    have z1 := unfrozen_of_block hB3 1
    clear hb3 hA2 hB2 hb2' hB3
    go_wp2
    exact bodyPost_ret (v := FV (.slice a safe cap) safe) (by simp [results, Tryz.results71, go_sem, e0, e1]) rfl ⟨rfl, (hb3'.setCell (by simp) _).setCell (by simp) _⟩

end Go.Proofs.YtmpahgklcabihaaGreat.Dk

namespace Go.Proofs.YtmpahgklcabihaaGreat.Dk
open Go.RowKit Go.Maps Go.Joins

abbrev noFile : Value := FV (.slice none 0 0) 0
/-- what the map has at a key -/
def fileAt (l : List (Bs × Ent)) (k : Bs) : Value := match getL k l with | some x => FV x.1 x.2.safe | none => noFile

theorem wpList_lookup_file {w : World} {ops : Array Oper} {rest : List Oper} {o : Oper} {a : Act} {Q : Exit → Act → World → Prop} (hg : o.guard = none) (m x : Operand) (hop : o.op = Op.lookup MapT m x true)
    (bm n : Nat) (l : List (Bs × Ent)) (hm : a.eval m = .map (some bm)) (hown : w.ownsMap Tryz.prog 9 RV bm n (DD l)) (s : ByteArray) (hs : s.size ≤ 140737488351232) (hx : a.eval x = .string s)
    (v : Value) (b : Bool) (hv : fileAt l s.data.toList = v) (hb : (getL s.data.toList l).isSome = b)
    (hK : wpList Tryz.prog ops Q rest (a.put o.dst (.tuple #[v, .bool b])) w) :
    wpList Tryz.prog ops Q (o :: rest) a w := by
  refine wpList_lookup_own_ok w hg m x MapT hop 9 131 keyed Tryz.underlying70 RV (zero_file w) (.held noFile) [] rfl bm n (DD l) hm hown (.string s) (.string s.data.toList) hx (key_str s hs) ?_
  intro v' ps hv'
  rw [DD_has, hb]
  have : v' = v := by
    rw [← hv]
    simp only [DD_at, Option.some.injEq, Prod.mk.injEq] at hv'
    unfold fileAt
    cases hgl : getL s.data.toList l with
    | none => rw [hgl] at hv'; exact DataW.held.inj hv'.1
    | some e => rw [hgl] at hv'; exact DataW.held.inj hv'.1
  rw [this]
  exact hK

theorem wpList_lookup_file1 {w : World} {ops : Array Oper} {rest : List Oper} {o : Oper} {a : Act} {Q : Exit → Act → World → Prop} (hg : o.guard = none) (m x : Operand) (hop : o.op = Op.lookup MapT m x false)
    (bm n : Nat) (l : List (Bs × Ent)) (hm : a.eval m = .map (some bm)) (hown : w.ownsMap Tryz.prog 9 RV bm n (DD l)) (s : ByteArray) (hs : s.size ≤ 140737488351232) (hx : a.eval x = .string s)
    (v : Value) (hv : fileAt l s.data.toList = v)
    (hK : wpList Tryz.prog ops Q rest (a.put o.dst v) w) :
    wpList Tryz.prog ops Q (o :: rest) a w := by
  refine wpList_plain hg fun K' hK' => ?_
  obtain ⟨v', ps, hrun, hv'⟩ := hown.lookup keyed Tryz.underlying70 (zero_file w) (R := RV) (zd := .held noFile) (zp := []) rfl (key_str s hs)
  unfold Oper.wp
  simp [execOp, hop, hm, hx, hrun, Result.andThen]
  refine hK' _ _ ?_
  have : v' = v := by
    rw [← hv]
    simp only [DD_at, Option.some.injEq, Prod.mk.injEq] at hv'
    unfold fileAt
    cases hgl : getL s.data.toList l with
    | none => rw [hgl] at hv'; exact DataW.held.inj hv'.1
    | some e => rw [hgl] at hv'; exact DataW.held.inj hv'.1
  rw [this]
  exact hK

theorem one_box {w : World} {x0 x1 : Value} {t : TypeId} : (w.alloc (.cells #[x0, x1] t)).heap[w.heap.size]? = some (.cells #[x0, x1] t (0, 0)) ∧ Below w.heap.size w (w.alloc (.cells #[x0, x1] t)) :=
  ⟨heap_alloc_new w _, below_alloc1 _ _⟩

/-- what find answers -/
def findV (l : List (Bs × Ent)) (k : Bs) : Value := if named k = true then (match getL k l with | some x => .tuple #[FV x.1 x.2.safe, .int .i64 0] | none => .tuple #[noFile, .int .i64 5]) else .tuple #[noFile, .int .i64 20]

set_option maxRecDepth 100000 in
set_option maxHeartbeats 800000 in
theorem find_any {own : Nat → Prop} {bd bm room : Nat} {l : List (Bs × Ent)} {fuse : Int} {down : Bool} (w : World) (h : HeldL w own bd bm room l fuse down) (s : ByteArray) (hs : s.size ≤ 140737488351232) :
    Calls Tryz.prog 72 #[.pointer (some ⟨bd, 0, none⟩), .string s] w fun e w' => e = .returned (findV l s.data.toList) ∧ Below w.heap.size w w' := by
  have hN := fun W => name_any s W hs
  have hbox := one_box (w := w) (x0 := .slice none 0 0) (x1 := .int .i64 0) (t := 131)
  cases hnm : named s.data.toList
  · rw [hnm] at hN
    have hfv : findV l s.data.toList = .tuple #[noFile, .int .i64 20] := by simp [findV, hnm]
    rw [hfv]
    clear hfv hnm
    go_enter Tryz.func72, Tryz.ntmps72
    go_wp2_with fail
    refine (hN _).mono ?_
    rintro e w1 ⟨rfl, hb1⟩
    have hA1 := (hb1.block _ (by simp)).trans hbox.1
    have hb1' := hbox.2.trans (hb1.mono (by simp))
    have e0 : w1.cell? ⟨w.heap.size, 0, none⟩ = some (.slice none 0 0) := cell_of_block hA1 0
    have e1 : w1.cell? ⟨w.heap.size, 1, none⟩ = some (.int .i64 0) := cell_of_block hA1 1
    have z0 := unfrozen_of_block hA1 0
    have z1 := unfrozen_of_block hA1 1
    clear hA1 hb1 hbox hN
    go_wp2
    exact bodyPost_ret (v := .tuple #[noFile, .int .i64 20]) (by simp [results, Tryz.results72, go_sem, e0, e1]) rfl ⟨rfl, (hb1'.setCell (by simp) _).setCell (by simp) _⟩
  · rw [hnm] at hN
    have h0 := h.below hbox.2
    have key : ∀ w1, Below (w.alloc (.cells #[.slice none 0 0, .int .i64 0] 131)).heap.size (w.alloc (.cells #[.slice none 0 0, .int .i64 0] 131)) w1 → HeldL w1 own bd bm room l fuse down := fun w1 hb => h0.below hb
    have hsl := h.rows.slices
    clear h h0
    cases hgl : getL s.data.toList l with
    | none =>
      have hfv : findV l s.data.toList = .tuple #[noFile, .int .i64 5] := by simp [findV, hnm, hgl]
      have hfa : fileAt l s.data.toList = noFile := by simp [fileAt, hgl]
      have hsm : (getL s.data.toList l).isSome = false := by rw [hgl]; rfl
      rw [hfv]
      clear hfv hnm hgl
      go_enter Tryz.func72, Tryz.ntmps72
      go_wp2_with fail
      refine (hN _).mono ?_
      rintro e w1 ⟨rfl, hb1⟩
      have hA1 := (hb1.block _ (by simp)).trans hbox.1
      have hb1' := hbox.2.trans (hb1.mono (by simp))
      have hz1 := hb1.size
      simp at hz1
      have h1 := key w1 hb1
      have e0 : w1.cell? ⟨w.heap.size, 0, none⟩ = some (.slice none 0 0) := cell_of_block hA1 0
      have e1 : w1.cell? ⟨w.heap.size, 1, none⟩ = some (.int .i64 0) := cell_of_block hA1 1
      have z0 := unfrozen_of_block hA1 0
      have z1 := unfrozen_of_block hA1 1
      have c1 := h1.base.c1
      have hown := h1.base.map
      have hlt : w.heap.size < w1.heap.size := by omega
      clear hA1 hb1 hbox hN h1 key
      go_wp2_with (first | (at_lookup; refine wpList_lookup_file rfl _ _ rfl bm l.length l rfl hown s hs rfl noFile false hfa hsm ?_) | go_in)
      exact bodyPost_ret (v := .tuple #[noFile, .int .i64 5]) (by simp [results, Tryz.results72, go_sem, e0, e1, hlt]) rfl ⟨rfl, ((hb1'.setCell (by simp) _).setCell (by simp) _).alloc (by simp; omega) _⟩
    | some x =>
      obtain ⟨v, f⟩ := x
      obtain ⟨ad, cap, rfl⟩ : ∃ ad cap, v = .slice ad f.data.length cap := hsl _ (getL_some hgl)
      have hfv : findV l s.data.toList = .tuple #[FV (.slice ad f.data.length cap) f.safe, .int .i64 0] := by simp [findV, hnm, hgl]
      have hfa : fileAt l s.data.toList = FV (.slice ad f.data.length cap) f.safe := by simp [fileAt, hgl]
      have hsm : (getL s.data.toList l).isSome = true := by rw [hgl]; rfl
      rw [hfv]
      clear hfv hnm hgl
      go_enter Tryz.func72, Tryz.ntmps72
      go_wp2_with fail
      refine (hN _).mono ?_
      rintro e w1 ⟨rfl, hb1⟩
      have hA1 := (hb1.block _ (by simp)).trans hbox.1
      have hb1' := hbox.2.trans (hb1.mono (by simp))
      have hz1 := hb1.size
      simp at hz1
      have h1 := key w1 hb1
      have e0 : w1.cell? ⟨w.heap.size, 0, none⟩ = some (.slice none 0 0) := cell_of_block hA1 0
      have e1 : w1.cell? ⟨w.heap.size, 1, none⟩ = some (.int .i64 0) := cell_of_block hA1 1
      have z0 := unfrozen_of_block hA1 0
      have z1 := unfrozen_of_block hA1 1
      have c1 := h1.base.c1
      have hown := h1.base.map
      have hlt : w.heap.size < w1.heap.size := by omega
      clear hA1 hb1 hbox hN h1 key
      go_wp2_with (first | (at_lookup; refine wpList_lookup_file rfl _ _ rfl bm l.length l rfl hown s hs rfl (FV (.slice ad f.data.length cap) f.safe) true hfa hsm ?_) | go_in)
      exact bodyPost_ret (v := .tuple #[FV (.slice ad f.data.length cap) f.safe, .int .i64 0]) (by simp [results, Tryz.results72, go_sem, e0, e1, hlt]) rfl ⟨rfl, ((hb1'.setCell (by simp) _).setCell (by simp) _).alloc (by simp; omega) _⟩

end Go.Proofs.YtmpahgklcabihaaGreat.Dk

namespace Go.Proofs.YtmpahgklcabihaaGreat.Dk
open Go.RowKit Go.Maps Go.Joins

theorem store_file {w : World} {bm : Nat} {l : List (Bs × Ent)} (hown : w.ownsMap Tryz.prog 9 RV bm l.length (DD l)) (hn : l.length ≤ 64) (s : ByteArray) (hs : s.size ≤ 32) (v : Value) (f : Fil) :
    ∃ w', (Instr.mapUpdate MapT (.map (some bm)) (.string s) (.agg #[v, .int .i64 f.safe])).run Tryz.prog w = .ok () w' ∧ w'.ownsMap Tryz.prog 9 RV bm (putL s.data.toList (v, f) l).length (DD (putL s.data.toList (v, f) l)) ∧ w.mapTurned w' bm := by
  obtain ⟨w', hrun, r1, r2⟩ := hown.store keyed Tryz.underlying70 (by unfold maxLen; omega) (key_str s (by omega)) (val := FV v f.safe) (d := .held (FV v f.safe)) (ps := []) rfl
  rw [DD_put] at r1
  exact ⟨w', hrun, ownsMap_tight r1, r2⟩

/-- what stays while a file is put -/
abbrev PS (bd bm h : Nat) (v : Value) (safe : Nat) (W : World) : Prop := W.cell? ⟨bd, 1, none⟩ = some (.map (some bm)) ∧ W.cell? ⟨h, 0, none⟩ = some v ∧ W.cell? ⟨h, 1, none⟩ = some (.int .i64 safe)
theorem PS.drew {bd bm h : Nat} {v : Value} {safe : Nat} {W : World} (hS : PS bd bm h v safe W) : PS bd bm h v safe W.drew := hS
theorem PS.same {bd bm h : Nat} {v : Value} {safe : Nat} {W W' : World} (hS : PS bd bm h v safe W) (h1 : W'.heap[bd]? = W.heap[bd]?) (h2 : W'.heap[h]? = W.heap[h]?) : PS bd bm h v safe W' :=
  ⟨(World.cell?_of_block (a := ⟨bd, 1, none⟩) h1).trans hS.1, (World.cell?_of_block (a := ⟨h, 0, none⟩) h2).trans hS.2.1, (World.cell?_of_block (a := ⟨h, 1, none⟩) h2).trans hS.2.2⟩
theorem PS.lt {bd bm h : Nat} {v : Value} {safe : Nat} {W : World} (hS : PS bd bm h v safe W) : bd < W.heap.size ∧ h < W.heap.size := ⟨World.block_lt_of_cell? W _ hS.1, World.block_lt_of_cell? W _ hS.2.1⟩
theorem PS.below {bd bm h : Nat} {v : Value} {safe : Nat} {W W' : World} (hb : Below W.heap.size W W') (hS : PS bd bm h v safe W) : PS bd bm h v safe W' := hS.same (hb.block _ hS.lt.1) (hb.block _ hS.lt.2)
theorem PS.turned {bd bm h : Nat} {v : Value} {safe : Nat} {W W' : World} (ht : W.mapTurned W' bm) (h1 : bd ≠ bm) (h2 : h ≠ bm) (hS : PS bd bm h v safe W) : PS bd bm h v safe W' :=
  hS.same (ht.grown.block _ hS.lt.1 (by simpa using h1)) (ht.grown.block _ hS.lt.2 (by simpa using h2))

set_option maxHeartbeats 800000 in
set_option maxRecDepth 100000 in
theorem put_any {own : Nat → Prop} {bd bm room : Nat} {l : List (Bs × Ent)} {fuse : Int} {down : Bool} (w : World) (h : Base w own bd bm room l fuse down) (s : ByteArray) (hs : s.size ≤ 32) (a : Option Addr) (cap : Nat) (f : Fil) (hr : RowsOk w own (delL s.data.toList l))
    (hx : RowOk w own (.slice a f.data.length cap, f)) (ha : ∀ p ∈ delL s.data.toList l, Apart (.slice a f.data.length cap, f) p.2) (hn : l.length ≤ 64) :
    Calls Tryz.prog 140 #[.pointer (some ⟨bd, 0, none⟩), .string s, FV (.slice a f.data.length cap) f.safe] w fun e w' => e = .returned (.tuple #[]) ∧ HeldL w' own bd bm room (putL s.data.toList (.slice a f.data.length cap, f) l) fuse down ∧ w.grownBy w' (some bm) := by
  have hC := fun W => clone_any s W (by omega)
  go_enter Tryz.func140, Tryz.ntmps140
  go_wp2
  obtain ⟨W, hW⟩ : ∃ W, W = w.alloc (.cells #[.slice a f.data.length cap, .int .i64 f.safe] 131) := ⟨_, rfl⟩
  have hbW : Below w.heap.size w W := by rw [hW]; exact below_alloc1 _ _
  have hA : W.heap[w.heap.size]? = some (.cells #[.slice a f.data.length cap, .int .i64 f.safe] 131 (0, 0)) := by rw [hW]; exact heap_alloc_new w _
  have hzW : w.heap.size < W.heap.size := (Array.getElem?_eq_some_iff.1 hA).1
  rw [← hW]
  clear hW
  have hB := h.stay (hbW.block _ h.lt) (hbW.block _ h.map.lt)
  have hS : PS bd bm w.heap.size (.slice a f.data.length cap) f.safe W := ⟨hB.c1, cell_of_block hA 0, cell_of_block hA 1⟩
  have hne1 := h.ne
  have hne2 : w.heap.size ≠ bm := by have := h.map.lt; omega
  go_region_held3 (PS bd bm w.heap.size (.slice a f.data.length cap) f.safe) (first | exact PS.drew (by assumption) | exact PS.below (by assumption) (by assumption) | exact PS.turned (by assumption) hne1 hne2 (by assumption))
    (first | (go_at_call 129; refine (hC _).mono ?_; rintro e w1 ⟨rfl, hb1⟩; obtain ⟨w2, hrun2, hown2, hturn2⟩ := store_file (ownsMap_stay hB.map (hb1.block _ hB.map.lt)) hn s hs (.slice a f.data.length cap) f))
  have hb : Below w.heap.size w w1 := hbW.drew.trans (hb1.mono (Nat.le_of_lt hzW))
  have hst : ∀ k, k < w.heap.size → k ≠ bm → w2.heap[k]? = w.heap[k]? := fun k hk hne => (hturn2.grown.block k (Nat.lt_of_lt_of_le hk hb.size) (by simpa using hne)).trans (hb.block k hk)
  refine bodyPost_end (v := .tuple #[]) (by simp [results, Tryz.results140]) rfl ⟨rfl, ⟨⟨(hst _ h.lt h.ne).trans h.block, hown2, h.ownD, h.ownM⟩, ?_⟩, ?_⟩
  · refine RowsOk.put ⟨fun p hp => (hr.1 p hp).stay fun g hg => hst g ((hr.1 p hp).lt hg) (h.rowNe (hr.1 p hp) hg).2, hr.2⟩ (hx.stay fun g hg => hst g (hx.lt hg) (h.rowNe hx hg).2) ha
  · exact ⟨hturn2.grown.os.trans hb.os, hturn2.grown.tape.trans hb.tape, hturn2.grown.output.trans hb.output, Nat.le_trans hb.size hturn2.grown.size, fun k hk hno => hst k hk fun e => hno (by rw [e])⟩

end Go.Proofs.YtmpahgklcabihaaGreat.Dk

namespace Go.Proofs.YtmpahgklcabihaaGreat.Dk
open Go.RowKit Go.Maps Go.Joins

structure St where
  room : Nat
  files : Fls
  fuse : Int
  down : Bool
structure St.Ok (S : St) : Prop where
  sum : used S.files ≤ S.room
  room : S.room ≤ 262144
  many : S.files.length ≤ 64
  rising : Rising S.files
  each : ∀ p ∈ S.files, named p.1 = true ∧ p.2.safe ≤ p.2.data.length
  f0 : -1 ≤ S.fuse
  f1 : S.fuse ≤ 9223372036854775807

/-- one call more: is it taken; what the disk is then -/
def St.take (S : St) : Bool × St := ((taken S.fuse S.down).1, { S with fuse := (taken S.fuse S.down).2.1, down := (taken S.fuse S.down).2.2 })
/-- a call that is refused for no other reason -/
def St.do (S : St) (g : Fls → Fls) : Nat × St := if S.take.1 = true then (0, { S.take.2 with files := g S.files }) else (21, S.take.2)
def fileOr (k : Bs) (l : Fls) : Fil := (getL k l).getD ⟨[], 0⟩
def St.append (S : St) (k d : Bs) : Nat × St :=
  if named k = false then (20, S)
  else if S.room < used S.files + d.length ∨ (getL k S.files = none ∧ 64 ≤ S.files.length) then (22, S)
  else S.do (putL k ⟨(fileOr k S.files).data ++ d, (fileOr k S.files).safe⟩)
def St.cut (S : St) (k : Bs) (n : Int) : Nat × St :=
  if named k = false then (20, S)
  else match getL k S.files with
    | none => (5, S)
    | some f => if n < 0 ∨ (f.data.length : Int) < n then (1, S) else S.do (putL k ⟨f.data.take n.toNat, min f.safe n.toNat⟩)
def syncL (l : Fls) : Fls := l.map fun p => (p.1, ⟨p.2.data, p.2.data.length⟩)
def St.sync (S : St) : Nat × St := S.do syncL
def St.rename (S : St) (a b : Bs) : Nat × St :=
  if named a = false ∨ named b = false then (20, S)
  else match getL a S.files with
    | none => (5, S)
    | some f => S.do fun l => putL b f (delL a l)
def St.remove (S : St) (k : Bs) : Nat × St :=
  if named k = false then (20, S)
  else match getL k S.files with
    | none => (5, S)
    | some _ => S.do (delL k)
def St.read (S : St) (k : Bs) : Bs × Nat :=
  if named k = false then ([], 20)
  else match getL k S.files with
    | none => ([], 5)
    | some f => (f.data, 0)
def St.light (S : St) (n : Int) : Nat × St := if n < 0 then (1, S) else (0, { S with fuse := n })
def tornF (f : Fil) (draw : Int) : Fil := ⟨f.data.take (f.safe + keptOf draw (f.data.length - f.safe)), f.safe + keptOf draw (f.data.length - f.safe)⟩
def crashL : Fls → List Int → Fls
  | [], _ => []
  | p :: r, ds => if p.2.data.length = p.2.safe then p :: crashL r ds else (p.1, tornF p.2 (ds.headD 0)) :: crashL r ds.tail
def St.crash (S : St) (ds : List Int) : Nat × St := if 4096 < ds.length then (2, S) else (0, { S with files := crashL S.files ds, fuse := -1, down := false })

/-- a disk lies there, and is S -/
def Held (w : World) (own : Nat → Prop) (bd : Nat) (S : St) : Prop := ∃ bm l, HeldL w own bd bm S.room l S.fuse S.down ∧ S.files = l.map (fun p => (p.1, p.2.2)) ∧ S.Ok

theorem Held.below {w w' : World} {own : Nat → Prop} {bd : Nat} {S : St} (h : Held w own bd S) (hb : Below w.heap.size w w') : Held w' own bd S := by
  obtain ⟨bm, l, h1, h2, h3⟩ := h; exact ⟨bm, l, h1.below hb, h2, h3⟩
theorem Held.frame {w w' : World} {own : Nat → Prop} {bd : Nat} {S : St} (h : Held w own bd S) (hs : ∀ k, k < w.heap.size → own k → w'.heap[k]? = w.heap[k]?) : Held w' own bd S := by
  obtain ⟨bm, l, h1, h2, h3⟩ := h; exact ⟨bm, l, h1.frame hs, h2, h3⟩
theorem Held.own {w : World} {own own' : Nat → Prop} {bd : Nat} {S : St} (h : Held w own bd S) (ho : ∀ b, b < w.heap.size → own b → own' b) : Held w own' bd S := by
  obtain ⟨bm, l, h1, h2, h3⟩ := h; exact ⟨bm, l, h1.own ho, h2, h3⟩
theorem Held.ok {w : World} {own : Nat → Prop} {bd : Nat} {S : St} (h : Held w own bd S) : S.Ok := by obtain ⟨_, _, _, _, h3⟩ := h; exact h3

theorem taken_f0 {fuse : Int} {down : Bool} (h : -1 ≤ fuse) : -1 ≤ (taken fuse down).2.1 := by
  unfold taken; split
  · exact h
  · rename_i hn; simp only; split
    · omega
    · have : fuse ≠ 0 := fun e => hn (Or.inl e); omega
theorem taken_f1 {fuse : Int} {down : Bool} (h : fuse ≤ 9223372036854775807) (h0 : -1 ≤ fuse) : (taken fuse down).2.1 ≤ 9223372036854775807 := by
  unfold taken; split
  · exact h
  · simp only; split <;> omega

/-- what a disk has at a key, as a row that is apart from all others -/
theorem HeldL.at {w : World} {own : Nat → Prop} {bd bm room : Nat} {l : List (Bs × Ent)} {fuse : Int} {down : Bool} (h : HeldL w own bd bm room l fuse down) (k : Bs) :
    ∃ ad cap f, fileAt l k = FV (.slice ad f.data.length cap) f.safe ∧ f = fileOr k (l.map fun p => (p.1, p.2.2)) ∧ RowOk w own (.slice ad f.data.length cap, f) ∧ (∀ p ∈ delL k l, Apart (.slice ad f.data.length cap, f) p.2) ∧
      (ad = none → cap = 0) ∧ f.data.length ≤ cap ∧ cap ≤ 9223372036854775807 := by
  have hfo : fileOr k (l.map fun p => (p.1, p.2.2)) = ((getL k l).map (·.2)).getD ⟨[], 0⟩ := by unfold fileOr; rw [getL_map (fun x : Ent => x.2)]
  cases hg : getL k l with
  | none =>
    refine ⟨none, 0, ⟨[], 0⟩, by simp [fileAt, hg], by rw [hfo, hg]; rfl, ⟨World.ownsRow_nil _ _ _ _, by simp [Value.ownBlock]⟩, fun p _ g hg' => by simp [Value.ownBlock] at hg', fun _ => rfl, by simp, by omega⟩
  | some x =>
    obtain ⟨v, f⟩ := x
    have hr : RowOk w own (v, f) := h.rows.1 _ (getL_some hg)
    obtain ⟨ad, cap, rfl⟩ : ∃ ad cap, v = .slice ad f.data.length cap := own_slice hr.1
    refine ⟨ad, cap, f, by simp [fileAt, hg], by rw [hfo, hg]; rfl, hr, h.rows.others h.base.rising hg, ?_⟩
    rcases hr.1.2 with ⟨e, h0⟩ | ⟨g, cap', cur, e, _, _, h1, h2, _⟩
    · obtain ⟨rfl, _, rfl⟩ : ad = none ∧ f.data.length = 0 ∧ cap = 0 := by simpa using e
      exact ⟨fun _ => rfl, by simp only at h0; omega, by omega⟩
    · cases e
      simp only at h1 h2
      unfold maxLen at h2
      exact ⟨by simp, h1, by omega⟩

end Go.Proofs.YtmpahgklcabihaaGreat.Dk

namespace Go.Proofs.YtmpahgklcabihaaGreat.Dk
open Go.Maps

theorem used_put {l : Fls} (hr : Rising l) (k : Bs) (f : Fil) : used (putL k f l) + (fileOr k l).data.length = used l + f.data.length := by
  unfold used fileOr
  rw [sumL_put]
  cases hg : getL k l with
  | none => rw [delL_none hg]; simp; omega
  | some x => have := sumL_del (fun f : Fil => f.data.length) hr hg; simp only [Option.getD_some]; omega
theorem length_put {α : Type} {l : List (Bs × α)} (hr : Rising l) (k : Bs) (f : α) : (putL k f l).length = if (getL k l).isSome then l.length else l.length + 1 := by
  rw [(putL_perm k f l).length_eq, List.length_cons]
  cases hg : getL k l with
  | none => rw [delL_none hg]; rfl
  | some x => rw [delL_length hr hg]; rfl
theorem used_del {l : Fls} (hr : Rising l) {k : Bs} {f : Fil} (hg : getL k l = some f) : used (delL k l) + f.data.length = used l := by
  have := sumL_del (fun f : Fil => f.data.length) hr hg
  unfold used; omega
theorem used_del_le {l : Fls} (hr : Rising l) (k : Bs) : used (delL k l) ≤ used l := by
  cases hg : getL k l with
  | none => rw [delL_none hg]; exact Nat.le_refl _
  | some f => have := used_del hr hg; omega

theorem St.Ok.take {S : St} (h : S.Ok) : S.take.2.Ok := ⟨h.sum, h.room, h.many, h.rising, h.each, taken_f0 h.f0, taken_f1 h.f1 h.f0⟩
theorem St.Ok.do {S : St} (h : S.Ok) {g : Fls → Fls} (h1 : used (g S.files) ≤ S.room) (h2 : (g S.files).length ≤ 64) (h3 : Rising (g S.files)) (h4 : ∀ p ∈ g S.files, named p.1 = true ∧ p.2.safe ≤ p.2.data.length) : (S.do g).2.Ok := by
  unfold St.do
  split
  · exact ⟨h1, h.room, h2, h3, h4, h.take.f0, h.take.f1⟩
  · exact h.take
theorem St.Ok.append {S : St} (h : S.Ok) (k d : Bs) : (S.append k d).2.Ok := by
  unfold St.append
  split
  · exact h
  · split
    · exact h
    · rename_i hn hsp
      have hu := used_put h.rising k ⟨(fileOr k S.files).data ++ d, (fileOr k S.files).safe⟩
      simp only [List.length_append] at hu
      refine h.do (by omega) ?_ h.rising.put fun p hp => ?_
      · rw [length_put h.rising]
        have := h.many
        cases hg : getL k S.files with
        | none =>
          have : ¬ 64 ≤ S.files.length := fun e => hsp (Or.inr ⟨hg, e⟩)
          simp; omega
        | some x => simp; omega
      · rcases mem_putL.1 hp with rfl | ⟨hp, _⟩
        · refine ⟨by simpa using hn, ?_⟩
          simp only [List.length_append]
          cases hg : getL k S.files with
          | none => simp [fileOr, hg]
          | some x => have := (h.each _ (getL_some hg)).2; simp only [fileOr, hg, Option.getD_some] at *; omega
        · exact h.each p hp
theorem St.Ok.cut {S : St} (h : S.Ok) (k : Bs) (n : Int) : (S.cut k n).2.Ok := by
  unfold St.cut
  split
  · exact h
  · rename_i hn
    split
    · exact h
    · rename_i f hg
      split
      · exact h
      · have hu := used_put h.rising k ⟨f.data.take n.toNat, min f.safe n.toNat⟩
        simp only [fileOr, hg, Option.getD_some, List.length_take] at hu
        have hs := h.sum
        have he := h.each _ (getL_some hg)
        simp only at he
        refine h.do (by omega) (by rw [length_put h.rising, hg]; exact h.many) h.rising.put fun p hp => ?_
        rcases mem_putL.1 hp with rfl | ⟨hp, _⟩
        · exact ⟨he.1, by simp only [List.length_take]; omega⟩
        · exact h.each p hp
theorem St.Ok.remove {S : St} (h : S.Ok) (k : Bs) : (S.remove k).2.Ok := by
  unfold St.remove
  split
  · exact h
  · split
    · exact h
    · exact h.do (Nat.le_trans (used_del_le h.rising k) h.sum) (Nat.le_trans (List.length_filter_le _ _) h.many) h.rising.del fun p hp => h.each p (mem_delL.1 hp).1
theorem getL_delL {α : Type} (a b : Bs) (l : List (Bs × α)) : getL b (delL a l) = if b = a then none else getL b l := by
  induction l with
  | nil => simp [delL, getL]
  | cons p r ih =>
    unfold delL getL at *
    by_cases h1 : p.1 = a
    · rw [List.filter_cons_of_neg (by simp [h1]), ih]
      split
      · rfl
      · rename_i hne; rw [List.find?_cons_of_neg (by simp; intro e; exact hne (by rw [← e, h1]))]
    · rw [List.filter_cons_of_pos (by simp [h1])]
      by_cases h2 : p.1 = b
      · rw [List.find?_cons_of_pos (by simp [h2])]
        have : ¬ b = a := fun e => h1 (by rw [h2, e])
        rw [if_neg this, List.find?_cons_of_pos (by simp [h2])]
      · rw [List.find?_cons_of_neg (by simp [h2]), ih, List.find?_cons_of_neg (by simp [h2])]
theorem St.Ok.rename {S : St} (h : S.Ok) (a b : Bs) : (S.rename a b).2.Ok := by
  unfold St.rename
  split
  · exact h
  · rename_i hn
    split
    · exact h
    · rename_i f hg
      have hr := h.rising.del (k := a)
      have hu := used_put hr b f
      have hd := used_del h.rising hg
      have hs := h.sum
      refine h.do (by omega) ?_ hr.put fun p hp => ?_
      · rw [length_put hr]
        have := delL_length h.rising hg
        have := h.many
        split <;> omega
      · rcases mem_putL.1 hp with rfl | ⟨hp, _⟩
        · exact ⟨by simp only [not_or, Bool.not_eq_false] at hn; exact hn.2, (h.each _ (getL_some hg)).2⟩
        · exact h.each p (mem_delL.1 hp).1
theorem rising_map {α β : Type} {l : List (Bs × α)} (h : Rising l) (f : Bs × α → β) : Rising (l.map fun p => (p.1, f p)) := List.pairwise_map.2 h
theorem used_syncL (l : Fls) : used (syncL l) = used l := by simp [used, sumL, syncL, Function.comp_def]
theorem St.Ok.sync {S : St} (h : S.Ok) : S.sync.2.Ok := by
  refine h.do (by rw [used_syncL]; exact h.sum) (by simpa [syncL] using h.many) (rising_map h.rising _) fun p hp => ?_
  simp only [syncL, List.mem_map] at hp
  obtain ⟨q, hq, rfl⟩ := hp
  exact ⟨(h.each q hq).1, Nat.le_refl _⟩
theorem St.Ok.light {S : St} (h : S.Ok) (n : Int) (hn : n ≤ 9223372036854775807) : (S.light n).2.Ok := by
  unfold St.light
  split
  · exact h
  · exact ⟨h.sum, h.room, h.many, h.rising, h.each, by show -1 ≤ n; omega, hn⟩
theorem crashL_keys : ∀ (l : Fls) (ds : List Int), (crashL l ds).map (·.1) = l.map (·.1)
  | [], _ => rfl
  | p :: r, ds => by
    unfold crashL; split
    · rw [List.map_cons, List.map_cons, crashL_keys r ds]
    · rw [List.map_cons, List.map_cons, crashL_keys r ds.tail]
theorem crashL_used : ∀ (l : Fls) (ds : List Int), used (crashL l ds) ≤ used l
  | [], _ => Nat.le_refl _
  | p :: r, ds => by
    unfold crashL; split
    · have := crashL_used r ds
      simp only [used, sumL, List.map_cons, List.sum_cons] at *; omega
    · have := crashL_used r ds.tail
      simp only [used, sumL, List.map_cons, List.sum_cons, tornF, List.length_take] at *; omega
theorem crashL_each : ∀ (l : Fls) (ds : List Int), (∀ p ∈ l, named p.1 = true ∧ p.2.safe ≤ p.2.data.length) → ∀ p ∈ crashL l ds, named p.1 = true ∧ p.2.safe ≤ p.2.data.length
  | [], _, _ => by simp [crashL]
  | q :: r, ds, h => by
    intro p hp
    have h1 := h q (List.mem_cons_self ..)
    unfold crashL at hp; split at hp
    · rcases List.mem_cons.1 hp with rfl | hp
      · exact h1
      · exact crashL_each r ds (fun x hx => h x (List.mem_cons_of_mem _ hx)) p hp
    · rcases List.mem_cons.1 hp with rfl | hp
      · have := keptOf_le (ds.headD 0) (q.2.data.length - q.2.safe)
        exact ⟨h1.1, by simp only [tornF, List.length_take]; omega⟩
      · exact crashL_each r ds.tail (fun x hx => h x (List.mem_cons_of_mem _ hx)) p hp
theorem rising_keys {α β : Type} {l : List (Bs × α)} {l' : List (Bs × β)} (h : Rising l) (hk : l'.map (·.1) = l.map (·.1)) : Rising l' := by
  have h1 : (l.map (·.1)).Pairwise fun a b => bytesBefore a b = true := List.pairwise_map.2 h
  rw [← hk] at h1
  exact List.pairwise_map.1 h1
theorem St.Ok.crash {S : St} (h : S.Ok) (ds : List Int) : (S.crash ds).2.Ok := by
  unfold St.crash
  split
  · exact h
  · refine ⟨Nat.le_trans (crashL_used _ _) h.sum, h.room, ?_, rising_keys h.rising (crashL_keys _ _), crashL_each _ _ h.each, by show (-1 : Int) ≤ -1; omega, by show (-1 : Int) ≤ _; omega⟩
    have := congrArg List.length (crashL_keys S.files ds)
    simp only [List.length_map] at this
    show (crashL S.files ds).length ≤ 64
    rw [this]; exact h.many

end Go.Proofs.YtmpahgklcabihaaGreat.Dk
