/- Walks over points.go: each, its iterator. -/
import Derived.Test.YtcmdglmcmifflaaDoorRgHash
import Derived.RangeFuncNested
import Derived.RangeFuncBound
import Derived.RangeFuncCalls
import Derived.RangeFuncLeaves
import Derived.Shelf.Abstract
import Derived.Shelf.RegionOpen
import Derived.Shelf.Strconv.Itoa3
import Derived.Shelf.Lay
import Derived.Ground.NamesProg
import Derived.OwnWalkIn
import Derived.TacticsInMore
import Derived.LoopNIn
import Derived.LoopIn
namespace Go.Proofs.YtcmdglmcmifflaaDoor
open Go.Shelf
shelf_lay LaysM.n171 Nm 171 at Tryd as Tryd.laysItoa
end Go.Proofs.YtcmdglmcmifflaaDoor
namespace Go.Proofs.YtcmdglmcmifflaaDoor.Rg
open Go.RowKit Go.Joins Gk

attribute [local go_sem] Oper.semAt_some

/-- the library's table of powers lies there -/
abbrev Tab (w : World) : Prop := Lib.TabIs Tryd.prog w "internal/strconv.uint64pow10" .u64 Lib.pow10Tab
theorem Tab.below {w w' : World} (h : Tab w) (hb : Below w.heap.size w w') : Tab w' := by
  obtain ⟨g, hg⟩ : ∃ g, Tryd.prog.globalNamed "internal/strconv.uint64pow10" = some g := Option.isSome_iff_exists.1 (by kernel_rfl)
  exact tab_stays hg h hb (Nat.le_refl _)
theorem below_grow (w : World) (k : Nat) (os : Array Obj) : Below w.heap.size w (Go.Sort.grow (w.drewN k) os) :=
  ⟨rfl, rfl, rfl, by simp [Go.Sort.grow], fun i hi => by simp [Go.Sort.grow, World.drewN, Array.getElem?_append, hi]⟩
theorem itoa_any (i : Nat) (hi : i < 1000) (w : World) (hT : Tab w) :
    Calls Tryd.prog 61 #[.int .i64 i] w fun e w' => e = .returned (.string ⟨(Lib.decDigits i).toArray⟩) ∧ Below w.heap.size w w' := by
  refine (Any.strconv_Itoa Tryd.laysItoa i (by omega) (by omega) w hT).mono ?_
  rintro e w' ⟨rfl, k, os, rfl⟩
  refine ⟨?_, below_grow _ _ _⟩
  have : Lib.itoa (i : Int) = Lib.decDigits i := by rw [Lib.itoa, if_neg (by omega)]; simp
  rw [this]

theorem fold_at (k : Nat) (W : World) (h : k < 1000) : Calls Tryd.prog 33 #[.int .u64 14695981039346656037, .string ((⟨(Lib.decDigits k).toArray⟩ : ByteArray) ++ ⟨#[46]⟩)] W fun e w' => e = .returned (.int .u64 (foldL basis (ptText k))) ∧ w' = W := by
  have hd := dec_len k h
  have e1 : ((⟨(Lib.decDigits k).toArray⟩ : ByteArray) ++ ⟨#[46]⟩).data.toList = ptText k := by simp [ptText]
  have := folded_any basis ((⟨(Lib.decDigits k).toArray⟩ : ByteArray) ++ ⟨#[46]⟩) W basis_range (by rw [ByteArray.size_append]; show (Lib.decDigits k).toArray.size + 1 ≤ _; simp; omega)
  rw [e1] at this
  exact this
theorem pref_lt {ws : List Int} {k j : Nat} (hk : k < ws.length) (hj : j < (ws.getD k 0).toNat) : ptsN ws k ++ ptsC k j ++ [(k, j)] <+: pts ws := by
  refine List.IsPrefix.trans ?_ (ptsN_pre ws (k := k + 1) (n := ws.length) (by omega))
  rw [ptsN, List.append_assoc, ← ptsC_succ, List.prefix_append_right_inj]
  refine ⟨((List.range (ws.getD k 0).toNat).drop (j + 1)).map fun i => (k, i), ?_⟩
  rw [ptsC, ptsC, ← List.map_append]
  congr 1
  have : List.range (j + 1) = (List.range (ws.getD k 0).toNat).take (j + 1) := by rw [List.take_range, Nat.min_eq_left (by omega)]
  rw [this, List.take_append_drop]

def penc (p : Pt) : Array Value := #[.int .i64 (p.1 : Int), .int .u64 (hp p)]

set_option maxRecDepth 100000 in
set_option maxHeartbeats 4000000 in
theorem each1_in (n : Nat) (hn : 1 ≤ n) (l Bs cap : Nat) (a : Option Addr) (ws : List Int) (hM : May ws) (w0 W : World) (hl : Lies w0 ienc a ws) (hT : Tab w0) (hW : Below w0.heap.size w0 W)
    (J Jx : List Pt → World → Prop) (hA : AbidesFrom W.heap.size J) (hBs : W.cell? ⟨Bs, 0, none⟩ = some (.slice a ws.length cap))
    (hY : ∀ pre x W1, J pre W1 → pre.length < (pts ws).length → YieldAt Fence.wide (n - 1) Tryd.prog l (penc x) W1 fun e W' =>
      (e = .returned (.bool true) ∧ J (pre ++ [x]) W' ∧ Below w0.heap.size W1 W') ∨ (e = .returned (.bool false) ∧ Jx (pre ++ [x]) W')) (h0 : J [] W) :
    CallsIn Fence.wide n Tryd.prog 60 #[.func (.yield l) #[] #[], .pointer (some ⟨Bs, 0, none⟩)] W fun e W' => (∃ v, e = .returned v) ∧
      ((∃ ys, ys = pts ws ∧ J ys W') ∨ (∃ pre, pre <+: pts ws ∧ Jx pre W')) := by
  have hlen := hM.n2
  have hne := hM.n1
  refine callsIn_of_wp Tryd.func60 rfl trivial ?_ rfl
  simp only [Tryd.ntmps60, List.size_toArray, List.length_cons, List.length_nil, Nat.reduceAdd, Nat.reduceSub, Array.replicate_succ, Array.replicate_zero, List.push_toArray, List.append_toArray, List.nil_append, List.cons_append]
  gi_wp2
  gi_loopw [9] (fun i wr => ∃ k : Nat, k ≤ ws.length ∧ i = .int .i64 k ∧ J (ptsN ws k) wr ∧ Below w0.heap.size w0 wr) (fun i _ => ws.length - (intOf i).toNat)
  case atStart => exact ⟨0, Nat.zero_le _, rfl, h0, hW⟩
  case round =>
    obtain ⟨k, hk, rfl, hJs, hnx⟩ := hrel
    by_cases hlt : k < ws.length
    · obtain ⟨b, off, rfl, hbl, hc⟩ := hl.at ienc_len k hlt
      have c0 := hc 0 _ rfl
      rw [Nat.mul_one, Nat.add_zero] at c0
      have c1 := (hnx.cell (p := ⟨b, off + k, none⟩) hbl).trans c0
      have hv := hM.each ws[k] (List.getElem_mem hlt)
      have HN := hide (show ws.getD k 0 = ws[k] by simp [List.getD_eq_getElem?_getD, hlt])
      obtain ⟨v, hv'⟩ : ∃ v, ws[k] = v := ⟨_, rfl⟩
      rw [hv'] at c1 hv HN
      clear hc c0 hv'
      have hdl := dec_len k (by omega)
      have hdl' : (Lib.decDigits k).length + 1 ≤ 9223372036854775807 := by omega
      have HF := hide (fun W => fold_at k W (by omega))
      obtain ⟨y0, hy0⟩ : ∃ y, foldL basis (ptText k) = y := ⟨_, rfl⟩
      have hy0r : 0 ≤ y0 ∧ y0 < 18446744073709551616 := by rw [← hy0]; exact foldL_range basis_range _
      rw [hy0] at HF
      have HP := hide (fun i => (hp_eq k i).symm.trans (by rw [hy0]))
      clear hy0
      gi_wp2_with (refine ⟨trivial, ?_⟩; gi_at_call 61; refine (callsIn_wide.2 (itoa_any k (by omega) _ (hT.below hnx))).mono ?_; rintro e w1 ⟨rfl, hb1⟩)
      gi_wp2_with (refine ⟨trivial, ?_⟩; gi_at_call 33; refine (callsIn_wide.2 (HF.out _)).mono ?_; rintro e w' ⟨rfl, hw'⟩; obtain rfl := hw'.symm)
      have hJ1 : J (ptsN ws k ++ ptsC k 0) w1 := by rw [show ptsC k 0 = [] from rfl, List.append_nil]; exact hA _ _ _ none hJs (grown_below hb1 none) (fun r e => by cases e)
      have hn1 : Below w0.heap.size w0 w1 := hnx.trans (hb1.mono hnx.size)
      clear hJs hnx hb1 HF hdl hdl' c1
      gi_loopw [19] (fun i wr => ∃ j : Nat, j ≤ v.toNat ∧ i = .int .i64 j ∧ J (ptsN ws k ++ ptsC k j) wr ∧ Below w0.heap.size w0 wr) (fun i _ => v.toNat - (intOf i).toNat)
      case atStart => exact ⟨0, Nat.zero_le _, rfl, hJ1, hn1⟩
      case round =>
        clear hJ1 hn1
        obtain ⟨j, hj, rfl, hJs, hnx⟩ := hrel
        by_cases hjl : j < v.toNat
        · have hlt' : (j : Int) < v := by omega
          have hdl := dec_len j (by omega)
          have hFi := fun W => folded_any y0 ⟨(Lib.decDigits j).toArray⟩ W hy0r (by show (Lib.decDigits j).toArray.size ≤ _; simp; omega)
          have hMi := fun W => mixed_any (foldL y0 (Lib.decDigits j)) W
          have hpe := HP.out j
          rw [← hpe] at hMi
          have hpr : (ptsN ws k ++ ptsC k j).length < (pts ws).length := by
            have := (pref_lt hlt (by rw [HN.out]; exact hjl) : ptsN ws k ++ ptsC k j ++ [(k, j)] <+: pts ws).length_le
            simp at this ⊢; omega
          have hpre : ptsN ws k ++ ptsC k j ++ [(k, j)] <+: pts ws := pref_lt hlt (by rw [HN.out]; exact hjl)
          have HPR := hide hpre
          clear hpre hpe
          have hYj := fun W1 h => hY _ ((k, j) : Pt) W1 h hpr
          unfold penc at hYj
          dsimp only at hYj
          dsimp only [List.toList_toArray] at hFi
          generalize foldL y0 (Lib.decDigits j) = y1 at hFi hMi
          generalize hp (k, j) = z at hMi hYj
          gi_wp2_with (refine ⟨trivial, ?_⟩; gi_at_call 61; refine (callsIn_wide.2 (itoa_any j (by omega) _ (hT.below hnx))).mono ?_; rintro e w2 ⟨rfl, hb2⟩)
          have hJ2 : J (ptsN ws k ++ ptsC k j) w2 := hA _ _ _ none hJs (grown_below hb2 none) (fun r e => by cases e)
          have hn2 : Below w0.heap.size w0 w2 := hnx.trans (hb2.mono hnx.size)
          clear hJs hnx hb2
          gi_wp2_with (refine ⟨trivial, ?_⟩; gi_at_call 33; refine (callsIn_wide.2 (hFi _)).mono ?_; rintro e w' ⟨rfl, hw'⟩; obtain rfl := hw'.symm)
          obtain ⟨fn, tmps, assign, body, hy, hR⟩ := hYj _ hJ2
          gi_wp2_with (refine ⟨trivial, ?_⟩; gi_at_call 32; refine (callsIn_wide.2 (hMi _)).mono ?_; rintro e w' ⟨rfl, hw'⟩; obtain rfl := hw'.symm)
          refine hR.mono ?_
          rintro e W3 (⟨rfl, hJ3, hk3⟩ | ⟨rfl, hJx3⟩)
          · gi_wp2
            go_roundw
            case rel => exact ⟨j + 1, by omega, by simp, by rw [ptsC_succ, ← List.append_assoc]; exact hJ3, hn2.trans hk3⟩
            case measure => simp [intOf]; omega
          · gi_wp2
            refine bodyPost_ret (results_none rfl _ _ _) rfl ?_
            exact ⟨⟨_, rfl⟩, .inr ⟨_, HPR.out, hJx3⟩⟩
        · have hje : j = v.toNat := by omega
          have hlt' : ¬ (j : Int) < v := by omega
          gi_wp2
          go_roundw
          case rel =>
            refine ⟨k + 1, by omega, by simp, ?_, hnx⟩
            rw [ptsN, HN.out, ← hje]; exact hJs
          case measure => simp [intOf]; omega
    · have hke : k = ws.length := by omega
      have HK := hide hke
      clear hke
      gi_wp2
      go_end0
      exact ⟨⟨_, rfl⟩, .inl ⟨_, by rw [HK.out]; rfl, hJs⟩⟩

set_option maxHeartbeats 1000000 in
theorem each_any (a : Option Addr) (len cap : Nat) (w : World) :
    Calls Tryd.prog 50 #[.slice a len cap] w fun e w' => e = .returned (.func (.func 60) #[] #[.pointer (some ⟨w.heap.size, 0, none⟩)]) ∧ w' = w.alloc (.cells #[.slice a len cap] 22) := by
  go_enter Tryd.func50, Tryd.ntmps50
  go_wp2
  go_ret
  exact ⟨rfl, rfl⟩

theorem each_stops (n : Nat) (hn : 1 ≤ n) (Bs cap : Nat) (a : Option Addr) (ws : List Int) (hM : May ws) (w0 w : World) (hl : Lies w0 ienc a ws) (hT : Tab w0) (hw : Below w0.heap.size w0 w)
    (hBs : Bs < w.heap.size) (hc : w.cell? ⟨Bs, 0, none⟩ = some (.slice a ws.length cap)) :
    SeqStopsK Fence.wide n Tryd.prog 60 #[.pointer (some ⟨Bs, 0, none⟩)] penc (Below w0.heap.size) (fun ys => ys = pts ws) (fun pre => pre <+: pts ws) (pts ws).length w :=
  fun l J Jx W hW hA _ hY h0 => each1_in n hn l Bs cap a ws hM w0 W hl hT (hw.trans (hW.mono hw.size)) J Jx hA ((hW.cell (p := ⟨Bs, 0, none⟩) hBs).trans hc) hY h0

end Go.Proofs.YtcmdglmcmifflaaDoor.Rg
