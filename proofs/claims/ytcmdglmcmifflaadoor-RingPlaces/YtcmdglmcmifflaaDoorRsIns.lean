/- Walks over the library's sort by a comparison that is a method's value: insertionSort. -/
import Derived.Test.YtcmdglmcmifflaaDoorRsKit
namespace Go.Proofs.YtcmdglmcmifflaaDoor.Rs
open Go.RowKit Go.Joins Go.Sort Gk
variable {N : Nat}

set_option maxHeartbeats 6400000 in
set_option maxRecDepth 1000000 in
theorem ins_any (r : Value) (cf : Pl N → Pl N → Int) (blk cap : Nat) (d0 d : Array (Pl N)) (w0 w : World) (hcmp : CL r cf blk d0.size w0) (R : Row1 ec w0 blk 0 d0) (hs : d0.size = d.size) (S : SP w0 blk d w) (hsz : d.size < 4611686018427387904) (a b : Nat) (hab : a ≤ b) (hb : b ≤ d.size) :
    Calls Tryd.prog 78 #[.slice (some ⟨blk, 0, none⟩) d.size cap, .int .i64 a, .int .i64 b, fv r] w fun e w' => e = .returned (.tuple #[]) ∧ SP w0 blk (Go.Sort.insertionSort (ltOf cf) d a b) w' := by
  have mixed : Tryd.prog.follows .mixedOrders = true := by kernel_rfl
  have HC := hide hcmp
  have S0 := hide S
  clear hcmp S
  go_enter Tryd.func78, Tryd.ntmps78
  go_wp2
  go_loopw [8] (fun vi wr => ∃ (i : Nat) (dk : Array (Pl N)), vi = .int .i64 i ∧ a < i ∧ i ≤ b + 1 ∧ dk.size = d.size ∧ Hid (SP w0 blk dk wr) ∧ Hid (insOuter (ltOf cf) a b i dk = insOuter (ltOf cf) a b (a + 1) d)) (fun vi _ => b + 1 - (intOf vi).toNat)
  case atStart => exact ⟨a + 1, d, by go_num, by omega, by omega, rfl, S0, rfl⟩
  case round =>
    clear S0
    obtain ⟨i, dk, rfl, hai, hib, hsk, S1, HO⟩ := hrel
    by_cases hlt : i < b
    · have hltz : (i : Int) < (b : Int) := by omega
      go_wp2
      go_loopw [9] (fun vj wr2 => ∃ (j : Nat) (dj : Array (Pl N)), vj = .int .i64 j ∧ a ≤ j ∧ j ≤ i ∧ dj.size = d.size ∧ Hid (SP w0 blk dj wr2) ∧ Hid (insInner (ltOf cf) a j dj = insInner (ltOf cf) a i dk)) (fun vj _ => (intOf vj).toNat)
      case atStart => exact ⟨i, dk, rfl, by omega, Nat.le_refl _, hsk, S1, rfl⟩
      case round =>
        clear S1
        obtain ⟨j, dj, rfl, haj, hji, hsj, SJ, HI⟩ := hrel
        have OUT := hide (fun (h : j ≤ a ∨ (ltOf cf) dj[j]! dj[j - 1]! = false) => show insOuter (ltOf cf) a b (i + 1) dj = insOuter (ltOf cf) a b (a + 1) d by
          rw [← HO.out, insOuter_go _ _ _ _ _ hlt, ← HI.out, insInner_stop _ _ _ _ h])
        by_cases hja : a < j
        · obtain ⟨q, rfl⟩ : ∃ q, j = q + 1 := ⟨j - 1, by omega⟩
          rw [Nat.add_sub_cancel] at OUT
          have g1 : decide ((q : Int) + 1 > (a : Int)) = true := decide_eq_true (by omega)
          have g2 : (a : Int) < (q : Int) + 1 := by omega
          have e1 : IntKind.i64.wrap (q : Int) = (q : Int) := by rw [IntKind.wrap_i64]; omega
          have e2 : (0 : Int) ≤ (q : Int) := by omega
          have e3 : (q : Int) < (d.size : Int) := by omega
          have e4 : (0 : Int) ≤ (q : Int) + 1 := by omega
          have e5 : (q : Int) + 1 < (d.size : Int) := by omega
          have e6 : ((q : Int) + 1).toNat = q + 1 := by omega
          cases hlv : (ltOf cf) dj[q + 1]! dj[q]! with
          | true =>
            have lx := fun n os => SP.cells SJ.out R (by omega) (q + 1) (by omega) n os
            have ly := fun n os => SP.cells SJ.out R (by omega) (q) (by omega) n os
            have hc := fun n os => SP.cmp (d0 := d0) SJ.out HC.out (by omega) dj[q + 1]! dj[q]! n os
            have hv : cf dj[q + 1]! dj[q]! < 0 := of_decide_eq_true hlv
            generalize dj[q + 1]! = x at lx hc hv
            generalize dj[q]! = y at ly hc hv
            have hd : decide (cf x y < 0) = true := decide_eq_true hv
            have hE := fun n os => SW.grown SJ.out n os
            go_wp2_with fail
            go_quiet_grown (first | (go_at_call 63; refine Calls.grown_of (hc _ _)))
            replace SJ := hide (hE nq osq)
            clear lx ly hc hv hd hE
            generalize grow (wr.drewN nq) osq = w2 at SJ ⊢
            have ca := SP.cell SJ.out R (by omega) (q + 1) (by omega)
            have cb := SP.cell SJ.out R (by omega) (q) (by omega)
            have fa := SP.free SJ.out R (by omega) (q + 1) (by omega)
            have fb := SP.free SJ.out R (by omega) (q) (by omega)
            obtain ⟨u, cc⟩ := SP.other SJ.out R (by omega) (q + 1) (q) (by omega) (by omega) (.int .i64 (dj[q]!.val : Int))
            have hE := SP.swap SJ.out R (q + 1) (q) (by omega) (by omega)
            generalize dj[q + 1]! = x at ca cb cc hE
            generalize dj[q]! = y at ca cb cc hE
            go_wp2_with fail
            go_big_region_o
            replace SJ := hide hE
            clear ca cb cc fa fb hE
            generalize ((w2.setCell ⟨blk, q + 1, none⟩ (.int .i64 (y.val : Int))).setCell ⟨blk, q, none⟩ (.int .i64 (x.val : Int))).drew = w3 at SJ ⊢
            go_wp2
            go_roundw
            case rel => exact ⟨q, swp dj (q + 1) q, by first | rfl | go_num, by omega, by omega, by rw [size_swp]; exact hsj, SJ, (show Hid _ from by rw [← HI.out, insInner_go (ltOf cf) a (q + 1) dj hja (by simpa using hlv)]; rfl)⟩
            case measure => simp [intOf]
          | false =>
            have lx := fun n os => SP.cells SJ.out R (by omega) (q + 1) (by omega) n os
            have ly := fun n os => SP.cells SJ.out R (by omega) (q) (by omega) n os
            have hc := fun n os => SP.cmp (d0 := d0) SJ.out HC.out (by omega) dj[q + 1]! dj[q]! n os
            have hv : ¬ cf dj[q + 1]! dj[q]! < 0 := of_decide_eq_false hlv
            generalize dj[q + 1]! = x at lx hc hv
            generalize dj[q]! = y at ly hc hv
            have hd : decide (cf x y < 0) = false := decide_eq_false hv
            have hE := fun n os => SW.grown SJ.out n os
            go_wp2_with fail
            go_quiet_grown (first | (go_at_call 63; refine Calls.grown_of (hc _ _)))
            replace SJ := hide (hE nq osq)
            clear lx ly hc hv hd hE
            generalize grow (wr.drewN nq) osq = w2 at SJ ⊢
            go_wp2
            go_roundw
            case rel => exact ⟨i + 1, dj, by go_num, by omega, by omega, hsj, SJ, OUT.out (Or.inr hlv)⟩
            case measure => simp [intOf]; omega
        · have g1 : decide ((j : Int) > (a : Int)) = false := decide_eq_false (by omega)
          have g2 : ¬ (a : Int) < (j : Int) := by omega
          go_wp2_with fail
          go_big_region_o
          replace SJ := hide (SW.drew SJ.out)
          generalize wr.drew = w2 at SJ ⊢
          go_wp2
          go_roundw
          case rel => exact ⟨i + 1, dj, by go_num, by omega, by omega, hsj, SJ, OUT.out (Or.inl (by omega))⟩
          case measure => simp [intOf]; omega
    · have hltz : ¬ (i : Int) < (b : Int) := by omega
      go_wp2
      go_end0
      exact ⟨rfl, by unfold Go.Sort.insertionSort; rw [← HO.out, insOuter_stop _ _ _ _ _ hlt]; exact S1.out⟩

end Go.Proofs.YtcmdglmcmifflaaDoor.Rs
