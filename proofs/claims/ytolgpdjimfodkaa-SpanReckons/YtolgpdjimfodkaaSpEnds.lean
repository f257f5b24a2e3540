/- Walks over rule.go: addEnds, byPlace; over span.go: checkList. -/
import Derived.Test.YtolgpdjimfodkaaSpHas
import Derived.Test.YtolgpdjimfodkaaGApp
import Derived.Test.YtolgpdjimfodkaaGStep
namespace Go.Proofs.Ytolgpdjimfodkaa.Sp
open Go.RowKit Go.Joins Gk

def nenc (x : En) : List Value := [.string x.pl, .int .i64 x.ls, .int .i64 x.st]
theorem nenc_len (x : En) : (nenc x).length = 3 := rfl
theorem nenc_one (x : En) : ∀ u ∈ nenc x, u.oneCell' = true := by intro u hu; simp [nenc] at hu; rcases hu with rfl | rfl | rfl <;> rfl
abbrev nval (x : En) : Value := .agg #[.string x.pl, .int .i64 x.ls, .int .i64 x.st]
abbrev EnT : TypeId := 58
theorem en_info : (Try.prog.info? EnT).map (fun i => (i.zero, i.size, i.bytes)) = some (some (.agg #[.string ⟨#[]⟩, .int .i64 0, .int .i64 0]), 3, 32) := by kernel_rfl

set_option maxHeartbeats 3200000 in
set_option maxRecDepth 100000 in
theorem addEnds_any (w0 : World) (v : Value) (E : List En) (a : Option Addr) (cap : Nat) (l : List Sp) (j : Int) (w : World) (hr : w.ownsRow w0.heap.size EnT 3 v E.length (rc nenc E)) (hl : Lies w0 senc a l) (hb : Below w0.heap.size w0 w) (hn : E.length + 2 * l.length ≤ 1000000) :
    Calls Try.prog 42 #[v, .slice a l.length cap, .int .i64 j] w fun e w' => ∃ v', e = .returned v' ∧ w'.ownsRow w0.heap.size EnT 3 v' (E ++ endsOf j l).length (rc nenc (E ++ endsOf j l)) ∧ Below w0.heap.size w0 w' := by
  go_enter Try.func42, Try.ntmps42
  go_wp2
  go_loopw [0, 11] (fun v' i wr => ∃ k : Nat, k ≤ l.length ∧ i = .int .i64 k ∧ wr.ownsRow w0.heap.size EnT 3 v' (E ++ endsOf j (l.take k)).length (rc nenc (E ++ endsOf j (l.take k))) ∧ Below w0.heap.size w0 wr) (fun _ i _ => l.length - (intOf i).toNat)
  case atStart => exact ⟨0, by omega, rfl, by simpa [endsOf] using hr, hb⟩
  case round =>
    clear hr hb
    obtain ⟨k, hk, rfl, hrow, hbel⟩ := hrel
    by_cases hlt : k < l.length
    · obtain ⟨b, off, rfl, hbl, hc⟩ := (hl.below hbel).at (k := 2) senc_len k hlt
      have i1 : (0 : Int) ≤ (k : Int) := by omega
      have i2 : (k : Int) < (l.length : Int) := by omega
      have c0 := hc 0 _ rfl
      have c1 := hc 1 _ rfl
      rw [Nat.add_zero] at c0
      have hL : (E ++ endsOf j (l.take k)).length ≤ E.length + 2 * k := by
        rw [List.length_append]
        have := endsOf_len j (l.take k)
        rw [List.length_take, Nat.min_eq_left hk] at this
        omega
      have hnx : E ++ endsOf j (l.take (k + 1)) = (E ++ endsOf j (l.take k)) ++ ends1 j l[k] := by
        rw [List.take_succ_eq_append_getElem hlt, endsOf_append, List.append_assoc]
        simp [endsOf]
      clear hc
      obtain ⟨x, hx⟩ : ∃ x, l[k] = x := ⟨_, rfl⟩
      rw [hx] at c0 c1 hnx
      obtain ⟨E1, hE1⟩ : ∃ E1, E ++ endsOf j (l.take k) = E1 := ⟨_, rfl⟩
      rw [hE1] at hrow hnx hL
      have HN := hide hnx
      clear hx hE1 hnx
      have hz := hbel.size
      have hbz := hbel
      have hb1 : Below w0.heap.size w0 (wr.alloc (.cells #[.string x.fr, .string x.to] SpT)) := hbel.alloc hz _
      have hr1 := own_below hrow (below_alloc1 wr (.cells #[.string x.fr, .string x.to] SpT))
      have hA := heap_alloc_new wr (.cells #[.string x.fr, .string x.to] SpT)
      obtain ⟨w1, hw1⟩ : ∃ w1, w1 = wr.alloc (.cells #[.string x.fr, .string x.to] SpT) := ⟨_, rfl⟩
      have hs1 : w1.heap.size = wr.heap.size + 1 := by rw [hw1]; simp
      rw [← hw1] at hb1 hr1 hA
      have hp1 : ∀ y : En, (w1.alloc (.cells (nenc y).toArray EnT)).heap[wr.heap.size + 1]? = some (.cells (nenc y).toArray EnT (0, 0)) := fun y => by rw [← hs1]; exact heap_alloc_new w1 _
      have hr2 := own_below hr1 (below_alloc1 w1 (.cells (nenc ⟨x.fr, j, 1⟩).toArray EnT))
      have hb2 : Below w0.heap.size w0 (w1.alloc (.cells (nenc ⟨x.fr, j, 1⟩).toArray EnT)) := hb1.alloc (by omega) _
      have hpy := hp1 ⟨x.fr, j, 1⟩
      have hA2 : (w1.alloc (.cells (nenc ⟨x.fr, j, 1⟩).toArray EnT)).heap[wr.heap.size]? = some (.cells #[.string x.fr, .string x.to] SpT (0, 0)) := ((below_alloc1 w1 _).block _ (by omega)).trans hA
      have hfar : ∀ g, u0.ownBlock = some g → g < wr.heap.size := fun g hg => (hrow.lt g hg).2
      have HQ := hide (And.intro hr2 (And.intro hb2 (And.intro hpy (And.intro hA2 hfar))))
      clear hr2 hb2 hpy hA2 hfar hp1 hr1 hrow hbz hl
      by_cases hto : x.to.toList = []
      · go_wp2_with (first | rw [← hw1] | (at_builtin; refine wpList_push (enc := nenc) (k := 3) rfl (.tmp 15) (.tmp 20) 54 rfl EnT (.agg #[.string ⟨#[]⟩, .int .i64 0, .int .i64 0]) 32 Try.underlying54 en_info rfl (by decide) nenc_len nenc_one w0.heap.size u0 E1 rfl HQ.out.1 (wr.heap.size + 1) ⟨x.fr, j, 1⟩ rfl HQ.out.2.2.1 ?c1 ?c2 ?c3 ?_))
        case c1 => omega
        case c2 => omega
        case c3 => exact HQ.out.2.1.size
        intro v2 w2 hrow2 hg2 hat2
        have hA3 := (hg2.block _ (by rw [World.size_alloc]; omega) fun e => by have := HQ.out.2.2.2.2 _ e.symm; omega).trans HQ.out.2.2.2.1
        have hb3 := HQ.out.2.1.grown hg2 HQ.out.2.1.size fun g hg => (HQ.out.1.lt g hg).1
        have k1 : w2.cell? ⟨wr.heap.size, 1, none⟩ = some (.string x.to) := by rw [cell_of_block hA3]; rfl
        rw [show E1.length + 1 = (E1 ++ [(⟨x.fr, j, 1⟩ : En)]).length by simp] at hrow2
        have HR2 := hide hrow2
        clear hg2 hat2 hrow2
        go_wp2
        go_roundw
        case rel =>
          refine ⟨k + 1, by omega, by go_num, ?_, hb3⟩
          rw [HN.out, ends1, if_pos ((nil_nix _).1 hto)]
          exact HR2.out
        case measure => simp [intOf]; omega
      · go_wp2_with (first | rw [← hw1] | (at_builtin; refine wpList_push (enc := nenc) (k := 3) rfl (.tmp 15) (.tmp 20) 54 rfl EnT (.agg #[.string ⟨#[]⟩, .int .i64 0, .int .i64 0]) 32 Try.underlying54 en_info rfl (by decide) nenc_len nenc_one w0.heap.size u0 E1 rfl HQ.out.1 (wr.heap.size + 1) ⟨x.fr, j, 1⟩ rfl HQ.out.2.2.1 ?c1 ?c2 ?c3 ?_))
        case c1 => omega
        case c2 => omega
        case c3 => exact HQ.out.2.1.size
        intro v2 w2 hrow2 hg2 hat2
        have hA3 := (hg2.block _ (by rw [World.size_alloc]; omega) fun e => by have := HQ.out.2.2.2.2 _ e.symm; omega).trans HQ.out.2.2.2.1
        have hb3 := HQ.out.2.1.grown hg2 HQ.out.2.1.size fun g hg => (HQ.out.1.lt g hg).1
        have k1 : w2.cell? ⟨wr.heap.size, 1, none⟩ = some (.string x.to) := by rw [cell_of_block hA3]; rfl
        rw [show E1.length + 1 = (E1 ++ [(⟨x.fr, j, 1⟩ : En)]).length by simp] at hrow2
        have HR2 := hide hrow2
        have hte : x.to.toList.isEmpty = false := by simpa using hto
        clear hg2 hat2 hrow2
        go_wp2_with (at_builtin; refine wpList_push (enc := nenc) (k := 3) rfl (.tmp 25) (.tmp 30) 54 rfl EnT (.agg #[.string ⟨#[]⟩, .int .i64 0, .int .i64 0]) 32 Try.underlying54 en_info rfl (by decide) nenc_len nenc_one w0.heap.size v2 (E1 ++ [⟨x.fr, j, 1⟩]) rfl (own_below HR2.out (below_alloc1 w2 _)) w2.heap.size ⟨x.to, j, -1⟩ rfl (heap_alloc_new w2 _) ?c1 ?c2 ?c3 ?_)
        case c1 => simp; omega
        case c2 => simp; omega
        case c3 => exact (hb3.alloc hb3.size _).size
        intro v3 w3 hrow3 hg3 hat3
        have hb4 := (hb3.alloc hb3.size _).grown hg3 (hb3.alloc hb3.size _).size fun g hg => (HR2.out.lt g hg).1
        have hrow3 : w3.ownsRow w0.heap.size EnT 3 v3 (E1 ++ [(⟨x.fr, j, 1⟩ : En)] ++ [(⟨x.to, j, -1⟩ : En)]).length (rc nenc (E1 ++ [(⟨x.fr, j, 1⟩ : En)] ++ [(⟨x.to, j, -1⟩ : En)])) := by simpa using hrow3
        have HR3 := hide hrow3
        clear hg3 hat3 hrow3
        go_wp2
        go_roundw
        case rel =>
          refine ⟨k + 1, by omega, by go_num, ?_, hb4⟩
          rw [HN.out, ends1, if_neg (fun e => hto ((nil_nix _).2 e))]
          have h3 := HR3.out
          rw [List.append_assoc] at h3
          exact h3
        case measure => simp [intOf]; omega
    · obtain rfl : k = l.length := by omega
      rw [List.take_length] at hrow
      go_wp2
      go_ret
      exact ⟨_, rfl, hrow, hbel⟩

/-- what is wrong with a list -/
def wrongL (l : List Sp) : Int := if 4096 < l.length then 2 else if l.all may then 0 else 50

set_option maxHeartbeats 1600000 in
theorem checkList_any (a : Option Addr) (cap : Nat) (l : List Sp) (w : World) (hl : Lies w senc a l) (hn : l.length ≤ 9223372036854775807) :
    Calls Try.prog 33 #[.slice a l.length cap] w fun e w' => e = .returned (.int .i64 (wrongL l)) ∧ Below w.heap.size w w' := by
  by_cases h0 : 4096 < l.length
  · have h0' : (4096 : Int) < (l.length : Int) := by omega
    go_enter Try.func33, Try.ntmps33
    go_wp2
    go_ret
    exact ⟨ret_int (by rw [wrongL, if_pos h0]), Below.refl _ _⟩
  · have h0' : ¬ (4096 : Int) < (l.length : Int) := by omega
    go_enter Try.func33, Try.ntmps33
    go_wp2
    go_loopw [11] (fun i wr => ∃ k : Nat, k ≤ l.length ∧ i = .int .i64 k ∧ Below w.heap.size w wr ∧ Hid (∀ j (hj : j < l.length), j < k → may l[j] = true)) (fun i _ => l.length - (intOf i).toNat)
    case atStart => exact ⟨0, by omega, rfl, Below.refl _ _, fun j _ hj => by omega⟩
    case round =>
      obtain ⟨k, hk, rfl, hbel, HA⟩ := hrel
      by_cases hlt : k < l.length
      · obtain ⟨b, off, rfl, hbl, hc⟩ := (hl.below hbel).at (k := 2) senc_len k hlt
        have i1 : (0 : Int) ≤ (k : Int) := by omega
        have i2 : (k : Int) < (l.length : Int) := by omega
        have c0 := hc 0 _ rfl
        have c1 := hc 1 _ rfl
        rw [Nat.add_zero] at c0
        clear hc
        obtain ⟨x, hx⟩ : ∃ x, l[k] = x := ⟨_, rfl⟩
        rw [hx] at c0 c1
        have HX := hide hx
        clear hx
        have hz := hbel.size
        by_cases hm : may x = true
        · have hcall := fun W => check_any x W
          rw [chk, if_pos hm] at hcall
          go_wp2_with (go_at_call 19; refine (hcall _).mono ?_; rintro e w' ⟨rfl, hb'⟩)
          go_roundw
          case rel =>
            refine ⟨k + 1, by omega, by go_num, hbel.trans (((Below.refl _ _).alloc (Nat.le_refl _) _).trans (hb'.mono (by simp)) |>.mono hz), fun j hj hjk => ?_⟩
            by_cases e : j = k
            · subst e; rw [HX.out]; exact hm
            · exact HA.out j hj (by omega)
          case measure => simp [intOf]; omega
        · have hcall := fun W => check_any x W
          rw [chk, if_neg hm] at hcall
          go_wp2_with (go_at_call 19; refine (hcall _).mono ?_; rintro e w' ⟨rfl, hb'⟩)
          go_ret
          refine ⟨ret_int ?_, hbel.trans (((Below.refl _ _).alloc (Nat.le_refl _) _).trans (hb'.mono (by simp)) |>.mono hz)⟩
          rw [wrongL, if_neg h0, if_neg]
          intro h
          exact hm (HX.out ▸ List.all_eq_true.1 h _ (List.getElem_mem hlt))
      · obtain rfl : k = l.length := by omega
        go_wp2
        go_ret
        refine ⟨ret_int ?_, hbel⟩
        rw [wrongL, if_neg h0, if_pos]
        refine List.all_eq_true.2 fun x hx => ?_
        obtain ⟨j, hj, rfl⟩ := List.getElem_of_mem hx
        exact HA.out j hj hj

end Go.Proofs.Ytolgpdjimfodkaa.Sp
