/- Walks over skylarkref03: Drop. -/
import Derived.Test.YtmdpkkipjdpopaaRtTake
namespace Go.Proofs.Ytmdpkkipjdpopaa.Nk
open Go.RowKit Go.Joins Gk

def stays (a : Int) (x : Lt) : Bool := !touches a x
theorem stays_eq (a : Int) (x : Lt) : stays a x = ((x.fr : Int) != a && (x.to : Int) != a) := by
  simp only [stays, touches, bne]
  cases ((x.fr : Int) == a) <;> simp

set_option maxHeartbeats 3200000 in
theorem rdrops_any {own : Nat → Prop} {br : Nat} {S : Nst} (w : World) (h : RNHeld w own br S) (hfr : Fresh own w) (hok : S.Ok) (a : Int) :
    Calls Try.prog 30 #[.pointer (some ⟨br, 0, none⟩), .int .i64 a] w fun e w' => e = .returned (.tuple #[.int .i64 (S.drop a).1.1, .int .i64 (S.drop a).1.2]) ∧ RNHeld w' own br (S.drop a).2 ∧ Only own w w' := by
  obtain ⟨v, u, gs, h⟩ := h
  have hX := rnone_any w h
  cases ha : hasN S.nodes a
  · have hv : S.drop a = ((0, 30), S) := by simp [Nst.drop, ha]
    rw [hv]
    have HH := hide h
    clear h hv
    go_enter Try.func30, Try.ntmps30
    go_wp2_with (first | (go_at_call 44; refine (hX _).mono ?_; rintro e w1 ⟨rfl, rfl⟩))
    go_ret2
    exact ⟨rfl, ⟨v, u, gs, HH.out⟩, Only.refl _ _⟩
  · have hv : S.drop a = (((S.ls.length : Int) - ((S.ls.filter (stays a)).length : Int), 0), { S with ls := S.ls.filter (stays a) }) := by
      have e : (fun x => !touches a x) = stays a := rfl
      simp [Nst.drop, ha, e]
    rw [hv]
    obtain ⟨L, hL⟩ : ∃ L, L = S.ls.filter (stays a) := ⟨_, rfl⟩
    rw [← hL]
    have HL := hide hL
    clear hL
    have hml := hok.many
    obtain ⟨av, cv, rfl⟩ := h.row.slice
    have HH := hide h
    have hbl := h.lt
    have c1 := h.c1
    clear h hv
    go_enter Try.func30, Try.ntmps30
    go_wp2_with (first | (go_at_call 44; refine (hX _).mono ?_; rintro e w1 ⟨rfl, rfl⟩))
    go_loopw [6, 7] (fun o i wr => ∃ k : Nat, k ≤ S.ls.length ∧ i = .int .i64 k ∧ Row wr lenc RLetT 4 o ((S.ls.take k).filter (stays a)) ∧ (∀ g, o.ownBlock = some g → w.heap.size ≤ g) ∧ Below w.heap.size w wr) (fun _ i _ => S.ls.length - (intOf i).toNat)
    case atStart => exact ⟨0, by omega, rfl, Row.nil _ _, fun g hg => by simp [Value.ownBlock] at hg, Below.refl _ _⟩
    case round =>
      obtain ⟨k, hk, rfl, hrow, hab, hbel⟩ := hrel
      obtain ⟨ao, co, rfl⟩ := hrow.slice
      have c1' := (hbel.cell (p := ⟨br, 1, none⟩) hbl).trans c1
      have hlen : ((S.ls.take k).filter (stays a)).length ≤ k := Nat.le_trans (List.length_filter_le _ _) (by rw [List.length_take]; omega)
      by_cases hlt : k < S.ls.length
      · obtain ⟨b, off, rfl, hbl', hc⟩ := ((HH.out.below hbel).row.lies).at lenc_len k hlt
        have i1 : (0 : Int) ≤ (k : Int) := by omega
        have i2 : (k : Int) < (S.ls.length : Int) := by omega
        have d0 := hc 0 _ rfl
        have d1 := hc 1 _ rfl
        have d2 := hc 2 _ rfl
        have d3 := hc 3 _ rfl
        rw [Nat.add_zero] at d0
        clear hc
        obtain ⟨x, hx⟩ : ∃ x, S.ls[k] = x := ⟨_, rfl⟩
        rw [hx] at d0 d1 d2 d3
        have HT := hide (show (S.ls.take (k + 1)).filter (stays a) = (S.ls.take k).filter (stays a) ++ if stays a x = true then [x] else [] by
          rw [List.take_succ_eq_append_getElem hlt, List.filter_append, hx, List.filter_cons]; split <;> simp)
        clear hx
        generalize (S.ls.take k).filter (stays a) = l0 at *
        cases hq1 : ((x.fr : Int) != a)
        · have hst : stays a x = false := by rw [stays_eq, hq1]; rfl
          have HT2 := hide (show (S.ls.take (k + 1)).filter (stays a) = l0 by rw [HT.out, hst]; simp)
          clear hst
          go_wp2
          go_roundw
          case rel => exact ⟨k + 1, by omega, by go_num, by rw [HT2.out]; exact hrow, hab, hbel⟩
          case measure => simp [intOf]; omega
        · cases hq2 : ((x.to : Int) != a)
          · have hst : stays a x = false := by rw [stays_eq, hq1, hq2]; rfl
            have HT2 := hide (show (S.ls.take (k + 1)).filter (stays a) = l0 by rw [HT.out, hst]; simp)
            clear hst
            go_wp2
            go_roundw
            case rel => exact ⟨k + 1, by omega, by go_num, by rw [HT2.out]; exact hrow, hab, hbel⟩
            case measure => simp [intOf]; omega
          · have hst : stays a x = true := by rw [stays_eq, hq1, hq2]; rfl
            have HT2 := hide (show (S.ls.take (k + 1)).filter (stays a) = l0 ++ [x] by rw [HT.out, hst]; simp)
            clear hst
            go_wp2_with (at_builtin; refine wpList_push (enc := lenc) (k := 4) rfl (.tmp 43) (.tmp 51) 63 rfl RLetT noL 40 Try.underlying63 rlet_info rfl (by decide) lenc_len lenc_one 0 _ l0 rfl (hrow.below (below_alloc1 wr _)) wr.heap.size x rfl (heap_alloc_new wr _) ?c1 ?c2 (Nat.zero_le _) ?_)
            case c1 => omega
            case c2 => omega
            intro v5 w5 hown5 hg5 hat5
            have hr5 : Row w5 lenc RLetT 4 v5 (l0 ++ [x]) := by
              show w5.ownsRow 0 RLetT 4 v5 (l0 ++ [x]).length _
              rw [List.length_append]; exact hown5
            have hb5 := below_grown (hbel.alloc hbel.size (.cells #[.int .i64 x.id, .int .i64 x.fr, .int .i64 x.to, .string x.body] RLetT)) hg5 hab
            have hab5 : ∀ g, v5.ownBlock = some g → w.heap.size ≤ g := fun g hg => (hat5 g hg).elim (hab g) fun h => by have := hbel.size; omega
            clear hown5 hg5 hat5
            go_wp2
            go_roundw
            case rel => exact ⟨k + 1, by omega, by go_num, by rw [HT2.out]; exact hr5, hab5, hb5⟩
            case measure => simp [intOf]; omega
      · have hke : (S.ls.take k).filter (stays a) = L := by rw [HL.out, List.take_of_length_le (by omega)]
        rw [hke] at hrow hab hlen
        rw [hke]
        have HR := hide (HH.out.below hbel)
        have z1 := HR.out.fz 1
        clear hke
        go_wp2
        go_ret2
        exact ⟨rfl, ⟨_, _, _, HR.out.setRow hrow (fun g hg => hfr g (hab g hg))⟩, (Only.of_below hbel).trans (Only.of_set wr HR.out.ownD _)⟩

end Go.Proofs.Ytmdpkkipjdpopaa.Nk
