/- Layer 8: which replies may be. -/
import Derived.Test.YtkjcfkninmmbhaaOpRpM
namespace Go.Proofs.Ytkjcfkninmmbhaa.Oq
open Go.RowKit Go.Joins Go.Proofs.Ytkjcfkninmmbhaa.Gk

def Rp.may (x : Rp) : Bool := asked x.client x.seq && (if x.results.length = 0 then x.code != 0 else decide (x.results.length ≤ 32) && (x.at_ == 0 && x.code == 0) && x.results.all Rs.may)
abbrev rpV (client seq at_ code : Int) (a : Option Addr) (n cap : Nat) : Value := .agg #[.int .i64 client, .int .i64 seq, .slice a n cap, .int .i64 at_, .int .i64 code]

set_option maxRecDepth 100000 in
set_option maxHeartbeats 4000000 in
theorem replyMayBe_op (client seq at_ code : Int) (l : List RsA) (a : Option Addr) (cap : Nat) (w : World) (hl : ResL w a l) (hn : l.length ≤ 9223372036854775807) (hr : ∀ x ∈ l, x.r.rows.length ≤ 9223372036854775807) :
    Calls Try.prog 42 #[rpV client seq at_ code a l.length cap] w fun e w' => e = .returned (.bool (Rp.may ⟨client, seq, l.map RsA.r, at_, code⟩)) ∧ Below w.heap.size w w' := by
  have hb0 : Below w.heap.size w (w.alloc (.cells #[.int .i64 client, .int .i64 seq, .slice a l.length cap, .int .i64 at_, .int .i64 code] 44)) := (Below.refl _ _).alloc (Nat.le_refl _) _
  cases h1 : asked client seq
  · have HM : Hid (Rp.may ⟨client, seq, l.map RsA.r, at_, code⟩ = false) := by show _ = _; rw [Rp.may, h1]; rfl
    rw [HM.out]
    go_enter Try.func42, Try.ntmps42
    go_wp2_with fail
    refine (isAsked_op _ _ _).mono ?_
    rintro e w' ⟨rfl, rfl⟩
    rw [h1]
    go_wp2
    go_ret
    exact ⟨rfl, hb0⟩
  by_cases h2 : l.length = 0
  · have HM : Hid (Rp.may ⟨client, seq, l.map RsA.r, at_, code⟩ = (code != 0)) := by show _ = _; rw [Rp.may, h1, List.length_map, if_pos h2]; rfl
    rw [HM.out]
    have bz : ((l.length : Int) == 0) = true := by rw [beq_iff_eq]; omega
    clear h2
    go_enter Try.func42, Try.ntmps42
    go_wp2_with fail
    refine (isAsked_op _ _ _).mono ?_
    rintro e w' ⟨rfl, rfl⟩
    rw [h1]
    go_wp2
    go_ret
    exact ⟨rfl, hb0⟩
  have bz : ((l.length : Int) == 0) = false := by rw [beq_eq_false_iff_ne]; omega
  by_cases h3 : (32 : Int) < (l.length : Int)
  · have HM : Hid (Rp.may ⟨client, seq, l.map RsA.r, at_, code⟩ = false) := by show _ = _; rw [Rp.may, h1, List.length_map, if_neg h2, decide_eq_false (show ¬ l.length ≤ 32 by omega)]; rfl
    rw [HM.out]
    go_enter Try.func42, Try.ntmps42
    go_wp2_with fail
    refine (isAsked_op _ _ _).mono ?_
    rintro e w' ⟨rfl, rfl⟩
    rw [h1]
    go_wp2
    go_ret
    exact ⟨rfl, hb0⟩
  cases h4 : at_ == 0
  · have HM : Hid (Rp.may ⟨client, seq, l.map RsA.r, at_, code⟩ = false) := by show _ = _; rw [Rp.may, h1, List.length_map, if_neg h2, h4]; simp
    rw [HM.out]
    go_enter Try.func42, Try.ntmps42
    go_wp2_with fail
    refine (isAsked_op _ _ _).mono ?_
    rintro e w' ⟨rfl, rfl⟩
    rw [h1]
    go_wp2
    go_ret
    exact ⟨rfl, hb0⟩
  cases h5 : code == 0
  · have HM : Hid (Rp.may ⟨client, seq, l.map RsA.r, at_, code⟩ = false) := by show _ = _; rw [Rp.may, h1, List.length_map, if_neg h2, h5]; simp
    rw [HM.out]
    go_enter Try.func42, Try.ntmps42
    go_wp2_with fail
    refine (isAsked_op _ _ _).mono ?_
    rintro e w' ⟨rfl, rfl⟩
    rw [h1]
    go_wp2
    go_ret
    exact ⟨rfl, hb0⟩
  · have HM : Hid (Rp.may ⟨client, seq, l.map RsA.r, at_, code⟩ = (l.map RsA.r).all Rs.may) := by show _ = _; rw [Rp.may, h1, List.length_map, if_neg h2, h4, h5, decide_eq_true (show l.length ≤ 32 by omega)]; rfl
    rw [HM.out]
    obtain rfl : at_ = 0 := by simpa using h4
    obtain rfl : code = 0 := by simpa using h5
    clear HM h4 h5
    go_enter Try.func42, Try.ntmps42
    go_wp2_with fail
    refine (isAsked_op _ _ _).mono ?_
    rintro e w' ⟨rfl, rfl⟩
    rw [h1]
    go_wp2
    go_loopw [32] (fun i wr => ∃ k : Nat, k ≤ l.length ∧ i = .int .i64 k ∧ Hid (∀ j (hj : j < l.length), j < k → (l[j]).r.may = true) ∧ Below w.heap.size w wr) (fun i _ => l.length - (intOf i).toNat)
    case atStart => exact ⟨0, by omega, rfl, hide (fun _ _ h => absurd h (by omega)), hb0⟩
    case round =>
      clear hb0
      obtain ⟨k, hk, rfl, hmay, hbel⟩ := hrel
      have hwr := hbel.size
      by_cases hlt : k < l.length
      · obtain ⟨b, off, rfl, _, hc⟩ := (hl.lies.later (fun b _ _ h => hbel.block b h) hwr).at rsenc_len k hlt
        have c0 := hc 0 _ rfl
        have c1 := hc 1 _ rfl
        have c2 := hc 2 _ rfl
        have c3 := hc 3 _ rfl
        rw [Nat.add_zero] at c0
        clear hc
        have hrows := hl.rows _ (List.getElem_mem hlt)
        have hrl := hr _ (List.getElem_mem hlt)
        cases hx : (l[k]).r.may
        · have HB : Hid ((l.map RsA.r).all Rs.may = false) := ress_no (k := k) (by simpa using hlt) (by simpa using hx)
          go_wp2_with fail
          refine (resultMayBe_op (l[k]) _ (hrows.later (fun b _ _ h => (hbel.alloc hwr _).block b h) (hbel.alloc hwr _).size) hrl).mono ?_
          rintro e w1 ⟨rfl, hb1⟩
          rw [hx]
          have hbel2 := (hbel.alloc hwr _).trans (hb1.mono (by simp; omega))
          go_wp2
          go_ret
          exact ⟨by rw [HB.out]; rfl, hbel2⟩
        · go_wp2_with fail
          refine (resultMayBe_op (l[k]) _ (hrows.later (fun b _ _ h => (hbel.alloc hwr _).block b h) (hbel.alloc hwr _).size) hrl).mono ?_
          rintro e w1 ⟨rfl, hb1⟩
          rw [hx]
          have hbel2 := (hbel.alloc hwr _).trans (hb1.mono (by simp; omega))
          go_wp2
          go_roundw
          case rel =>
            refine ⟨k + 1, by omega, by go_num, hide (fun j hj hjk => ?_), hbel2⟩
            by_cases e : j = k
            · subst e; exact hx
            · exact hmay.out j hj (by omega)
          case measure => simp [intOf]; omega
      · have HA : Hid ((l.map RsA.r).all Rs.may = true) := ress_yes (fun j hj => by
          have hj' : j < l.length := by rw [List.length_map] at hj; exact hj
          rw [List.getElem_map]
          exact hmay.out j hj' (by omega))
        go_wp2
        go_ret
        exact ⟨by rw [HA.out]; rfl, hbel⟩

end Go.Proofs.Ytkjcfkninmmbhaa.Oq
