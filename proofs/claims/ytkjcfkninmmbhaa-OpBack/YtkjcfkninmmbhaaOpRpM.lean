/- Layer 8: which results and replies may be. -/
import Derived.Test.YtkjcfkninmmbhaaOpRpG
import Derived.Test.YtkjcfkninmmbhaaOpEnc
namespace Go.Proofs.Ytkjcfkninmmbhaa.Oq
open Go.RowKit Go.Joins Go.Proofs.Ytkjcfkninmmbhaa.Gk

/-- what its own cells say of a result -/
def Rs.head (x : Rs) : Bool := within x.code 0 300 && stampZ x.stamp && valB x.val && decide (x.rows.length ≤ 100)
theorem rows_no {l : List Rw} {k : Nat} (h : k < l.length) (hm : l[k].may = false) : l.all Rw.may = false := by
  rw [List.all_eq_false]; exact ⟨l[k], List.getElem_mem h, by simp [hm]⟩
theorem rows_yes {l : List Rw} (h : ∀ j (hj : j < l.length), l[j].may = true) : l.all Rw.may = true := by
  rw [List.all_eq_true]; intro x hx; obtain ⟨j, hj, rfl⟩ := List.getElem_of_mem hx; exact h j hj
theorem ress_no {l : List Rs} {k : Nat} (h : k < l.length) (hm : l[k].may = false) : l.all Rs.may = false := by
  rw [List.all_eq_false]; exact ⟨l[k], List.getElem_mem h, by simp [hm]⟩
theorem ress_yes {l : List Rs} (h : ∀ j (hj : j < l.length), l[j].may = true) : l.all Rs.may = true := by
  rw [List.all_eq_true]; intro x hx; obtain ⟨j, hj, rfl⟩ := List.getElem_of_mem hx; exact h j hj
abbrev RsA.v (x : RsA) : Value := .agg #[.int .i64 x.r.code, .int .i64 x.r.stamp, .string x.r.val, .slice x.a x.r.rows.length x.cap]

set_option maxRecDepth 100000 in
set_option maxHeartbeats 4000000 in
theorem resultMayBe_op (x : RsA) (w : World) (hl : Gk.Lies w rwenc x.a x.r.rows) (hn : x.r.rows.length ≤ 9223372036854775807) :
    Calls Try.prog 70 #[x.v] w fun e w' => e = .returned (.bool x.r.may) ∧ Below w.heap.size w w' := by
  obtain ⟨⟨xc, xs, xv, xr⟩, xa, xcap⟩ := x
  simp only at hl hn
  rw [RsA.v]
  simp only
  have hb0 : Below w.heap.size w (w.alloc (.cells #[.int .i64 xc, .int .i64 xs, .string xv, .slice xa xr.length xcap] 107)) := (Below.refl _ _).alloc (Nat.le_refl _) _
  cases h1 : within xc 0 300
  · have HM : Hid (Rs.may ⟨xc, xs, xv, xr⟩ = false) := by show _ = _; rw [Rs.may, h1]; rfl
    go_enter Try.func70, Try.ntmps70
    go_wp2_with fail
    refine (isWithin_any _ _ _ _).mono ?_
    rintro e w' ⟨rfl, rfl⟩
    rw [h1]
    go_wp2
    go_ret
    exact ⟨by rw [HM.out]; rfl, hb0⟩
  cases h2 : stampZ xs
  · have HM : Hid (Rs.may ⟨xc, xs, xv, xr⟩ = false) := by show _ = _; rw [Rs.may, h1, h2]; rfl
    go_enter Try.func70, Try.ntmps70
    go_wp2_with fail
    refine (isWithin_any _ _ _ _).mono ?_
    rintro e w' ⟨rfl, rfl⟩
    rw [h1]
    go_wp2_with fail
    refine (isStampOrNone_any _ _).mono ?_
    rintro e w' ⟨rfl, rfl⟩
    rw [h2]
    go_wp2
    go_ret
    exact ⟨by rw [HM.out]; rfl, hb0⟩
  cases h3 : valB xv
  · have HM : Hid (Rs.may ⟨xc, xs, xv, xr⟩ = false) := by show _ = _; rw [Rs.may, h1, h2, h3]; rfl
    go_enter Try.func70, Try.ntmps70
    go_wp2_with fail
    refine (isWithin_any _ _ _ _).mono ?_
    rintro e w' ⟨rfl, rfl⟩
    rw [h1]
    go_wp2_with fail
    refine (isStampOrNone_any _ _).mono ?_
    rintro e w' ⟨rfl, rfl⟩
    rw [h2]
    go_wp2_with fail
    refine (isValue_any _ _).mono ?_
    rintro e w' ⟨rfl, rfl⟩
    rw [h3]
    go_wp2
    go_ret
    exact ⟨by rw [HM.out]; rfl, hb0⟩
  by_cases h4 : (100 : Int) < (xr.length : Int)
  · have HM : Hid (Rs.may ⟨xc, xs, xv, xr⟩ = false) := by show _ = _; rw [Rs.may, h1, h2, h3, decide_eq_false (show ¬ xr.length ≤ 100 by omega)]; rfl
    go_enter Try.func70, Try.ntmps70
    go_wp2_with fail
    refine (isWithin_any _ _ _ _).mono ?_
    rintro e w' ⟨rfl, rfl⟩
    rw [h1]
    go_wp2_with fail
    refine (isStampOrNone_any _ _).mono ?_
    rintro e w' ⟨rfl, rfl⟩
    rw [h2]
    go_wp2_with fail
    refine (isValue_any _ _).mono ?_
    rintro e w' ⟨rfl, rfl⟩
    rw [h3]
    go_wp2
    go_ret
    exact ⟨by rw [HM.out]; rfl, hb0⟩
  · have HM : Hid (Rs.may ⟨xc, xs, xv, xr⟩ = xr.all Rw.may) := by show _ = _; rw [Rs.may, h1, h2, h3, decide_eq_true (show xr.length ≤ 100 by omega)]; rfl
    go_enter Try.func70, Try.ntmps70
    go_wp2_with fail
    refine (isWithin_any _ _ _ _).mono ?_
    rintro e w' ⟨rfl, rfl⟩
    rw [h1]
    go_wp2_with fail
    refine (isStampOrNone_any _ _).mono ?_
    rintro e w' ⟨rfl, rfl⟩
    rw [h2]
    go_wp2_with fail
    refine (isValue_any _ _).mono ?_
    rintro e w' ⟨rfl, rfl⟩
    rw [h3]
    go_wp2
    go_loopw [30] (fun i wr => ∃ k : Nat, k ≤ xr.length ∧ i = .int .i64 k ∧ Hid (∀ j (hj : j < xr.length), j < k → (xr[j]).may = true) ∧ Below w.heap.size w wr) (fun i _ => xr.length - (intOf i).toNat)
    case atStart => exact ⟨0, by omega, rfl, hide (fun _ _ h => absurd h (by omega)), hb0⟩
    case round =>
      clear hb0
      obtain ⟨k, hk, rfl, hmay, hbel⟩ := hrel
      have hwr := hbel.size
      by_cases hlt : k < xr.length
      · obtain ⟨b, off, rfl, _, hc⟩ := (hl.later (fun b _ _ h => hbel.block b h) hwr).at rwenc_len k hlt
        have c0 := hc 0 _ rfl
        have c1 := hc 1 _ rfl
        have c2 := hc 2 _ rfl
        rw [Nat.add_zero] at c0
        clear hc
        have hbel2 : ∀ o, Below w.heap.size w (wr.alloc o) := fun o => hbel.alloc hwr o
        have HB : Hid ((xr[k]).may = false → Rs.may ⟨xc, xs, xv, xr⟩ = false) := fun h => by rw [HM.out]; exact rows_no hlt h
        have HG : Hid ((xr[k]).may = true → ∀ j (hj : j < xr.length), j < k + 1 → (xr[j]).may = true) := by
          intro h j hj hjk
          by_cases e : j = k
          · subst e; exact h
          · exact hmay.out j hj (by omega)
        have HX : Hid ((xr[k]).may = (keyB (xr[k]).key && stampB (xr[k]).stamp && valB (xr[k]).val)) := rfl
        clear hmay
        generalize xr[k] = y at *
        cases k1 : keyB y.key
        · have HF := hide (HB.out (by rw [HX.out, k1]; rfl))
          go_wp2_with fail
          refine (isKey_any _ _).mono ?_
          rintro e w' ⟨rfl, rfl⟩
          rw [k1]
          go_wp2
          go_ret
          exact ⟨by rw [HF.out]; rfl, hbel2 _⟩
        cases k2 : stampB y.stamp
        · have HF := hide (HB.out (by rw [HX.out, k1, k2]; rfl))
          go_wp2_with fail
          refine (isKey_any _ _).mono ?_
          rintro e w' ⟨rfl, rfl⟩
          rw [k1]
          go_wp2_with fail
          refine (isStamp_any _ _).mono ?_
          rintro e w' ⟨rfl, rfl⟩
          rw [k2]
          go_wp2
          go_ret
          exact ⟨by rw [HF.out]; rfl, hbel2 _⟩
        cases k3 : valB y.val
        · have HF := hide (HB.out (by rw [HX.out, k1, k2, k3]; rfl))
          go_wp2_with fail
          refine (isKey_any _ _).mono ?_
          rintro e w' ⟨rfl, rfl⟩
          rw [k1]
          go_wp2_with fail
          refine (isStamp_any _ _).mono ?_
          rintro e w' ⟨rfl, rfl⟩
          rw [k2]
          go_wp2_with fail
          refine (isValue_any _ _).mono ?_
          rintro e w' ⟨rfl, rfl⟩
          rw [k3]
          go_wp2
          go_ret
          exact ⟨by rw [HF.out]; rfl, hbel2 _⟩
        · have HK := hide (HG.out (by rw [HX.out, k1, k2, k3]; rfl))
          go_wp2_with fail
          refine (isKey_any _ _).mono ?_
          rintro e w' ⟨rfl, rfl⟩
          rw [k1]
          go_wp2_with fail
          refine (isStamp_any _ _).mono ?_
          rintro e w' ⟨rfl, rfl⟩
          rw [k2]
          go_wp2_with fail
          refine (isValue_any _ _).mono ?_
          rintro e w' ⟨rfl, rfl⟩
          rw [k3]
          have hbel3 := hbel2 (.cells #[.string y.key, .int .i64 y.stamp, .string y.val] 111)
          go_wp2
          go_roundw
          case rel => exact ⟨k + 1, by omega, by go_num, HK, hbel3⟩
          case measure => simp [intOf]; omega
      · have HA : Hid (xr.all Rw.may = true) := rows_yes (fun j hj => hmay.out j hj (by omega))
        go_wp2
        go_ret
        exact ⟨by rw [HM.out, HA.out]; rfl, hbel⟩

end Go.Proofs.Ytkjcfkninmmbhaa.Oq
