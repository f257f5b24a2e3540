/- Walks over skylarkref04: All, Apart, New, Fork. -/
import Derived.Test.YtkofmdchopfcgaaCkRef
namespace Go.Proofs.Ytkofmdchopfcgaa.Ck
open Go.RowKit Go.Joins Gk

section
variable {bc g cap : Nat} {S : Cst}
/-- none of the first ones is too great -/
theorem fits_most (hok : S.Ok) {n : Int} (h : ∀ j (hj : j < S.ts.length), n ≤ 1073741824 - S.ts[j]) : n ≤ 1073741824 - S.most := by
  obtain ⟨h1, _⟩ := mostL_is hok.n1
  obtain ⟨j, hj, e⟩ := List.getElem_of_mem h1
  have := h j hj
  rw [e] at this
  exact this

set_option maxHeartbeats 1600000 in
theorem rall_any (w : World) (h : CHeld w RClkT bc g S) (hok : S.Ok) (n : Int) :
    Calls Try.prog 13 #[.pointer (some ⟨bc, 0, none⟩), .int .i64 n] w fun e w' => e = .returned (.int .i64 (S.all n).1) ∧ CHeld w' RClkT bc g (S.all n).2 ∧ Only (two bc g) w w' := by
  obtain ⟨cap, h⟩ := h
  have c0 := h.c0
  have hl2 := hok.n2
  by_cases hn0 : n < 0
  · have hv : S.all n = (1, S) := by simp [Cst.all, mayGo, hn0]
    rw [hv]
    have HH := hide h
    clear h
    go_enter Try.func13, Try.ntmps13
    go_wp2
    go_ret
    exact ⟨rfl, ⟨_, HH.out⟩, Only.refl _ _⟩
  · have hn0' : (0 : Int) ≤ n := by omega
    by_cases hfit : n ≤ 1073741824 - S.most
    · have hmg : mayGo S.most n = 0 := mayGo_zero.2 ⟨hn0', hfit⟩
      have hv : S.all n = (0, { S with ts := S.ts.map (· + n) }) := by simp [Cst.all, hmg]
      rw [hv]
      have HH := hide h
      have hmb := hok.most
      have hE := hide hok.each
      have hF := hide (mostL_is hok.n1).2
      have hMost : mostL S.ts = S.most := rfl
      rw [hMost] at hF
      have hnb : 0 ≤ n ∧ n ≤ 1073741824 := by omega
      clear h hmg hv hMost
      go_enter Try.func13, Try.ntmps13
      go_wp2
      go_loopw [5] (fun i wr => ∃ k : Nat, k ≤ S.ts.length ∧ i = .int .i64 k ∧ wr = w) (fun i _ => S.ts.length - (intOf i).toNat)
      case atStart => exact ⟨0, by omega, rfl, rfl⟩
      case round =>
        obtain ⟨k, hk, rfl, hwe⟩ := hrel
        have hwe := hwe.symm
        subst hwe
        by_cases hlt : k < S.ts.length
        · have i1 : (0 : Int) ≤ (k : Int) := by omega
          have i2 : (k : Int) < (S.ts.length : Int) := by omega
          have ck := HH.out.at k hlt
          have hb := hE.out _ (List.getElem_mem hlt)
          have hle := hF.out _ (List.getElem_mem hlt)
          generalize S.ts[k] = y at *
          have hgt : ¬ 1073741824 - y < n := by omega
          go_wp2
          go_roundw
          case rel => exact ⟨k + 1, by omega, by go_num, by trivial⟩
          case measure => simp [intOf]; omega
        · go_wp2
          go_loopw [6] (fun i wr => ∃ k : Nat, k ≤ S.ts.length ∧ i = .int .i64 k ∧ CHeldL wr RClkT bc g (S.part n k) cap ∧ Only (two bc g) w wr) (fun i _ => S.ts.length - (intOf i).toNat)
          case atStart => exact ⟨0, by omega, rfl, by rw [Cst.part_zero]; exact HH.out, Only.refl _ _⟩
          case round =>
            obtain ⟨q, hq, rfl, hh, ho⟩ := hrel
            have d0 : wr.cell? ⟨bc, 0, none⟩ = some (.slice (some ⟨g, 0, none⟩) S.ts.length cap) := by rw [hh.c0, Cst.part_len]
            by_cases hql : q < S.ts.length
            · have i1 : (0 : Int) ≤ (q : Int) := by omega
              have i2 : (q : Int) < (S.ts.length : Int) := by omega
              have hqp : q < (S.part n q).ts.length := by rw [Cst.part_len]; exact hql
              have ck := hh.at q hqp
              have hpv : (S.part n q).ts[q] = S.ts[q] := by
                have := S.part_tm n q hql
                rwa [Cst.tm_at _ q hqp] at this
              rw [hpv] at ck
              have zk := hh.rfz q hqp
              have hs := hh.setTime q hqp (S.ts[q] + n)
              rw [S.part_succ n q hql] at hs
              have hb := hE.out _ (List.getElem_mem hql)
              have HS := hide hs
              have HO := hide (ho.trans (Only.of_set (own := two bc g) wr (a := ⟨g, q, none⟩) (Or.inr rfl) (.int .i64 (S.ts[q] + n))))
              generalize S.ts[q] = y at *
              clear hpv hs hh ho
              go_wp2
              go_roundw
              case rel => exact ⟨q + 1, by omega, by go_num, HS.out, HO.out⟩
              case measure => simp [intOf]; omega
            · obtain rfl : q = S.ts.length := by omega
              rw [Cst.part_all] at hh
              go_wp2
              go_ret
              exact ⟨rfl, ⟨_, hh⟩, ho⟩
    · have hmg : mayGo S.most n = 2 := by unfold mayGo; rw [if_neg hn0, if_pos (by omega)]
      have hv : S.all n = (2, S) := by simp [Cst.all, hmg]
      rw [hv]
      have HH := hide h
      have HF := hide (show ¬ n ≤ 1073741824 - S.most from hfit)
      have hE := hide hok.each
      clear h hmg hv hfit
      go_enter Try.func13, Try.ntmps13
      go_wp2
      go_loopw [5] (fun i wr => ∃ k : Nat, k ≤ S.ts.length ∧ i = .int .i64 k ∧ Hid (∀ j (hj : j < S.ts.length), j < k → n ≤ 1073741824 - S.ts[j]) ∧ wr = w) (fun i _ => S.ts.length - (intOf i).toNat)
      case atStart => exact ⟨0, by omega, rfl, fun j _ hj => by omega, rfl⟩
      case round =>
        obtain ⟨k, hk, rfl, HA, hwe⟩ := hrel
        have hwe := hwe.symm
        subst hwe
        by_cases hlt : k < S.ts.length
        · have i1 : (0 : Int) ≤ (k : Int) := by omega
          have i2 : (k : Int) < (S.ts.length : Int) := by omega
          have ck := HH.out.at k hlt
          have hb := hE.out _ (List.getElem_mem hlt)
          obtain ⟨y, hy⟩ : ∃ y, S.ts[k] = y := ⟨_, rfl⟩
          rw [hy] at ck hb
          have HY := hide hy
          clear hy
          by_cases hgt : 1073741824 - y < n
          · go_wp2
            go_ret
            exact ⟨rfl, ⟨_, HH.out⟩, Only.refl _ _⟩
          · go_wp2
            go_roundw
            case rel =>
              refine ⟨k + 1, by omega, by go_num, fun j hj hjk => ?_, by trivial⟩
              by_cases e : j = k
              · subst e; rw [HY.out]; omega
              · exact HA.out j hj (by omega)
            case measure => simp [intOf]; omega
        · exfalso
          have h1 := fits_most hok (n := n) (fun j hj => HA.out j hj (by omega))
          have h2 := HF.out
          omega

theorem ends_step {l : List Int} {k : Nat} (hk : k < l.length) {a m : Int} (h : a ∈ l.take (max k 1) ∧ (∀ x ∈ l.take (max k 1), a ≤ x) ∧ m ∈ l.take (max k 1) ∧ ∀ x ∈ l.take (max k 1), x ≤ m) :
    min a l[k] ∈ l.take (max (k + 1) 1) ∧ (∀ x ∈ l.take (max (k + 1) 1), min a l[k] ≤ x) ∧ max m l[k] ∈ l.take (max (k + 1) 1) ∧ ∀ x ∈ l.take (max (k + 1) 1), x ≤ max m l[k] := by
  rw [show max (k + 1) 1 = k + 1 by omega]
  by_cases h0 : k = 0
  · subst h0
    rw [show max 0 1 = 1 from rfl] at h
    obtain ⟨f1, f2, f3⟩ := first_take hk
    have e1 := h.2.1 _ f1
    have e2 := f3 _ h.1
    have e3 := h.2.2.2 _ f1
    have e4 := f2 _ h.2.2.1
    have e5 : min a l[0] = l[0] := by omega
    have e6 : max m l[0] = l[0] := by omega
    rw [e5, e6]
    exact ⟨f1, f3, f1, f2⟩
  · rw [show max k 1 = k by omega] at h
    obtain ⟨a1, a2⟩ := least_step hk h.1 h.2.1
    obtain ⟨b1, b2⟩ := most_step hk h.2.2.1 h.2.2.2
    exact ⟨a1, a2, b1, b2⟩

set_option maxHeartbeats 1600000 in
theorem rapart_any (w : World) (h : CHeld w RClkT bc g S) (hok : S.Ok) :
    Calls Try.prog 21 #[.pointer (some ⟨bc, 0, none⟩)] w fun e w' => e = .returned (.int .i64 S.apart) ∧ Sw w w' := by
  obtain ⟨cap, h⟩ := h
  have c0 := h.c0
  have hl1 := hok.n1
  have hl2 := hok.n2
  have t0 := h.at 0 (by omega)
  have hm := hok.most
  have hle := hok.least
  obtain ⟨y, hy⟩ : ∃ y, S.ts[0]'(by omega) = y := ⟨_, rfl⟩
  rw [hy] at t0
  have HY := hide hy
  have z0 : (0 : Int) < (S.ts.length : Int) := by omega
  have HH := hide h
  clear h hy
  go_enter Try.func21, Try.ntmps21
  go_wp2
  go_quiet (fail)
  go_wp2
  obtain ⟨W, hW⟩ : ∃ W, W = w.drewN nq := ⟨_, rfl⟩
  have hS : Sw w W := by rw [hW]; exact ⟨rfl, below_draws _ _ _⟩
  rw [← hW]
  clear hW t0 c0
  go_loopw [3, 4, 5] (fun lv mv i wr => ∃ (k : Nat) (a m : Int), k ≤ S.ts.length ∧ i = .int .i64 k ∧ lv = .int .i64 a ∧ mv = .int .i64 m ∧ Hid (a ∈ S.ts.take (max k 1) ∧ (∀ x ∈ S.ts.take (max k 1), a ≤ x) ∧ m ∈ S.ts.take (max k 1) ∧ ∀ x ∈ S.ts.take (max k 1), x ≤ m) ∧ Sw w wr) (fun _ _ i _ => S.ts.length - (intOf i).toNat)
  case atStart =>
    have hf := first_take (l := S.ts) (by omega)
    rw [HY.out] at hf
    exact ⟨0, y, y, by omega, rfl, rfl, rfl, ⟨hf.1, hf.2.2, hf.1, hf.2.1⟩, hS⟩
  case round =>
    obtain ⟨k, a, m, hk, rfl, rfl, rfl, HA, hSr⟩ := hrel
    have HHr := hide (HH.out.sw hSr)
    have c0 := HHr.out.c0
    by_cases hlt : k < S.ts.length
    · have i1 : (0 : Int) ≤ (k : Int) := by omega
      have i2 : (k : Int) < (S.ts.length : Int) := by omega
      have ck := HHr.out.at k hlt
      have HN := hide (ends_step hlt HA.out)
      generalize S.ts[k] = z at *
      go_wp2
      go_roundw
      case rel => exact ⟨k + 1, min a z, max m z, by omega, by go_num, rfl, rfl, HN.out, hSr⟩
      case measure => simp [intOf]; omega
    · obtain rfl : k = S.ts.length := by omega
      have hA := HA.out
      rw [show max S.ts.length 1 = S.ts.length by omega, List.take_length] at hA
      have h1 := hide (mostL_iff hA.2.2.1 hA.2.2.2)
      have h2 := hide (leastL_iff hA.1 hA.2.1)
      have hma : S.most = m := h1.out
      have hla : S.least = a := h2.out
      rw [hma] at hm
      rw [hla] at hle
      have hap := hide (show m - a = S.apart by rw [Cst.apart, hma, hla])
      clear hA HA h1 h2 hma hla
      go_wp2
      go_ret
      exact ⟨ret_int hap.out, hSr⟩
end

end Go.Proofs.Ytkofmdchopfcgaa.Ck
