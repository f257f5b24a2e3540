/- Walks over vals/file.go: end. -/
import Derived.Test.YtgfmnffaknmcnaaGreatDoorVlPl
namespace Go.Proofs.YtgfmnffaknmcnaaGreatDoor.Vl
open Go.RowKit Go.Joins
open Go.Proofs.YtgfmnffaknmcnaaGreatDoor.Dk (Bs Fil Fls St St.Ok Held Only Rising named getL getL_some)

/-- a new file's number, behind t -/
def newR (t : Nat) : Option (Nat × Nat) := if 1048576 ≤ t then none else some (t + 1, 0)
/-- in which file the next value comes, and where -/
def endR (S : St) (most top : Nat) : Option (Nat × Nat) :=
  match (nums S).getLast? with
  | none => newR top
  | some n => if (dat S n).length < most then some (n, (dat S n).length) else newR (max top n)
def endE (r : Option (Nat × Nat)) : Ending := match r with | some p => .returned (.tuple #[.int .i64 p.1, .int .i64 p.2]) | none => gone 2
section
variable {w0 w w' : World} {own : Nat → Prop} {bd bv most top : Nat} {S : St}
set_option maxRecDepth 100000 in
set_option maxHeartbeats 3200000 in
theorem end_any (h : VH w0 w own bd bv most top S) (htop : top ≤ 1048576) :
    Calls Tryz.prog 46 #[.pointer (some ⟨bv, 0, none⟩)] w fun e w' => e = endE (endR S most top) ∧ Below w.heap.size w w' := by
  have hF := Files_any h
  have c2 := h.c2
  have HV := hide h
  have hl64 : (nums S).length ≤ 64 := Nat.le_trans nums_len h.ok.many
  obtain ⟨E, HE⟩ : ∃ E : Ending, Hid (E = endE (endR S most top)) := ⟨_, rfl⟩
  rw [← HE.out]
  rcases List.eq_nil_or_concat (nums S) with hnil | ⟨L, n, hL⟩
  · rw [hnil] at hF
    unfold endR at HE
    rw [hnil] at HE
    simp only [List.getLast?_nil, newR] at HE
    clear hnil h
    by_cases ht : 1048576 ≤ top
    · rw [if_pos ht] at HE
      have t1 : (1048576 : Int) ≤ (top : Int) := by omega
      go_enter Tryz.func46, Tryz.ntmps46
      go_wp2_with fail
      refine hF.mono ?_
      rintro e w1 ⟨v, rfl, hown, hb1⟩
      obtain ⟨a, cap, rfl⟩ := Gk.own_slice hown
      clear hF c2 hown
      simp only [List.length_nil]
      go_wp2_with (first | (go_at_call 36; refine (refuse_yes 2 _).mono ?_; rintro e w3 ⟨rfl, rfl⟩))
      exact ⟨rfl, by rw [HE.out]; rfl, hb1⟩
    · rw [if_neg ht] at HE
      have t1 : decide ((1048576 : Int) ≤ (top : Int)) = false := by simp; omega
      go_enter Tryz.func46, Tryz.ntmps46
      go_wp2_with fail
      refine hF.mono ?_
      rintro e w1 ⟨v, rfl, hown, hb1⟩
      obtain ⟨a, cap, rfl⟩ := Gk.own_slice hown
      clear hF c2 hown
      simp only [List.length_nil]
      go_wp2_with (first | (go_at_call 36; refine (refuse_no 2 _).mono ?_; rintro e w3 ⟨rfl, rfl⟩))
      go_ret2
      exact ⟨by rw [HE.out]; simp [endE], hb1⟩
  · rw [List.concat_eq_append] at hL
    have hnm : n ∈ nums S := by rw [hL]; simp
    have hnb := nums_bound hnm
    have hdl := dat_le h.ok (show n ≤ 1048577 by omega)
    have hds : (ByteArray.mk (dat S n).toArray).size = (dat S n).length := by show Array.size _ = _; simp
    unfold endR at HE
    rw [hL, List.getLast?_concat] at HE
    simp only at HE
    rw [hL] at hF hl64
    obtain ⟨m, hm⟩ : ∃ m, m = L.length := ⟨_, rfl⟩
    have hLl : (L ++ [n]).length = m + 1 := by rw [List.length_append, hm]; rfl
    have HLA : Hid ((L ++ [n])[m]? = some n) := by show _ = _; rw [hm]; simp
    have hrd : ∀ W, Below w.heap.size w W → _ := fun W hb => read_yes (HV.out.below hb) hnm
    have hc1 : ∀ W, Below w.heap.size w W → _ := fun W hb => (HV.out.below hb).c1
    rw [hLl] at hF hl64
    have HLL := hide hLl
    generalize L ++ [n] = L2 at *
    rw [← hds] at HE hdl
    generalize (ByteArray.mk (dat S n).toArray) = D at *
    obtain ⟨k, hk⟩ : ∃ k, k = m + 1 := ⟨_, rfl⟩
    rw [← hk] at hF HLL hl64
    have k0 : (0 : Int) < (k : Int) := by omega
    have k1 : (k : Int) - 1 = (m : Int) := by omega
    have k2 : (0 : Int) ≤ (m : Int) := by omega
    have k3 : (m : Int) < (k : Int) := by omega
    clear hL hLl hm hds h hk
    by_cases hs : D.size < most
    case' pos =>
      rw [if_pos hs] at HE
      have s1 : (D.size : Int) < (most : Int) := by omega
    case' neg =>
      rw [if_neg hs] at HE
      have s1 : ¬ (D.size : Int) < (most : Int) := by omega
    all_goals
      go_enter Tryz.func46, Tryz.ntmps46
      go_wp2_with fail
      refine hF.mono ?_
      rintro e w1 ⟨v, rfl, hown, hb1⟩
      obtain ⟨a, cap, rfl⟩ := Gk.own_slice hown
      rw [← HLL.out] at hown
      have hLi : Gk.Lies w1 nE a L2 := Gk.Row.lies (k := 1) (e := IntT) (n := L2.length) (cap := cap) (Gk.own_mono hown (Nat.zero_le _))
      obtain ⟨b, off, rfl, hlt, hc⟩ := hLi.at nE_len m (by have := HLL.out; omega)
      have q0 := hc 0 _ rfl
      have hget : L2[m]'(by have := HLL.out; omega) = n := by
        have := HLA.out
        rw [List.getElem?_eq_getElem (by have := HLL.out; omega)] at this
        exact Option.some.inj this
      rw [hget, Nat.mul_one, Nat.add_zero] at q0
      have hR := hrd w1 hb1
      clear hF c2 hown hLi hc hget hrd
      go_wp2_with fail
      refine hR.mono ?_
      rintro e w2 ⟨rfl, hb2⟩
      have hb3 := hb1.trans (hb2.mono hb1.size)
      have c1 := hc1 w2 hb3
      clear hR q0 hc1 hb1 hb2
      go_wp2_with fail
    · obtain ⟨g, hg⟩ : ∃ g : Nat, g = max top n := ⟨_, rfl⟩
      have hgc : max (top : Int) (n : Int) = (g : Int) := by omega
      rw [← hg] at HE
      rw [hgc]
      have hgl : g ≤ 1048576 := by omega
      clear hg hgc s1
      unfold newR at HE
      by_cases ht : 1048576 ≤ g
      · rw [if_pos ht] at HE
        have t1 : decide ((1048576 : Int) ≤ (g : Int)) = true := by simp; omega
        rw [t1]
        refine (refuse_yes 2 _).mono ?_
        rintro e w3 ⟨rfl, rfl⟩
        exact ⟨rfl, by rw [HE.out]; rfl, hb3⟩
      · rw [if_neg ht] at HE
        have t1 : decide ((1048576 : Int) ≤ (g : Int)) = false := by simp; omega
        rw [t1]
        refine (refuse_no 2 _).mono ?_
        rintro e w3 ⟨rfl, rfl⟩
        go_wp2
        go_ret2
        exact ⟨by rw [HE.out]; simp [endE], hb3⟩
    · go_ret2
      exact ⟨by rw [HE.out]; simp [endE], hb3⟩
end

end Go.Proofs.YtgfmnffaknmcnaaGreatDoor.Vl
