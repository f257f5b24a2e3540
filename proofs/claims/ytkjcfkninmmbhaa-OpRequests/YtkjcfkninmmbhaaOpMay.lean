/- Layer 8: which operations may be: the walks over may.go and kind.go, operation by operation. -/
import Derived.Test.YtkjcfkninmmbhaaGCore
import Derived.Lib.Strings
namespace Go.Proofs.Ytkjcfkninmmbhaa.Oq
open Go.RowKit Go.Joins Go.Proofs.Ytkjcfkninmmbhaa.Gk

/-- an operation -/
structure Opn where
  kind : Int
  key : ByteArray
  val : ByteArray
  stamp : Int
  test : Int
  most : Int

/-- its cells -/
def oenc (x : Opn) : List Value := [.int .i64 x.kind, .string x.key, .string x.val, .int .i64 x.stamp, .int .i64 x.test, .int .i64 x.most]
theorem oenc_len (x : Opn) : (oenc x).length = 6 := rfl
theorem oenc_one (x : Opn) : ∀ u ∈ oenc x, u.oneCell' = true := by
  intro u hu
  simp only [oenc, List.mem_cons, List.not_mem_nil, or_false] at hu
  rcases hu with rfl | rfl | rfl | rfl | rfl | rfl <;> rfl
abbrev Opn.v (x : Opn) : Value := .agg #[.int .i64 x.kind, .string x.key, .string x.val, .int .i64 x.stamp, .int .i64 x.test, .int .i64 x.most]

def within (n a b : Int) : Bool := decide (a ≤ n) && decide (n ≤ b)
def keyB (s : ByteArray) : Bool := within s.size 1 64
def valB (s : ByteArray) : Bool := decide (s.size ≤ 8192)
def stampB (n : Int) : Bool := within n 1 1099511627776
def stampZ (n : Int) : Bool := n == 0 || stampB n
def Opn.put (x : Opn) : Bool := keyB x.key && valB x.val && stampB x.stamp && x.most == 0
/-- may it be? -/
def Opn.may (x : Opn) : Bool :=
  if x.kind = 1 then x.put && x.test == 0
  else if x.kind = 2 ∨ x.kind = 3 then x.put && stampZ x.test
  else if x.kind = 4 ∨ x.kind = 5 then keyB x.key && stampZ x.test && x.val.size == 0 && x.stamp == 0 && x.most == 0
  else if x.kind = 6 then decide (x.key.size ≤ 64) && within x.most 1 100 && x.val.size == 0 && x.stamp == 0 && x.test == 0
  else false
def Opn.writes (x : Opn) : Bool := within x.kind 1 4

theorem str_size (s : ByteArray) : (s.data.toList == ([] : List UInt8)) = (s.size == 0) := by
  rw [Lib.size_eq]
  cases s.data.toList <;> simp

set_option maxRecDepth 100000 in
set_option maxHeartbeats 400000 in
theorem isWithin_any (n a b : Int) (w : World) :
    Calls Try.prog 48 #[.int .i64 n, .int .i64 a, .int .i64 b] w fun e w' => e = .returned (.bool (within n a b)) ∧ w' = w := by
  unfold within
  by_cases h1 : a ≤ n
  · go_enter Try.func48, Try.ntmps48
    go_wp2
    go_ret
    exact ⟨by simp [h1], rfl⟩
  · have h2 : decide (a ≤ n) = false := decide_eq_false h1
    go_enter Try.func48, Try.ntmps48
    go_wp2
    go_ret
    exact ⟨rfl, rfl⟩

set_option maxRecDepth 100000 in
set_option maxHeartbeats 400000 in
theorem isKey_any (s : ByteArray) (w : World) :
    Calls Try.prog 47 #[.string s] w fun e w' => e = .returned (.bool (keyB s)) ∧ w' = w := by
  go_enter Try.func47, Try.ntmps47
  go_wp2_with fail
  refine (isWithin_any _ _ _ _).mono ?_
  rintro e w' ⟨rfl, rfl⟩
  go_wp2
  go_ret
  exact ⟨rfl, rfl⟩

set_option maxRecDepth 100000 in
set_option maxHeartbeats 400000 in
theorem isValue_any (s : ByteArray) (w : World) :
    Calls Try.prog 72 #[.string s] w fun e w' => e = .returned (.bool (valB s)) ∧ w' = w := by
  go_enter Try.func72, Try.ntmps72
  go_wp2
  go_ret
  exact ⟨congrArg (fun b => Ending.returned (.bool b)) (decide_eq_decide.2 (by omega)), rfl⟩

set_option maxRecDepth 100000 in
set_option maxHeartbeats 400000 in
theorem isStamp_any (n : Int) (w : World) :
    Calls Try.prog 73 #[.int .i64 n] w fun e w' => e = .returned (.bool (stampB n)) ∧ w' = w := by
  go_enter Try.func73, Try.ntmps73
  go_wp2_with fail
  refine (isWithin_any _ _ _ _).mono ?_
  rintro e w' ⟨rfl, rfl⟩
  go_wp2
  go_ret
  exact ⟨rfl, rfl⟩

set_option maxRecDepth 100000 in
set_option maxHeartbeats 400000 in
theorem isStampOrNone_any (n : Int) (w : World) :
    Calls Try.prog 46 #[.int .i64 n] w fun e w' => e = .returned (.bool (stampZ n)) ∧ w' = w := by
  by_cases h : n = 0
  · subst h
    go_enter Try.func46, Try.ntmps46
    go_wp2
    go_ret
    exact ⟨rfl, rfl⟩
  · have hb : (n == 0) = false := by rw [beq_eq_false_iff_ne]; exact h
    go_enter Try.func46, Try.ntmps46
    go_wp2_with fail
    refine (isStamp_any _ _).mono ?_
    rintro e w' ⟨rfl, rfl⟩
    go_wp2
    go_ret
    exact ⟨by simp [stampZ, hb], rfl⟩

set_option maxRecDepth 100000 in
set_option maxHeartbeats 400000 in
theorem isPut_any (x : Opn) (w : World) :
    Calls Try.prog 45 #[x.v] w fun e w' => e = .returned (.bool x.put) ∧ Below w.heap.size w w' := by
  have hb : ∀ o, Below w.heap.size w (w.alloc o) := fun o => (Below.refl _ _).alloc (Nat.le_refl _) o
  unfold Opn.put
  cases h1 : keyB x.key
  · go_enter Try.func45, Try.ntmps45
    go_wp2_with (first | (go_at_call 47; refine (isKey_any _ _).mono ?_; rintro e w' ⟨rfl, rfl⟩; rw [h1]))
    go_wp2
    go_ret
    exact ⟨rfl, hb _⟩
  cases h2 : valB x.val
  · go_enter Try.func45, Try.ntmps45
    go_wp2_with (first | (go_at_call 47; refine (isKey_any _ _).mono ?_; rintro e w' ⟨rfl, rfl⟩; rw [h1]) | (go_at_call 72; refine (isValue_any _ _).mono ?_; rintro e w' ⟨rfl, rfl⟩; rw [h2]))
    go_wp2
    go_ret
    exact ⟨rfl, hb _⟩
  cases h3 : stampB x.stamp
  · go_enter Try.func45, Try.ntmps45
    go_wp2_with (first | (go_at_call 47; refine (isKey_any _ _).mono ?_; rintro e w' ⟨rfl, rfl⟩; rw [h1]) | (go_at_call 72; refine (isValue_any _ _).mono ?_; rintro e w' ⟨rfl, rfl⟩; rw [h2]) | (go_at_call 73; refine (isStamp_any _ _).mono ?_; rintro e w' ⟨rfl, rfl⟩; rw [h3]))
    go_wp2
    go_ret
    exact ⟨rfl, hb _⟩
  · go_enter Try.func45, Try.ntmps45
    go_wp2_with (first | (go_at_call 47; refine (isKey_any _ _).mono ?_; rintro e w' ⟨rfl, rfl⟩; rw [h1]) | (go_at_call 72; refine (isValue_any _ _).mono ?_; rintro e w' ⟨rfl, rfl⟩; rw [h2]) | (go_at_call 73; refine (isStamp_any _ _).mono ?_; rintro e w' ⟨rfl, rfl⟩; rw [h3]))
    go_wp2
    go_ret
    exact ⟨by simp, hb _⟩

/-- a box's cells, below what came later -/
theorem box6 (w : World) (x : Opn) : ∃ W, W = w.alloc (.cells (oenc x).toArray 29) ∧ Below w.heap.size w W ∧ W.heap.size = w.heap.size + 1 ∧ ∀ W', Below W.heap.size W W' →
    W'.cell? ⟨w.heap.size, 0, none⟩ = some (.int .i64 x.kind) ∧ W'.cell? ⟨w.heap.size, 1, none⟩ = some (.string x.key) ∧ W'.cell? ⟨w.heap.size, 2, none⟩ = some (.string x.val) ∧
    W'.cell? ⟨w.heap.size, 3, none⟩ = some (.int .i64 x.stamp) ∧ W'.cell? ⟨w.heap.size, 4, none⟩ = some (.int .i64 x.test) ∧ W'.cell? ⟨w.heap.size, 5, none⟩ = some (.int .i64 x.most) := by
  refine ⟨_, rfl, (Below.refl _ _).alloc (Nat.le_refl _) _, by simp, fun W' hb => ?_⟩
  refine ⟨(hb.cell (by simp)).trans (by simp [oenc]), (hb.cell (by simp)).trans (by simp [oenc]), (hb.cell (by simp)).trans (by simp [oenc]), (hb.cell (by simp)).trans (by simp [oenc]), (hb.cell (by simp)).trans (by simp [oenc]), (hb.cell (by simp)).trans (by simp [oenc])⟩

/-- may it be: the walk -/
theorem str_empty (s : ByteArray) : s.toList.isEmpty = (s.size == 0) := by
  rw [Lib.toList_data, Lib.size_eq]
  cases s.data.toList <;> simp

set_option maxRecDepth 100000 in
set_option maxHeartbeats 4000000 in
theorem mayBe_op (x : Opn) (w : World) :
    Calls Try.prog 23 #[x.v] w fun e w' => e = .returned (.bool x.may) ∧ Below w.heap.size w w' := by
  obtain ⟨W, hW, hbW, hz, hc⟩ := box6 w x
  obtain ⟨kind, key, val, stamp, test, most⟩ := x
  simp only [oenc] at hW hc
  obtain ⟨c0, c1, c2, c3, c4, c5⟩ := hc W (Below.refl _ _)
  by_cases k1 : kind = 1
  · subst k1
    cases hp : Opn.put ⟨1, key, val, stamp, test, most⟩
    · go_enter Try.func23, Try.ntmps23
      go_wp2_with fail
      rw [← hW]
      refine (isPut_any ⟨1, key, val, stamp, test, most⟩ _).mono ?_
      rintro e w1 ⟨rfl, hb1⟩
      rw [hp]
      obtain ⟨c0', c1', c2', c3', c4', c5'⟩ := hc w1 hb1
      have hbW1 := hbW.trans (hb1.mono (by omega))
      go_wp2
      go_ret
      exact ⟨by simp [Opn.may, hp], hbW1⟩
    · go_enter Try.func23, Try.ntmps23
      go_wp2_with fail
      rw [← hW]
      refine (isPut_any ⟨1, key, val, stamp, test, most⟩ _).mono ?_
      rintro e w1 ⟨rfl, hb1⟩
      rw [hp]
      obtain ⟨c0', c1', c2', c3', c4', c5'⟩ := hc w1 hb1
      have hbW1 := hbW.trans (hb1.mono (by omega))
      go_wp2
      go_ret
      exact ⟨by simp [Opn.may, hp], hbW1⟩
  have b1 : (kind == 1) = false := by rw [beq_eq_false_iff_ne]; exact k1
  by_cases k2 : kind = 2
  · subst k2
    cases hp : Opn.put ⟨2, key, val, stamp, test, most⟩
    · go_enter Try.func23, Try.ntmps23
      go_wp2_with fail
      rw [← hW]
      refine (isPut_any ⟨2, key, val, stamp, test, most⟩ _).mono ?_
      rintro e w1 ⟨rfl, hb1⟩
      rw [hp]
      obtain ⟨c0', c1', c2', c3', c4', c5'⟩ := hc w1 hb1
      have hbW1 := hbW.trans (hb1.mono (by omega))
      go_wp2
      go_ret
      exact ⟨by simp [Opn.may, hp], hbW1⟩
    · go_enter Try.func23, Try.ntmps23
      go_wp2_with fail
      rw [← hW]
      refine (isPut_any ⟨2, key, val, stamp, test, most⟩ _).mono ?_
      rintro e w1 ⟨rfl, hb1⟩
      rw [hp]
      obtain ⟨c0', c1', c2', c3', c4', c5'⟩ := hc w1 hb1
      have hbW1 := hbW.trans (hb1.mono (by omega))
      go_wp2_with fail
      refine (isStampOrNone_any _ _).mono ?_
      rintro e w2 ⟨rfl, rfl⟩
      go_wp2
      go_ret
      exact ⟨by simp [Opn.may, hp], hbW1⟩
  have b2 : (kind == 2) = false := by rw [beq_eq_false_iff_ne]; exact k2
  by_cases k3 : kind = 3
  · subst k3
    cases hp : Opn.put ⟨3, key, val, stamp, test, most⟩
    · go_enter Try.func23, Try.ntmps23
      go_wp2_with fail
      rw [← hW]
      refine (isPut_any ⟨3, key, val, stamp, test, most⟩ _).mono ?_
      rintro e w1 ⟨rfl, hb1⟩
      rw [hp]
      obtain ⟨c0', c1', c2', c3', c4', c5'⟩ := hc w1 hb1
      have hbW1 := hbW.trans (hb1.mono (by omega))
      go_wp2
      go_ret
      exact ⟨by simp [Opn.may, hp], hbW1⟩
    · go_enter Try.func23, Try.ntmps23
      go_wp2_with fail
      rw [← hW]
      refine (isPut_any ⟨3, key, val, stamp, test, most⟩ _).mono ?_
      rintro e w1 ⟨rfl, hb1⟩
      rw [hp]
      obtain ⟨c0', c1', c2', c3', c4', c5'⟩ := hc w1 hb1
      have hbW1 := hbW.trans (hb1.mono (by omega))
      go_wp2_with fail
      refine (isStampOrNone_any _ _).mono ?_
      rintro e w2 ⟨rfl, rfl⟩
      go_wp2
      go_ret
      exact ⟨by simp [Opn.may, hp], hbW1⟩
  have b3 : (kind == 3) = false := by rw [beq_eq_false_iff_ne]; exact k3
  by_cases k4 : kind = 4
  · subst k4
    cases hp : keyB key
    · go_enter Try.func23, Try.ntmps23
      go_wp2_with fail
      rw [← hW]
      refine (isKey_any _ _).mono ?_
      rintro e w1 ⟨rfl, rfl⟩
      rw [hp]
      go_wp2
      go_ret
      exact ⟨by simp [Opn.may, hp], by first | exact hbW | exact hW ▸ hbW⟩
    cases hq : stampZ test
    · go_enter Try.func23, Try.ntmps23
      go_wp2_with fail
      rw [← hW]
      refine (isKey_any _ _).mono ?_
      rintro e w1 ⟨rfl, rfl⟩
      rw [hp]
      go_wp2_with fail
      refine (isStampOrNone_any _ _).mono ?_
      rintro e w2 ⟨rfl, rfl⟩
      rw [hq]
      go_wp2
      go_ret
      exact ⟨by simp [Opn.may, hp, hq], by first | exact hbW | exact hW ▸ hbW⟩
    cases hv : val.size == 0
    · have hv' : val.toList.isEmpty = false := (str_empty val).trans hv
      go_enter Try.func23, Try.ntmps23
      go_wp2_with fail
      rw [← hW]
      refine (isKey_any _ _).mono ?_
      rintro e w1 ⟨rfl, rfl⟩
      rw [hp]
      go_wp2_with fail
      refine (isStampOrNone_any _ _).mono ?_
      rintro e w2 ⟨rfl, rfl⟩
      rw [hq]
      go_wp2
      go_ret
      exact ⟨by simp [Opn.may, hp, hq, hv], by first | exact hbW | exact hW ▸ hbW⟩
    have hv' : val.toList.isEmpty = true := (str_empty val).trans hv
    cases hs : stamp == 0
    · go_enter Try.func23, Try.ntmps23
      go_wp2_with fail
      rw [← hW]
      refine (isKey_any _ _).mono ?_
      rintro e w1 ⟨rfl, rfl⟩
      rw [hp]
      go_wp2_with fail
      refine (isStampOrNone_any _ _).mono ?_
      rintro e w2 ⟨rfl, rfl⟩
      rw [hq]
      go_wp2
      go_ret
      exact ⟨by simp [Opn.may, hp, hq, hv, hs], by first | exact hbW | exact hW ▸ hbW⟩
    · go_enter Try.func23, Try.ntmps23
      go_wp2_with fail
      rw [← hW]
      refine (isKey_any _ _).mono ?_
      rintro e w1 ⟨rfl, rfl⟩
      rw [hp]
      go_wp2_with fail
      refine (isStampOrNone_any _ _).mono ?_
      rintro e w2 ⟨rfl, rfl⟩
      rw [hq]
      go_wp2
      go_ret
      exact ⟨by simp [Opn.may, hp, hq, hv, hs], by first | exact hbW | exact hW ▸ hbW⟩
  have b4 : (kind == 4) = false := by rw [beq_eq_false_iff_ne]; exact k4
  by_cases k5 : kind = 5
  · subst k5
    cases hp : keyB key
    · go_enter Try.func23, Try.ntmps23
      go_wp2_with fail
      rw [← hW]
      refine (isKey_any _ _).mono ?_
      rintro e w1 ⟨rfl, rfl⟩
      rw [hp]
      go_wp2
      go_ret
      exact ⟨by simp [Opn.may, hp], by first | exact hbW | exact hW ▸ hbW⟩
    cases hq : stampZ test
    · go_enter Try.func23, Try.ntmps23
      go_wp2_with fail
      rw [← hW]
      refine (isKey_any _ _).mono ?_
      rintro e w1 ⟨rfl, rfl⟩
      rw [hp]
      go_wp2_with fail
      refine (isStampOrNone_any _ _).mono ?_
      rintro e w2 ⟨rfl, rfl⟩
      rw [hq]
      go_wp2
      go_ret
      exact ⟨by simp [Opn.may, hp, hq], by first | exact hbW | exact hW ▸ hbW⟩
    cases hv : val.size == 0
    · have hv' : val.toList.isEmpty = false := (str_empty val).trans hv
      go_enter Try.func23, Try.ntmps23
      go_wp2_with fail
      rw [← hW]
      refine (isKey_any _ _).mono ?_
      rintro e w1 ⟨rfl, rfl⟩
      rw [hp]
      go_wp2_with fail
      refine (isStampOrNone_any _ _).mono ?_
      rintro e w2 ⟨rfl, rfl⟩
      rw [hq]
      go_wp2
      go_ret
      exact ⟨by simp [Opn.may, hp, hq, hv], by first | exact hbW | exact hW ▸ hbW⟩
    have hv' : val.toList.isEmpty = true := (str_empty val).trans hv
    cases hs : stamp == 0
    · go_enter Try.func23, Try.ntmps23
      go_wp2_with fail
      rw [← hW]
      refine (isKey_any _ _).mono ?_
      rintro e w1 ⟨rfl, rfl⟩
      rw [hp]
      go_wp2_with fail
      refine (isStampOrNone_any _ _).mono ?_
      rintro e w2 ⟨rfl, rfl⟩
      rw [hq]
      go_wp2
      go_ret
      exact ⟨by simp [Opn.may, hp, hq, hv, hs], by first | exact hbW | exact hW ▸ hbW⟩
    · go_enter Try.func23, Try.ntmps23
      go_wp2_with fail
      rw [← hW]
      refine (isKey_any _ _).mono ?_
      rintro e w1 ⟨rfl, rfl⟩
      rw [hp]
      go_wp2_with fail
      refine (isStampOrNone_any _ _).mono ?_
      rintro e w2 ⟨rfl, rfl⟩
      rw [hq]
      go_wp2
      go_ret
      exact ⟨by simp [Opn.may, hp, hq, hv, hs], by first | exact hbW | exact hW ▸ hbW⟩
  have b5 : (kind == 5) = false := by rw [beq_eq_false_iff_ne]; exact k5
  by_cases k6 : kind = 6
  · subst k6
    cases hp : decide ((key.size : Int) ≤ 64)
    · have hp' : ¬ key.size ≤ 64 := by have := of_decide_eq_false hp; omega
      go_enter Try.func23, Try.ntmps23
      go_wp2
      go_ret
      subst hW
      exact ⟨by simp [Opn.may, hp'], hbW⟩
    have hp' : key.size ≤ 64 := by have := of_decide_eq_true hp; omega
    cases hq : within most 1 100
    · go_enter Try.func23, Try.ntmps23
      go_wp2_with fail
      rw [← hW]
      refine (isWithin_any _ _ _ _).mono ?_
      rintro e w1 ⟨rfl, rfl⟩
      rw [hq]
      go_wp2
      go_ret
      exact ⟨by simp [Opn.may, hp', hq], by first | exact hbW | exact hW ▸ hbW⟩
    cases hv : val.size == 0
    · have hv' : val.toList.isEmpty = false := (str_empty val).trans hv
      go_enter Try.func23, Try.ntmps23
      go_wp2_with fail
      rw [← hW]
      refine (isWithin_any _ _ _ _).mono ?_
      rintro e w1 ⟨rfl, rfl⟩
      rw [hq]
      go_wp2
      go_ret
      exact ⟨by simp [Opn.may, hp', hq, hv], by first | exact hbW | exact hW ▸ hbW⟩
    have hv' : val.toList.isEmpty = true := (str_empty val).trans hv
    cases hs : stamp == 0
    · go_enter Try.func23, Try.ntmps23
      go_wp2_with fail
      rw [← hW]
      refine (isWithin_any _ _ _ _).mono ?_
      rintro e w1 ⟨rfl, rfl⟩
      rw [hq]
      go_wp2
      go_ret
      exact ⟨by simp [Opn.may, hp', hq, hv, hs], by first | exact hbW | exact hW ▸ hbW⟩
    · go_enter Try.func23, Try.ntmps23
      go_wp2_with fail
      rw [← hW]
      refine (isWithin_any _ _ _ _).mono ?_
      rintro e w1 ⟨rfl, rfl⟩
      rw [hq]
      go_wp2
      go_ret
      exact ⟨by simp [Opn.may, hp', hq, hv, hs], by first | exact hbW | exact hW ▸ hbW⟩
  have b6 : (kind == 6) = false := by rw [beq_eq_false_iff_ne]; exact k6
  go_enter Try.func23, Try.ntmps23
  go_wp2
  go_ret
  subst hW
  exact ⟨by simp [Opn.may, k1, k2, k3, k4, k5, k6], hbW⟩

/-- OK or ErrBad -/
def chkI : Bool → Int
  | true => 0
  | false => 80

set_option maxRecDepth 100000 in
set_option maxHeartbeats 400000 in
theorem Check_op (x : Opn) (w : World) :
    Calls Try.prog 6 #[x.v] w fun e w' => e = .returned (.int .i64 (chkI x.may)) ∧ Below w.heap.size w w' := by
  have hb : ∀ o, Below w.heap.size w (w.alloc o) := fun o => (Below.refl _ _).alloc (Nat.le_refl _) o
  go_enter Try.func6, Try.ntmps6
  go_wp2_with fail
  refine (mayBe_op x _).mono ?_
  rintro e w1 ⟨rfl, hb1⟩
  have hb2 := (hb _).trans (hb1.mono (by simp))
  cases hm : x.may
  · go_wp2
    go_ret
    exact ⟨by rw [hm]; rfl, hb2⟩
  · go_wp2
    go_ret
    exact ⟨by rw [hm]; rfl, hb2⟩

end Go.Proofs.Ytkjcfkninmmbhaa.Oq
