/- Layer 9: walks over rows.go: find, by slices.BinarySearchFunc and strings.Compare. -/
import Derived.Test.YthdempdiibjabaaTbRep
import Derived.Shelf.Small.Strs
import Derived.Shelf.Lay
import Derived.Shelf.SlGeneric
import Derived.Ground.NamesProg
import Derived.Deep.LoopGhost
namespace Go.Proofs.Ythdempdiibjabaa
open Go.Shelf
shelf_lay Lays.n106 Nm 106 at Try as Try.cmpStr
end Go.Proofs.Ythdempdiibjabaa
namespace Go.Proofs.Ythdempdiibjabaa.Tb
open Go.RowKit Go.Joins Go.Proofs.Ythdempdiibjabaa.Gk Go.Proofs.Ythdempdiibjabaa.Oq Go.Proofs.Ythdempdiibjabaa.Sp

/-- how a row's key stands to a key -/
def cmpK (r : Rw) (k : ByteArray) : Int := Lib.compareBytes r.key.data.toList k.data.toList
theorem cmp_neg : ∀ (a b : List UInt8), decide (Lib.compareBytes a b < 0) = bytesBefore a b
  | [], [] => rfl
  | [], _ :: _ => rfl
  | _ :: _, [] => rfl
  | a :: r, b :: t => by
    simp only [Lib.compareBytes, bytesBefore]
    by_cases h : a < b
    · simp [h]
    · by_cases h' : b < a
      · have : a ≠ b := fun e => by subst e; exact h h'
        simp [h, h', this]
      · have e : a = b := UInt8.le_antisymm (UInt8.not_lt.1 h') (UInt8.not_lt.1 h)
        subst e
        simp only [h, if_false]
        rw [cmp_neg r t]; simp
theorem cmp_zero : ∀ (a b : List UInt8), (Lib.compareBytes a b = 0) ↔ a = b
  | [], [] => by simp [Lib.compareBytes]
  | [], _ :: _ => by simp [Lib.compareBytes]
  | _ :: _, [] => by simp [Lib.compareBytes]
  | a :: r, b :: t => by
    simp only [Lib.compareBytes]
    by_cases h : a < b
    · have : a ≠ b := fun e => by subst e; exact absurd h (UInt8.lt_irrefl _)
      simp [h, this]
    · by_cases h' : b < a
      · have : a ≠ b := fun e => by subst e; exact absurd h' (UInt8.lt_irrefl _)
        simp [h, h', this]
      · have e : a = b := UInt8.le_antisymm (UInt8.not_lt.1 h') (UInt8.not_lt.1 h)
        subst e
        simp [h, cmp_zero r t]
theorem cmpK_neg (r : Rw) (k : ByteArray) : cmpK r k < 0 ↔ B4 r.key k = true := by
  have := cmp_neg r.key.data.toList k.data.toList
  unfold cmpK B4
  rw [← this, decide_eq_true_eq]
theorem cmpK_zero (r : Rw) (k : ByteArray) : cmpK r k = 0 ↔ r.key = k := by
  unfold cmpK
  rw [cmp_zero]
  exact ⟨ba_ext, fun e => by rw [e]⟩
theorem compare_any (a b : ByteArray) (w : World) : Calls Try.prog 67 #[.string a, .string b] w fun e w' => e = .returned (.int .i64 (Lib.compareBytes a.data.toList b.data.toList)) ∧ w' = w :=
  Go.Proofs.Any.strings_Compare Try.cmpStr a b w

set_option maxRecDepth 100000 in
set_option maxHeartbeats 1000000 in
theorem findCmp_any (x : Rw) (k : ByteArray) (W : World) : Calls Try.prog 66 #[x.v, .string k] W fun e w' => e = .returned (.int .i64 (cmpK x k)) ∧ Gr W w' := by
  have hcon := fun W' => compare_any x.key k W'
  rw [show Lib.compareBytes x.key.data.toList k.data.toList = cmpK x k from rfl] at hcon
  generalize cmpK x k = r at hcon ⊢
  go_enter Try.func66, Try.ntmps66
  go_wp2_with (go_at_call 67; refine (hcon _).mono ?_; rintro e w' ⟨rfl, rfl⟩)
  go_ret
  exact ⟨rfl, Gr.alloc1 _ _⟩

/-- between the two ends of a search -/
structure Btw (k : ByteArray) (l : List Rw) (i j : Nat) : Prop where
  le : i ≤ j
  top : j ≤ l.length
  lo : i ≤ pos l k
  hi : pos l k ≤ j
theorem Btw.up {k : ByteArray} {l : List Rw} (hs : Rise l) {i j t : Nat} (b : Btw k l i j) (ht : t < l.length) (h2 : t < j) (hlt : cmpK l[t] k < 0) : Btw k l (t + 1) j := by
  refine ⟨by omega, b.top, ?_, b.hi⟩
  rw [cmpK_neg] at hlt
  by_cases h : t < pos l k
  · omega
  · rw [pos_hi hs k t ht (by omega)] at hlt; cases hlt
theorem Btw.down {k : ByteArray} {l : List Rw} (hs : Rise l) {i j t : Nat} (b : Btw k l i j) (ht : t < l.length) (h2 : i ≤ t) (hge : ¬ cmpK l[t] k < 0) : Btw k l i t := by
  refine ⟨by omega, by omega, b.lo, ?_⟩
  rw [cmpK_neg] at hge
  by_cases h : t < pos l k
  · exact absurd (pos_lo hs k t ht h) hge
  · omega

set_option maxHeartbeats 3200000 in
set_option maxRecDepth 100000 in
theorem search_any (a : Option Addr) (cap : Nat) (k : ByteArray) (l : List Rw) (hs : Rise l) (hlen : l.length ≤ 100000) (w : World) (hl : Lies w rwenc a l) :
    Calls Try.prog 65 #[.slice a l.length cap, .string k, .func (.func 66) #[] #[]] w fun e w' => e = .returned (.tuple #[.int .i64 (pos l k : Nat), .bool (there l k)]) ∧ Gr w w' := by
  have hL := fun x W => findCmp_any x k W
  have HC := hide hl
  have HS := hide hs
  have HT := hide (there_pos hs k)
  clear hl hs
  obtain ⟨n, hn⟩ : ∃ n, l.length = n := ⟨_, rfl⟩
  have HN := hide hn
  rw [hn] at hlen ⊢
  clear hn
  go_enter Try.func65, Try.ntmps65
  go_wp2
  go_loopw [9, 10] (fun iv jv wr => ∃ i j : Nat, j ≤ n ∧ i ≤ j ∧ iv = .int .i64 i ∧ jv = .int .i64 j ∧ Hid (Btw k l i j) ∧ Hid (Gr w wr)) (fun iv jv _ => (intOf jv).toNat - (intOf iv).toNat)
  case atStart => exact ⟨0, n, Nat.le_refl _, Nat.zero_le _, rfl, rfl, ⟨Nat.zero_le _, by have := HN.out; omega, Nat.zero_le _, by have := HN.out; have := pos_le l k; omega⟩, hide (Gr.refl _)⟩
  case round =>
    obtain ⟨i, j, hj, hij, rfl, rfl, HB, HG⟩ := hrel
    have hz := HG.out.below.size
    by_cases hlt : i < j
    · have i1 : (i : Int) < (j : Int) := by omega
      obtain ⟨t, ht⟩ : ∃ t, t = (i + j) / 2 := ⟨_, rfl⟩
      have k1 : i ≤ t := by omega
      have k2 : t < j := by omega
      have htl : t < l.length := by have := HN.out; omega
      have q1 : wrap64 ((i : Int) + (j : Int)) = (i : Int) + (j : Int) := by unfold wrap64; omega
      have q2 : IntKind.u64.wrap ((i : Int) + (j : Int)) = (i : Int) + (j : Int) := by rw [IntKind.wrap_u64]; omega
      have q3 : ((i : Int) + (j : Int)) / 2 = (t : Int) := by omega
      have q4 : IntKind.u64.wrap (t : Int) = (t : Int) := by rw [IntKind.wrap_u64]; omega
      have q5 : IntKind.i64.wrap (t : Int) = (t : Int) := by rw [IntKind.wrap_i64]; omega
      have q6 : (t : Int) < (n : Int) := by omega
      obtain ⟨b, off, rfl, _, hc⟩ := (HC.out.below HG.out.below).at (k := 3) rwenc_len t htl
      have c0 := hc 0 _ rfl
      have c1 := hc 1 _ rfl
      have c2 := hc 2 _ rfl
      rw [Nat.add_zero] at c0
      clear hc
      have HU := hide (fun e => HB.out.up HS.out htl k2 e)
      have HD := hide (fun e => HB.out.down HS.out htl k1 e)
      generalize l[t] = x at c0 c1 c2 HU HD
      clear ht htl hz
      have hc := hL x wr
      by_cases hx : cmpK x k < 0
      · go_wp2_with fail
        refine hc.mono ?_
        rintro e w2 ⟨rfl, hw⟩
        have HG2 := hide (HG.out.trans hw)
        clear hw HG
        go_wp2
        go_roundw
        case rel => exact ⟨t + 1, j, hj, by omega, by go_num, rfl, HU.out hx, HG2⟩
        case measure => simp [intOf]; omega
      · go_wp2_with fail
        refine hc.mono ?_
        rintro e w2 ⟨rfl, hw⟩
        have HG2 := hide (HG.out.trans hw)
        clear hw HG
        go_wp2
        go_roundw
        case rel => exact ⟨i, t, by omega, by omega, rfl, rfl, HD.out hx, HG2⟩
        case measure => simp [intOf]; omega
    · have i1 : ¬ (i : Int) < (j : Int) := by omega
      have HP : Hid (pos l k = i) := by
        have h1 := HB.out.lo
        have h2 := HB.out.hi
        exact (by omega : pos l k = i)
      by_cases hin : i < n
      · have i2 : (i : Int) < (n : Int) := by omega
        have hil : i < l.length := by have := HN.out; omega
        obtain ⟨b, off, rfl, _, hc⟩ := (HC.out.below HG.out.below).at (k := 3) rwenc_len i hil
        have c0 := hc 0 _ rfl
        have c1 := hc 1 _ rfl
        have c2 := hc 2 _ rfl
        rw [Nat.add_zero] at c0
        clear hc
        have HF : Hid (there l k = decide (cmpK l[i] k = 0)) := by
          show _ = _
          rw [Bool.eq_iff_iff, HT.out, decide_eq_true_eq, cmpK_zero]
          refine ⟨fun ⟨_, h⟩ => ?_, fun h => ⟨by rw [HP.out]; exact hil, ?_⟩⟩
          · simpa only [HP.out] using h
          · simpa only [HP.out] using h
        generalize l[i] = x at c0 c1 c2 HF
        clear hil hz
        have hc := hL x wr
        go_wp2_with fail
        refine hc.mono ?_
        rintro e w2 ⟨rfl, hw⟩
        have HG2 := HG.out.trans hw
        clear hw
        go_wp2
        go_ret2
        exact ⟨by rw [HP.out, HF.out]; first | rfl | simp, HG2⟩
      · have i2 : ¬ (i : Int) < (n : Int) := by omega
        have HF : Hid (there l k = false) := by
          show _ = _
          rw [← Bool.not_eq_true, HT.out]
          rintro ⟨h, _⟩
          rw [HP.out, HN.out] at h
          exact hin h
        go_wp2
        go_ret2
        exact ⟨by rw [HP.out, HF.out]; rfl, HG.out⟩

set_option maxHeartbeats 1600000 in
set_option maxRecDepth 100000 in
theorem find_any (a : Option Addr) (cap : Nat) (k : ByteArray) (l : List Rw) (hs : Rise l) (hlen : l.length ≤ 100000) (w : World) (hl : Lies w rwenc a l) :
    Calls Try.prog 43 #[.slice a l.length cap, .string k] w fun e w' => e = .returned (.tuple #[.int .i64 (pos l k : Nat), .bool (there l k)]) ∧ Gr w w' := by
  have hS := fun W (hg : Gr w W) => search_any a cap k l hs hlen W (hl.below hg.below)
  go_enter Try.func43, Try.ntmps43
  go_wp2_with fail
  refine (hS _ ?_).mono ?_
  · first | exact Gr.refl _ | exact Gr.alloc1 _ _
  rintro e w1 ⟨rfl, hg1⟩
  go_wp2
  go_ret2
  exact ⟨rfl, hg1⟩

end Go.Proofs.Ythdempdiibjabaa.Tb
