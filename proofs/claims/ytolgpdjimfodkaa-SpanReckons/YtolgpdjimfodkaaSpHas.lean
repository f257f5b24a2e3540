/- Walks over span.go: Check, Has. -/
import Derived.Test.YtolgpdjimfodkaaSpPure
import Derived.Test.YtolgpdjimfodkaaGBase
import Derived.Shelf.Abstract
namespace Go.Proofs.Ytolgpdjimfodkaa.Sp
open Go.RowKit Go.Joins Gk

def senc (s : Sp) : List Value := [.string s.fr, .string s.to]
theorem senc_len (s : Sp) : (senc s).length = 2 := rfl
theorem senc_one (s : Sp) : ∀ u ∈ senc s, u.oneCell' = true := by intro u hu; simp [senc] at hu; rcases hu with rfl | rfl <;> rfl
abbrev sval (s : Sp) : Value := .agg #[.string s.fr, .string s.to]
abbrev SpT : TypeId := 35

theorem less_list : ∀ (a b : List UInt8), Op.bytesLess a b = bytesBefore a b
  | [], [] => rfl
  | _ :: _, [] => rfl
  | [], _ :: _ => rfl
  | a :: r, b :: t => by
    simp only [Op.bytesLess, bytesBefore, less_list r t]
theorem less_b4 (a b : ByteArray) : Op.bytesLess a.toList b.toList = B4 a b := by rw [less_list, Lib.toList_data, Lib.toList_data]; rfl
theorem empty_nix (a : ByteArray) : a.toList.isEmpty = decide (a = nix) := by
  rw [Lib.toList_data, Bool.eq_iff_iff, List.isEmpty_iff, decide_eq_true_eq]
  exact ⟨fun h => ba_ext h, fun h => by rw [h]⟩
theorem nil_nix (a : ByteArray) : a.toList = [] ↔ a = nix := by
  rw [Lib.toList_data]
  exact ⟨fun h => ba_ext h, fun h => by rw [h]⟩
theorem has_eq (s : Sp) (key : ByteArray) : s.has key = (!Op.bytesLess key.toList s.fr.toList && (s.to.toList.isEmpty || Op.bytesLess key.toList s.to.toList)) := by
  rw [less_b4, less_b4, empty_nix]; rfl

set_option maxHeartbeats 400000 in
theorem hasC_any (key : ByteArray) (B : Nat) (W : World) (s : Sp) (hB : B < W.heap.size) (hc : W.cell? ⟨B, 0, none⟩ = some (.string key)) :
    Calls Try.prog 32 #[sval s, .pointer (some ⟨B, 0, none⟩)] W fun e w' => e = .returned (.bool (s.has key)) ∧ Below W.heap.size W w' := by
  have hne : B ≠ W.heap.size := by omega
  go_enter Try.func32, Try.ntmps32
  go_wp2
  all_goals
    go_ret
    exact ⟨by rw [has_eq]; simp_all, below_alloc1 _ _⟩
theorem enters_hasC : ∀ args w, (callFunc 32 args).run Try.prog w = .ok (.enter 32 args) w := enters_of Try.func32 (by kernel_rfl) rfl

/-- what a closure answers: p, whatever was laid besides -/
def Answers {α : Type} (g : Nat) (lb : Array Value) (val : α → Value) (p : α → Bool) (w : World) : Prop :=
  ∀ W x, Below w.heap.size w W → Calls Try.prog g (#[val x] ++ lb) W fun e w' => e = .returned (.bool (p x)) ∧ Below W.heap.size W w'
/-- the first place, or -1 -/
def idxI {α : Type} (p : α → Bool) (l : List α) : Int := match l.findIdx? p with | some i => i | none => -1
theorem idxI_hit {α : Type} {p : α → Bool} {l : List α} {i : Nat} (hi : i < l.length) (h : p l[i] = true) (ha : ∀ j (hj : j < i), p (l[j]'(by omega)) = false) : idxI p l = i := by
  have : l.findIdx? p = some i := by
    rw [List.findIdx?_eq_some_iff_getElem]
    exact ⟨hi, h, fun j hj => by simpa using ha j hj⟩
  simp [idxI, this]
theorem idxI_miss {α : Type} {p : α → Bool} {l : List α} (ha : ∀ j (hj : j < l.length), p l[j] = false) : idxI p l = -1 := by
  have : l.findIdx? p = none := by
    rw [List.findIdx?_eq_none_iff]
    intro x hx
    obtain ⟨j, hj, rfl⟩ := List.getElem_of_mem hx
    simpa using ha j hj
  simp [idxI, this]
theorem idxI_any {α : Type} (p : α → Bool) (l : List α) : (decide (0 ≤ idxI p l)) = l.any p := by
  unfold idxI
  cases h : l.findIdx? p with
  | none =>
    rw [List.findIdx?_eq_none_iff] at h
    have : l.any p = false := by rw [List.any_eq_false]; intro x hx; rw [h x hx]; simp
    rw [this]; rfl
  | some i =>
    obtain ⟨hi, hp, _⟩ := List.findIdx?_eq_some_iff_getElem.1 h
    have : l.any p = true := List.any_eq_true.2 ⟨_, List.getElem_mem hi, hp⟩
    rw [this]; simp

set_option maxHeartbeats 1600000 in
theorem indexS_any (p : Sp → Bool) (g : Nat) (lb : Array Value) (eg : ∀ args w, (callFunc g args).run Try.prog w = .ok (.enter g args) w) (a : Option Addr) (cap : Nat) (l : List Sp) (w : World) (hl : Lies w senc a l) (hn : l.length ≤ 9223372036854775807) (hp : Answers g lb sval p w) :
    Calls Try.prog 41 #[.slice a l.length cap, .func (.func g) #[] lb] w fun e w' => e = .returned (.int .i64 (idxI p l)) ∧ Below w.heap.size w w' := by
  go_enter Try.func41, Try.ntmps41
  go_wp2
  go_loopw [5, 8] (fun _ i wr => ∃ k : Nat, k ≤ l.length ∧ i = .int .i64 k ∧ Below w.heap.size w wr ∧ Hid (∀ j (hj : j < l.length), j < k → p l[j] = false)) (fun _ i _ => l.length - (intOf i).toNat)
  case atStart => exact ⟨0, by omega, rfl, Below.refl _ _, fun j _ hj => by omega⟩
  case round =>
    obtain ⟨k, hk, rfl, hbel, HA⟩ := hrel
    by_cases hlt : k < l.length
    · obtain ⟨b, off, rfl, hbl, hc⟩ := (hl.below hbel).at (k := 2) senc_len k hlt
      have i1 : (0 : Int) ≤ (k : Int) := by omega
      have i2 : (k : Int) < (l.length : Int) := by omega
      have c0 := hc 0 _ rfl
      have c1 := hc 1 _ rfl
      rw [Nat.add_zero] at c0
      have hcall := hp wr l[k] hbel
      clear hc hp
      obtain ⟨x, hx⟩ : ∃ x, l[k] = x := ⟨_, rfl⟩
      rw [hx] at hcall c0 c1
      have HX := hide hx
      clear hx
      have hz := hbel.size
      cases hq : p x with
      | true =>
        rw [hq] at hcall
        go_wp2_with (go_at_fn g; refine hcall.mono ?_; rintro e w' ⟨rfl, hb'⟩)
        go_ret
        refine ⟨?_, hbel.trans (hb'.mono hz)⟩
        rw [idxI_hit hlt (by rw [HX.out]; exact hq) (fun j hj => HA.out j _ hj)]; rfl
      | false =>
        rw [hq] at hcall
        go_wp2_with (go_at_fn g; refine hcall.mono ?_; rintro e w' ⟨rfl, hb'⟩)
        go_roundw
        case rel =>
          refine ⟨k + 1, by omega, by go_num, hbel.trans (hb'.mono hz), fun j hj hjk => ?_⟩
          by_cases e : j = k
          · subst e; rw [HX.out]; exact hq
          · exact HA.out j hj (by omega)
        case measure => simp [intOf]; omega
    · clear hp
      obtain rfl : k = l.length := by omega
      go_wp2
      go_ret
      refine ⟨?_, hbel⟩
      rw [idxI_miss fun j hj => HA.out j hj hj]; rfl

set_option maxHeartbeats 1600000 in
theorem has_any (key : ByteArray) (a : Option Addr) (cap : Nat) (l : List Sp) (w : World) (hl : Lies w senc a l) (hn : l.length ≤ 9223372036854775807) :
    Calls Try.prog 21 #[.slice a l.length cap, .string key] w fun e w' => e = .returned (.bool (hasL l key)) ∧ Below w.heap.size w w' := by
  have hC : Calls Try.prog 31 #[.slice a l.length cap, .func (.func 32) #[] #[.pointer (some ⟨w.heap.size, 0, none⟩)]] (w.alloc (.cells #[.string key] 9)) fun e w' => e = .returned (.bool (hasL l key)) ∧ Below w.heap.size w w' := by
    have hb0 := below_alloc1 w (.cells #[.string key] 9)
    have hI := indexS_any (fun s => s.has key) 32 #[.pointer (some ⟨w.heap.size, 0, none⟩)] enters_hasC a cap l (w.alloc (.cells #[.string key] 9)) (hl.below hb0) hn
      (fun W x hb => hasC_any key w.heap.size W x (Nat.lt_of_lt_of_le (by simp) hb.size) ((hb.cell (p := ⟨w.heap.size, 0, none⟩) (by simp)).trans (by simp)))
    have he := idxI_any (fun s : Sp => s.has key) l
    rw [show (l.any fun s => s.has key) = hasL l key from rfl] at he
    generalize idxI (fun s : Sp => s.has key) l = r at *
    go_enter Try.func31, Try.ntmps31
    go_wp2_with fail
    refine hI.mono ?_
    rintro e w' ⟨rfl, hb'⟩
    go_wp2
    go_ret
    refine ⟨?_, hb0.trans (hb'.mono (by simp))⟩
    rw [← he]; rfl
  go_enter Try.func21, Try.ntmps21
  go_wp2_with fail
  refine hC.mono ?_
  rintro e w' ⟨rfl, hb'⟩
  go_wp2
  go_ret
  exact ⟨rfl, hb'⟩

/-- whether a span may be -/
def may (s : Sp) : Bool := decide (s.fr.size ≤ 64) && decide (s.to.size ≤ 64) && (decide (s.to = nix) || B4 s.fr s.to)
theorem may_iff (s : Sp) : may s = true ↔ s.May := by
  simp only [may, Bool.and_eq_true, Bool.or_eq_true, decide_eq_true_eq]
  exact ⟨fun ⟨⟨a, b⟩, c⟩ => ⟨a, b, c⟩, fun ⟨a, b, c⟩ => ⟨⟨a, b⟩, c⟩⟩
def chk (s : Sp) : Int := if may s then 0 else 50

theorem eq_ba (a b : ByteArray) : (a.toList == b.toList) = decide (a = b) := by
  rw [Lib.toList_data, Lib.toList_data, Bool.eq_iff_iff, beq_iff_eq, decide_eq_true_eq]
  exact ⟨fun h => ba_ext h, fun h => by rw [h]⟩
theorem le_b4 (a b : ByteArray) : (Op.bytesLess a.toList b.toList || a.toList == b.toList) = !B4 b a := by
  rw [less_b4, eq_ba]
  by_cases h : a = b
  · subst h; simp [B4.irr]
  · rcases B4.tot h with h1 | h1
    · simp [h1, B4.asym h1]
    · simp [h1, B4.asym h1, h]
theorem chk_eq (s : Sp) : chk s = if (decide (64 < (s.fr.size : Int)) || decide (64 < (s.to.size : Int))) then 50 else if (!s.to.toList.isEmpty && (Op.bytesLess s.to.toList s.fr.toList || s.to.toList == s.fr.toList)) then 50 else 0 := by
  rw [le_b4, empty_nix]
  unfold chk may
  by_cases h1 : s.fr.size ≤ 64
  · by_cases h2 : s.to.size ≤ 64
    · have g1 : ¬ (64 < (s.fr.size : Int)) := by omega
      have g2 : ¬ (64 < (s.to.size : Int)) := by omega
      simp only [h1, h2, g1, g2]
      by_cases h3 : s.to = nix
      · simp [h3]
      · cases B4 s.fr s.to <;> simp [h3]
    · have g2 : 64 < (s.to.size : Int) := by omega
      simp [h1, h2, g2]
  · have g1 : 64 < (s.fr.size : Int) := by omega
    simp [h1, g1]

set_option maxHeartbeats 400000 in
theorem check_any (s : Sp) (W : World) :
    Calls Try.prog 19 #[sval s] W fun e w' => e = .returned (.int .i64 (chk s)) ∧ Below W.heap.size W w' := by
  go_enter Try.func19, Try.ntmps19
  go_wp2
  all_goals
    go_ret
    refine ⟨ret_int ?_, below_alloc1 _ _⟩
    rw [chk_eq]
    first
      | (simp_all; done)
      | (rw [if_neg (by simp; omega)]; simp_all; done)

end Go.Proofs.Ytolgpdjimfodkaa.Sp
