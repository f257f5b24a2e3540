/- Walks over the book: SameSpans of a list and itself; over the law's package: works. -/
import Derived.Test.YtolgpdjimfodkaaSpCalls
namespace Go.Proofs.Ytolgpdjimfodkaa.Sp
open Go.RowKit Go.Joins Gk

set_option maxHeartbeats 1600000 in
theorem same_any (a a' : Option Addr) (cap cap' : Nat) (l : List Sp) (w : World) (hl : Lies w senc a l) (hl' : Lies w senc a' l) (hn : l.length ≤ 9223372036854775807) :
    Calls Try.prog 12 #[.slice a l.length cap, .slice a' l.length cap'] w fun e w' => e = .returned (.bool true) ∧ Below w.heap.size w w' := by
  have bn : ((l.length : Int) != (l.length : Int)) = false := by simp
  go_enter Try.func12, Try.ntmps12
  go_wp2
  go_loopw [5] (fun i wr => ∃ k : Nat, k ≤ l.length ∧ i = .int .i64 k ∧ Below w.heap.size w wr) (fun i _ => l.length - (intOf i).toNat)
  case atStart => exact ⟨0, by omega, rfl, Below.refl _ _⟩
  case round =>
    obtain ⟨k, hk, rfl, hbel⟩ := hrel
    by_cases hlt : k < l.length
    · obtain ⟨b, off, rfl, _, hc⟩ := (hl.below hbel).at (k := 2) senc_len k hlt
      obtain ⟨b', off', rfl, _, hd⟩ := (hl'.below hbel).at (k := 2) senc_len k hlt
      have c0 := hc 0 _ rfl
      have c1 := hc 1 _ rfl
      have d0 := hd 0 _ rfl
      have d1 := hd 1 _ rfl
      rw [Nat.add_zero] at c0 d0
      clear hc hd
      generalize l[k] = x at *
      have i1 : (0 : Int) ≤ (k : Int) := by omega
      have i2 : (k : Int) < (l.length : Int) := by omega
      go_wp2
      go_quiet (fail)
      go_wp2
      go_roundw
      case rel => exact ⟨k + 1, by omega, by go_num, below_drewN hbel nq⟩
      case measure => simp [intOf]; omega
    · go_wp2
      go_ret
      exact ⟨rfl, hbel⟩

theorem own_lies {w : World} {B : Nat} {v : Value} {l : List Sp} (h : w.ownsRow B SpT 2 v l.length (rc senc l)) : ∃ a cap, v = .slice a l.length cap ∧ Lies w senc a l := by
  obtain ⟨a, cap, rfl⟩ := own_slice h
  exact ⟨a, cap, rfl, Row.lies (own_mono h (Nat.zero_le _))⟩
/-- elements in a block of their own -/
theorem lies_blk {w : World} {g : Nat} {cs : Array Value} {T : TypeId} {l : List Sp} (h : w.heap[g]? = some (.cells cs T (0, 0))) (e : cs.toList = rc senc l) : Lies w senc (some ⟨g, 0, none⟩) l := by
  refine Or.inr ⟨g, 0, rfl, (Array.getElem?_eq_some_iff.1 h).1, fun j u hj => ?_⟩
  rw [Nat.zero_add, cell_of_block h, ← Array.getElem?_toList, e]
  exact hj

def tx (b : UInt8) : ByteArray := ⟨#[b]⟩
theorem ex1 : nrm kOr [⟨tx 98, tx 100⟩, ⟨tx 97, tx 98⟩, ⟨tx 101, nix⟩] [] = [⟨tx 97, tx 100⟩, ⟨tx 101, nix⟩] := by decide
theorem ex2 : nrm kNot [⟨tx 97, nix⟩] [⟨tx 98, tx 99⟩] = [⟨tx 97, tx 98⟩, ⟨tx 99, nix⟩] := by decide
theorem may_tx (a b : UInt8) (h : B4 (tx a) (tx b) = true) : Sp.May ⟨tx a, tx b⟩ := ⟨by show 1 ≤ 64; omega, by show 1 ≤ 64; omega, Or.inr h⟩
theorem may_tn (a : UInt8) : Sp.May ⟨tx a, nix⟩ := ⟨by show 1 ≤ 64; omega, by show 0 ≤ 64; omega, Or.inl rfl⟩

set_option maxHeartbeats 3200000 in
set_option maxRecDepth 100000 in
theorem works_any (w : World) : Calls Try.prog 8 #[] w fun e w' => e = .returned (.bool true) ∧ Below w.heap.size w w' := by
  have hN := fun W g c (h : Lies W senc (some ⟨g, 0, none⟩) [⟨tx 98, tx 100⟩, ⟨tx 97, tx 98⟩, ⟨tx 101, nix⟩]) => Normal_ok (some ⟨g, 0, none⟩) c _ W h (by intro s hs; simp at hs; rcases hs with rfl | rfl | rfl <;> first | exact may_tn _ | exact may_tx _ _ (by decide)) (by simp)
  have hM := fun W g c g' c' (h : Lies W senc (some ⟨g, 0, none⟩) [⟨tx 97, nix⟩]) (h' : Lies W senc (some ⟨g', 0, none⟩) [⟨tx 98, tx 99⟩]) => Minus_ok (some ⟨g, 0, none⟩) (some ⟨g', 0, none⟩) c c' _ _ W h h' (by intro s hs; simp at hs; subst hs; exact may_tn _) (by intro s hs; simp at hs; subst hs; exact may_tx _ _ (by decide)) (by simp)
  rw [ex1] at hN
  rw [ex2] at hM
  go_enter Try.func8, Try.ntmps8
  go_wp2_with fail
  refine (hN _ w.heap.size 3 (lies_blk (heap_alloc_new w _) rfl)).mono ?_
  rintro e w1 ⟨v1, rfl, hr1, hb1⟩
  obtain ⟨a1, c1, rfl, hl1⟩ := own_lies hr1
  have hb1' : Below w.heap.size w w1 := (below_alloc1 w _).trans (hb1.mono (by simp))
  clear hN hr1 hb1
  go_wp2_with fail
  have hA := heap_alloc_new w1 (.cells #[.string ⟨#[97]⟩, .string ⟨#[]⟩] SpT)
  have hBb := heap_alloc_new (w1.alloc (.cells #[.string ⟨#[97]⟩, .string ⟨#[]⟩] SpT)) (.cells #[.string ⟨#[98]⟩, .string ⟨#[99]⟩] SpT)
  rw [World.size_alloc] at hBb
  have hA' := ((below_alloc1 (w1.alloc (.cells #[.string ⟨#[97]⟩, .string ⟨#[]⟩] SpT)) (.cells #[.string ⟨#[98]⟩, .string ⟨#[99]⟩] SpT)).block w1.heap.size (by simp)).trans hA
  refine (hM _ w1.heap.size 1 (w1.heap.size + 1) 1 (lies_blk hA' rfl) (lies_blk hBb rfl)).mono ?_
  rintro e w2 ⟨v2, rfl, hr2, hb2⟩
  obtain ⟨a2, c2, rfl, hl2⟩ := own_lies hr2
  have hb12 : Below w1.heap.size w1 w2 := ((below_alloc1 w1 _).trans ((below_alloc1 _ _).mono (by simp))).trans (hb2.mono (by simp; omega))
  have hl1' := hl1.below hb12
  have hb2' : Below w.heap.size w w2 := hb1'.trans (hb12.mono hb1'.size)
  have S1 := fun W g c (hb : Below w2.heap.size w2 W) (h : Lies W senc (some ⟨g, 0, none⟩) [⟨tx 97, tx 100⟩, ⟨tx 101, nix⟩]) => same_any a1 (some ⟨g, 0, none⟩) c1 c _ W (hl1'.below hb) h (by simp)
  have S2 := fun W g c (hb : Below w2.heap.size w2 W) (h : Lies W senc (some ⟨g, 0, none⟩) [⟨tx 97, tx 98⟩, ⟨tx 99, nix⟩]) => same_any a2 (some ⟨g, 0, none⟩) c2 c _ W (hl2.below hb) h (by simp)
  clear hM hr2 hb2 hA hBb hA' hb12 hb1' hl1 hl1' hl2
  go_wp2_with fail
  refine (S1 _ w2.heap.size 2 (below_alloc1 w2 _) (lies_blk (heap_alloc_new w2 _) rfl)).mono ?_
  rintro e w3 ⟨rfl, hb3⟩
  have hb3' : Below w2.heap.size w2 w3 := (below_alloc1 w2 _).trans (hb3.mono (by simp))
  clear S1 hb3
  go_wp2_with fail
  refine (S2 _ w3.heap.size 2 (hb3'.alloc hb3'.size _) (lies_blk (heap_alloc_new w3 _) rfl)).mono ?_
  rintro e w4 ⟨rfl, hb4⟩
  have hb4' : Below w2.heap.size w2 w4 := (hb3'.alloc hb3'.size _).trans (hb4.mono (hb3'.alloc hb3'.size _).size)
  clear S2 hb4
  go_wp2
  go_ret
  exact ⟨rfl, hb2'.trans (hb4'.mono hb2'.size)⟩

end Go.Proofs.Ytolgpdjimfodkaa.Sp
