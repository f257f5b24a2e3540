/- Lists of texts: where they lie; the walk over the book: SameTexts of a list and itself. -/
import Derived.Test.YtacegffkhfcadaaFrames
import Derived.Test.YtacegffkhfcadaaArgs
namespace Go.Proofs.Ytacegffkhfcadaa
open Go.RowKit

/-- the texts of a slice lie behind its address -/
def LiesT (w : World) (a : Option Addr) (ts : List ByteArray) : Prop := ts = [] ∨ ∃ b off, a = some ⟨b, off, none⟩ ∧ b < w.heap.size ∧ ∀ i (h : i < ts.length), w.cell? ⟨b, off + i, none⟩ = some (.string ts[i])
theorem LiesT.at {w wr : World} {a : Option Addr} {ts : List ByteArray} (h : LiesT w a ts) (k : Nat) (hk : k < ts.length) (hb : Below w.heap.size w wr) : ∃ b off, a = some ⟨b, off, none⟩ ∧ wr.cell? ⟨b, off + k, none⟩ = some (.string ts[k]) := by
  rcases h with rfl | ⟨b, off, rfl, hlt, hl⟩
  · simp at hk
  · exact ⟨b, off, rfl, (hb.cell (p := ⟨b, off + k, none⟩) hlt).trans (hl k hk)⟩
theorem LiesT.later {w wr : World} {a : Option Addr} {ts : List ByteArray} (h : LiesT w a ts) (hb : Below w.heap.size w wr) : LiesT wr a ts := by
  rcases h with rfl | ⟨b, off, rfl, hlt, hl⟩
  · exact Or.inl rfl
  · exact Or.inr ⟨b, off, rfl, Nat.lt_of_lt_of_le hlt hb.size, fun k hk => (hb.cell (p := ⟨b, off + k, none⟩) hlt).trans (hl k hk)⟩
theorem own_liesT {w : World} {B : Nat} {v : Value} {l : List ByteArray} (h : w.ownsRow B 9 1 v l.length (tcells l)) : ∃ a cap, v = .slice a l.length cap ∧ LiesT w a l := by
  rcases h.2 with ⟨rfl, h0⟩ | ⟨g, cap, cur, rfl, hb, hg, rest⟩
  · exact ⟨none, 0, by rw [h0], Or.inl (List.eq_nil_of_length_eq_zero h0)⟩
  · refine ⟨_, cap, rfl, Or.inr ⟨g, 0, rfl, (Array.getElem?_eq_some_iff.1 hg).1, fun i hi => ?_⟩⟩
    rw [Nat.zero_add, h.cellAt _ (by omega)]
    simp [tcells, List.getElem?_eq_getElem hi]

theorem open_texts {H : Type} {enc : TypeId × Value → H} {W : World} {fuel : Nat} {cs : List Value} {x : DataW H × List MemPlace} (h : DataW.trod enc Try.prog W 0 (fun _ => true) true fuel 37 cs = some x)
    (hsz : ∀ n ∈ x.1.weights Try.prog 37, n ≤ reachBytes) : ∃ a cap ts, cs = [.slice a (List.length ts) cap] ∧ LiesT W a ts ∧ (∀ t ∈ ts, t.size ≤ 140737488351232) ∧ ts.length ≤ 9223372036854775807 := by
  rcases Go.Deep.open_slice1 Try.underlying37 cells_string h with ⟨rfl, rfl⟩ | ⟨a, len, cap, m, n, V, D, Pl, rfl, _, hl, hm9, hmm, rfl, hx⟩
  · exact ⟨none, 0, [], rfl, Or.inl rfl, by simp, by simp⟩
  · have hm : m = cap := by rw [hmm]; simp
    have each : ∀ i, i < len → ∃ t : ByteArray, W.cell? (a.add i) = some (.string t) ∧ D i = .lit (.string t.data.toList) := by
      intro i hi
      obtain ⟨h1, h2⟩ := hx i (by omega)
      obtain ⟨t, e, ex, _⟩ := DataW.trod_string Try.underlying9 h2
      simp only [List.cons.injEq, and_true] at e
      simp only [Prod.mk.injEq] at ex
      exact ⟨t, by rw [h1, e], ex.1⟩
    obtain ⟨ts, hlen, hts⟩ := list_of len each
    simp only [DataW.weights, Try.underlying37] at hsz
    refine ⟨some a, cap, ts, by rw [hlen], ?_, ?_, by unfold maxLen at hm9; omega⟩
    · by_cases h0 : ts = []
      · exact Or.inl h0
      · have hp : 0 < ts.length := List.length_pos_iff.2 h0
        obtain ⟨b, off, spot⟩ := a
        have hspot : spot = none := by simpa [Addr.add] using World.cell?_spot (hts 0 hp).1
        subst hspot
        have hlt := World.block_lt_of_cell? W _ (hts 0 hp).1
        refine Or.inr ⟨b, off, rfl, by simpa [Go.WideShapes.add_plain] using hlt, fun i hi => ?_⟩
        have c0 := (hts i hi).1
        rw [Go.WideShapes.add_plain] at c0
        exact c0
    · intro y hy
      obtain ⟨i, hi, rfl⟩ := List.getElem_of_mem hy
      obtain ⟨_, hd⟩ := hts i hi
      have hmem : D i ∈ (List.range len).map D := List.mem_map.2 ⟨i, List.mem_range.2 (by omega), rfl⟩
      have hn : (ts[i]).data.toList.length ∈ (D i).weights Try.prog 9 := by rw [hd]; simp [DataW.weights]
      have := hsz _ (List.mem_cons_of_mem _ (List.mem_append_left _ (weightsAll_mem hmem hn)))
      rw [← Lib.size_eq] at this
      simpa [reachBytes] using this

set_option maxHeartbeats 1600000 in
theorem sameT_any (a a' : Option Addr) (cap cap' : Nat) (ts : List ByteArray) (w : World) (hl : LiesT w a ts) (hl' : LiesT w a' ts) (hn : ts.length ≤ 4611686018427387904) :
    Calls Try.prog 26 #[.slice a ts.length cap, .slice a' ts.length cap'] w fun e w' => e = .returned (.bool true) ∧ Below w.heap.size w w' := by
  have bn : ((ts.length : Int) != (ts.length : Int)) = false := by simp
  go_enter Try.func26, Try.ntmps26
  go_wp2
  go_loopw [5] (fun i wr => ∃ k : Nat, k ≤ ts.length ∧ i = .int .i64 k ∧ Below w.heap.size w wr) (fun i _ => ts.length - (intOf i).toNat)
  case atStart => exact ⟨0, by omega, rfl, Below.refl _ _⟩
  case round =>
    obtain ⟨k, hk, rfl, hbel⟩ := hrel
    by_cases hlt : k < ts.length
    · obtain ⟨b, off, rfl, c0⟩ := hl.at k hlt hbel
      obtain ⟨b', off', rfl, d0⟩ := hl'.at k hlt hbel
      generalize ts[k] = x at *
      have i1 : (0 : Int) ≤ (k : Int) := by omega
      have i2 : (k : Int) < (ts.length : Int) := by omega
      go_wp2
      go_quiet (fail)
      go_wp2
      go_roundw
      case rel => exact ⟨k + 1, by omega, by go_num, below_drewN hbel nq⟩
      case measure => simp [intOf]; omega
    · go_wp2
      go_ret
      exact ⟨rfl, hbel⟩

end Go.Proofs.Ytacegffkhfcadaa
