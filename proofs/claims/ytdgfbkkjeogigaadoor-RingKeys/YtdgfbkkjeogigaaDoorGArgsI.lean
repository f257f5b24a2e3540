/- What an argument that is a list of numbers reads as. -/
import Derived.Test.YtdgfbkkjeogigaaDoorGArgs
namespace Go.Proofs.YtdgfbkkjeogigaaDoor.Gk
open Go.ChangeShapes Go.WideShapes Go.ChangeAt Go.RowKit Go.Deep Go.Joins

structure IntsAt (W : World) (a : Option Addr) (cap : Nat) (ds : List Int) : Prop extends SliceAt W ienc a cap ds where
  each : ∀ x ∈ ds, -9223372036854775808 ≤ x ∧ x ≤ 9223372036854775807

theorem open_ints {H : Type} {enc : TypeId × Value → H} {W : World} {fuel : Nat} {cs : List Value} {x : DataW H × List MemPlace} (h : DataW.trod enc Tryd.prog W 0 (fun _ => true) true fuel 22 cs = some x) : ∃ a cap ds, cs = [.slice a (List.length ds) cap] ∧ IntsAt W a cap ds := by
  rcases Go.Deep.open_slice1 Tryd.underlying22 cells_int h with ⟨rfl, rfl⟩ | ⟨a, len, cap, m, n, V, D, Pl, rfl, _, hl, hm9, hmm, rfl, hx⟩
  · exact ⟨none, 0, [], rfl, ⟨⟨Or.inl rfl, by simp, fun _ => rfl, by omega⟩, by simp⟩⟩
  · have hm : m = cap := by rw [hmm]; simp
    have each : ∀ i, i < len → ∃ t : Int, W.cell? (a.add i) = some (.int .i64 t) ∧ -9223372036854775808 ≤ t ∧ t ≤ 9223372036854775807 := by
      intro i hi
      obtain ⟨h1, h2⟩ := hx i (by omega)
      obtain ⟨t, e, _, hk⟩ := DataW.trod_int Tryd.underlying3 h2
      simp only [List.cons.injEq, and_true] at e
      exact ⟨t, by rw [h1, e], bounds_i64 hk⟩
    obtain ⟨ts, hlen, hts⟩ := list_of len each
    refine ⟨some a, cap, ts, by rw [hlen], ⟨⟨lies_of ienc_len (by omega) fun i hi j u hj => ?_, by omega, by simp, by unfold maxLen at hm9; omega⟩, ?_⟩⟩
    · have hj0 : j = 0 := by have := (List.getElem?_eq_some_iff.1 hj).1; rw [ienc_len] at this; omega
      subst hj0
      cases hj
      rw [Nat.mul_one, Nat.add_zero]; exact (hts i hi).1
    · intro y hy
      obtain ⟨i, hi, rfl⟩ := List.getElem_of_mem hy
      exact (hts i hi).2

/-- a number's cell, in whatever world comes behind -/
theorem IntsAt.cell {w : World} {a : Option Addr} {cap : Nat} {ds : List Int} (hl : IntsAt w a cap ds) (k : Nat) (hk : k < ds.length) : ∃ b off, a = some ⟨b, off, none⟩ ∧ ∀ W, Below w.heap.size w W → W.cell? ⟨b, off + k, none⟩ = some (.int .i64 ds[k]) := by
  obtain ⟨b, off, rfl, hlt, hc⟩ := hl.lies.at ienc_len k hk
  refine ⟨b, off, rfl, fun W hb => ?_⟩
  obtain ⟨b', off', e, _, hc'⟩ := (hl.lies.below hb).at ienc_len k hk
  cases e
  have := hc' 0 _ rfl
  rwa [Nat.mul_one, Nat.add_zero] at this

end Go.Proofs.YtdgfbkkjeogigaaDoor.Gk
