/- What the laws' arguments read as: lists of numbers, texts. -/
import Derived.Test.YtokcknfbanpjjaaDAmong
import Derived.Test.YtokcknfbanpjjaaRows
import Derived.ProofKit
import Derived.OpenShut
import Derived.SizedLaws
import Derived.Deep.Slices
import Derived.Deep.Strs
namespace Go.Proofs.Ytokcknfbanpjjaa.Dk
open Go.ChangeShapes Go.WideShapes Go.ChangeAt Go.RowKit Go.Deep Go.Joins
open Go.ChangeMaps (open_string shut_string)

theorem try_own : ownKnob Try.prog.godebug = none := by kernel_rfl
theorem try_laidOut : laidOutB Try.prog = true := by kernel_rfl
theorem cells_int : Try.prog.cellsOf 3 = 1 := by kernel_rfl
theorem cells_string : Try.prog.cellsOf 9 = 1 := by kernel_rfl

theorem list_of {α : Type} {P : Nat → α → Prop} : ∀ n, (∀ i, i < n → ∃ x, P i x) → ∃ l : List α, l.length = n ∧ ∀ i (hi : i < l.length), P i l[i]
  | 0, _ => ⟨[], rfl, fun i hi => absurd hi (by simp)⟩
  | n + 1, h => by
    obtain ⟨l, hl, hp⟩ := list_of n (fun i hi => h i (by omega))
    obtain ⟨x, hx⟩ := h n (by omega)
    refine ⟨l ++ [x], by simp [hl], fun i hi => ?_⟩
    by_cases e : i < l.length
    · rw [List.getElem_append_left e]; exact hp i e
    · have : i = n := by simp at hi; omega
      subst this
      rw [List.getElem_append_right (by omega)]
      simpa [hl] using hx
theorem weightsAll_mem {H : Type} {P : Program} {e : TypeId} {d : DataW H} {n : Nat} : ∀ {l : List (DataW H)}, d ∈ l → n ∈ d.weights P e → n ∈ DataW.weightsAll P e l
  | y :: r, hd, hn => by
    rw [DataW.weightsAll, List.mem_append]
    rcases List.mem_cons.1 hd with rfl | h
    · exact Or.inl hn
    · exact Or.inr (weightsAll_mem h hn)
theorem slice_eq {z a : Option Addr} {y n x c : Nat} (h : (Value.slice z y x).cells.toList = [Value.slice a n c]) : z = a ∧ y = n ∧ x = c := by simpa [Value.cells] using h
theorem sized_one {H : Type} {P : Program} {ts : List TypeId} {ds : List (DataW H)} (h : (DataW.weightsEach P ts ds).all (· ≤ reachBytes) = true) {j : Nat} {t : TypeId} {d : DataW H} (ht : ts[j]? = some t) (hd : ds[j]? = some d) : ∀ n ∈ d.weights P t, n ≤ reachBytes := by
  intro n hn
  have := List.all_eq_true.1 h n (DataW.weights_mem_each ht hd n hn)
  simpa using this
theorem sized_str {H : Type} {P : Program} {ts : List TypeId} {ds : List (DataW H)} (h : (DataW.weightsEach P ts ds).all (· ≤ reachBytes) = true) {j : Nat} {t : TypeId} {s : ByteArray} (ht : ts[j]? = some t) (hd : ds[j]? = some (.lit (.string s.data.toList))) : s.size ≤ 140737488351232 := by
  have := sized_string h ht hd
  rw [← Lib.size_eq] at this
  simpa [reachBytes] using this

theorem open_ints {H : Type} {enc : TypeId × Value → H} {W : World} {fuel : Nat} {cs : List Value} {x : DataW H × List MemPlace} (h : DataW.trod enc Try.prog W 0 (fun _ => true) true fuel 31 cs = some x) : ∃ a cap ds, cs = [.slice a (List.length ds) cap] ∧ IntsAt W a cap ds := by
  rcases Go.Deep.open_slice1 Try.underlying31 cells_int h with ⟨rfl, rfl⟩ | ⟨a, len, cap, m, n, V, D, Pl, rfl, _, hl, hm9, hmm, rfl, hx⟩
  · exact ⟨none, 0, [], rfl, ⟨Or.inl rfl, by simp, fun _ => rfl, by omega, by simp⟩⟩
  · have hm : m = cap := by rw [hmm]; simp
    have each : ∀ i, i < len → ∃ t : Int, W.cell? (a.add i) = some (.int .i64 t) ∧ -9223372036854775808 ≤ t ∧ t ≤ 9223372036854775807 := by
      intro i hi
      obtain ⟨h1, h2⟩ := hx i (by omega)
      obtain ⟨t, e, _, hk⟩ := DataW.trod_int Try.underlying3 h2
      simp only [List.cons.injEq, and_true] at e
      exact ⟨t, by rw [h1, e], bounds_i64 hk⟩
    obtain ⟨ts, hlen, hts⟩ := list_of len each
    refine ⟨some a, cap, ts, by rw [hlen], ⟨?_, by omega, by simp, by unfold maxLen at hm9; omega, ?_⟩⟩
    · by_cases h0 : ts = []
      · exact Or.inl h0
      · have hp : 0 < ts.length := List.length_pos_iff.2 h0
        obtain ⟨b, off, spot⟩ := a
        have hspot : spot = none := by simpa [Addr.add] using World.cell?_spot (hts 0 hp).1
        subst hspot
        have hlt := World.block_lt_of_cell? W _ (hts 0 hp).1
        have hlt' : b < W.heap.size := by simpa [Go.WideShapes.add_plain] using hlt
        refine Or.inr ⟨b, off, rfl, hlt', fun e => by simp only [since] at e; omega, fun i hi => ?_⟩
        have c0 := (hts i hi).1
        rw [Go.WideShapes.add_plain] at c0
        exact c0
    · intro y hy
      obtain ⟨i, hi, rfl⟩ := List.getElem_of_mem hy
      exact (hts i hi).2

end Go.Proofs.Ytokcknfbanpjjaa.Dk
