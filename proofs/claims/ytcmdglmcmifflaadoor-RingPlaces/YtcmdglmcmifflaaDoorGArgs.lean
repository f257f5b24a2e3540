/- What the laws' arguments read as: the ground. What an argument that is a list of numbers reads as. What an argument that is a list of texts reads as. -/
import Derived.Test.YtcmdglmcmifflaaDoorGCore
import Derived.Test.YtcmdglmcmifflaaDoorRows
import Derived.ProofKit
import Derived.OpenShut
import Derived.SizedLaws
import Derived.Deep.Slices
import Derived.Deep.Strs
namespace Go.Proofs.YtcmdglmcmifflaaDoor.Gk
open Go.ChangeShapes Go.WideShapes Go.ChangeAt Go.RowKit Go.Deep Go.Joins
open Go.ChangeMaps (open_string shut_string)

theorem try_own : ownKnob Tryd.prog.godebug = none := by kernel_rfl
theorem try_laidOut : laidOutB Tryd.prog = true := by kernel_rfl
theorem cells_int : Tryd.prog.cellsOf 3 = 1 := by kernel_rfl
theorem cells_string : Tryd.prog.cellsOf 9 = 1 := by kernel_rfl
theorem cells_bool : Tryd.prog.cellsOf 4 = 1 := by kernel_rfl

theorem list_of {α : Type} {P : Nat → α → Prop} : ∀ n, (∀ i, i < n → ∃ x, P i x) → ∃ l : List α, l.length = n ∧ ∀ i (hi : i < l.length), P i l[i]
  | 0, _ => ⟨[], rfl, fun i hi => absurd hi (by simp)⟩
  | n + 1, h => by
    obtain ⟨l, hl, hp⟩ := list_of n (fun i hi => h i (by omega))
    obtain ⟨x, hx⟩ := h n (by omega)
    refine ⟨l ++ [x], by simp [hl], fun i hi => ?_⟩
    by_cases e : i < l.length
    · rw [List.getElem_append_left e]; exact hp i e
    · have : i = n := by simp at hi; omega
      subst this
      rw [List.getElem_append_right (by omega)]
      simpa [hl] using hx
theorem weightsAll_mem {H : Type} {P : Program} {e : TypeId} {d : DataW H} {n : Nat} : ∀ {l : List (DataW H)}, d ∈ l → n ∈ d.weights P e → n ∈ DataW.weightsAll P e l
  | y :: r, hd, hn => by
    rw [DataW.weightsAll, List.mem_append]
    rcases List.mem_cons.1 hd with rfl | h
    · exact Or.inl hn
    · exact Or.inr (weightsAll_mem h hn)
theorem slice_eq {z a : Option Addr} {y n x c : Nat} (h : (Value.slice z y x).cells.toList = [Value.slice a n c]) : z = a ∧ y = n ∧ x = c := by simpa [Value.cells] using h
theorem sized_one {H : Type} {P : Program} {ts : List TypeId} {ds : List (DataW H)} (h : (DataW.weightsEach P ts ds).all (· ≤ reachBytes) = true) {j : Nat} {t : TypeId} {d : DataW H} (ht : ts[j]? = some t) (hd : ds[j]? = some d) : ∀ n ∈ d.weights P t, n ≤ reachBytes := by
  intro n hn
  have := List.all_eq_true.1 h n (DataW.weights_mem_each ht hd n hn)
  simpa using this
theorem sized_str {H : Type} {P : Program} {ts : List TypeId} {ds : List (DataW H)} (h : (DataW.weightsEach P ts ds).all (· ≤ reachBytes) = true) {j : Nat} {t : TypeId} {s : ByteArray} (ht : ts[j]? = some t) (hd : ds[j]? = some (.lit (.string s.data.toList))) : s.size ≤ 140737488351232 := by
  have := sized_string h ht hd
  rw [← Lib.size_eq] at this
  simpa [reachBytes] using this

/-- what a slice is, opened -/
structure SliceAt {α : Type} (W : World) (enc : α → List Value) (a : Option Addr) (cap : Nat) (l : List α) : Prop where
  lies : Lies W enc a l
  room : l.length ≤ cap
  nil : a = none → cap = 0
  max : cap ≤ 9223372036854775807

/-- a slice's elements, cell by cell, lie there -/
theorem lies_of {α : Type} {enc : α → List Value} {k : Nat} {W : World} (hk : ∀ x, (enc x).length = k) (hk0 : 0 < k) {a : Addr} {l : List α} (h : ∀ i (hi : i < l.length) j u, (enc l[i])[j]? = some u → W.cell? (a.add (i * k + j)) = some u) : Lies W enc (some a) l := by
  by_cases h0 : l = []
  · exact Or.inl h0
  · have hp : 0 < l.length := List.length_pos_iff.2 h0
    obtain ⟨b, off, spot⟩ := a
    obtain ⟨u0, hu0⟩ : ∃ u0, (enc l[0])[0]? = some u0 := ⟨_, List.getElem?_eq_getElem (l := enc l[0]) (by rw [hk]; exact hk0)⟩
    have c0 := h 0 hp 0 u0 hu0
    have hspot : spot = none := by simpa [Addr.add] using World.cell?_spot c0
    subst hspot
    have hlt := World.block_lt_of_cell? W _ c0
    refine Or.inr ⟨b, off, rfl, by simpa [Go.WideShapes.add_plain] using hlt, fun j u hj => ?_⟩
    have hjl : j < l.length * k := by have := (List.getElem?_eq_some_iff.1 hj).1; rwa [rc_length hk] at this
    have hi : j / k < l.length := Nat.div_lt_of_lt_mul (by rw [Nat.mul_comm]; exact hjl)
    have hjm : j % k < k := Nat.mod_lt _ hk0
    have hjj : j / k * k + j % k = j := by rw [Nat.mul_comm]; exact Nat.div_add_mod j k
    rw [← hjj, rc_at hk l (j / k) hi (j % k) hjm] at hj
    have := h (j / k) hi (j % k) u hj
    rw [hjj, Go.WideShapes.add_plain] at this
    exact this

def ienc (x : Int) : List Value := [.int .i64 x]
def tenc (x : ByteArray) : List Value := [.string x]
theorem ienc_len (x : Int) : (ienc x).length = 1 := rfl
theorem tenc_len (x : ByteArray) : (tenc x).length = 1 := rfl
theorem ienc_one (x : Int) : ∀ u ∈ ienc x, u.oneCell' = true := by intro u hu; simp only [ienc, List.mem_singleton] at hu; subst hu; rfl
theorem tenc_one (x : ByteArray) : ∀ u ∈ tenc x, u.oneCell' = true := by intro u hu; simp only [tenc, List.mem_singleton] at hu; subst hu; rfl

end Go.Proofs.YtcmdglmcmifflaaDoor.Gk

namespace Go.Proofs.YtcmdglmcmifflaaDoor.Gk
open Go.ChangeShapes Go.WideShapes Go.ChangeAt Go.RowKit Go.Deep Go.Joins

structure IntsAt (W : World) (a : Option Addr) (cap : Nat) (ds : List Int) : Prop extends SliceAt W ienc a cap ds where
  each : ∀ x ∈ ds, -9223372036854775808 ≤ x ∧ x ≤ 9223372036854775807

theorem open_ints {H : Type} {enc : TypeId × Value → H} {W : World} {fuel : Nat} {cs : List Value} {x : DataW H × List MemPlace} (h : DataW.trod enc Tryd.prog W 0 (fun _ => true) true fuel 22 cs = some x) : ∃ a cap ds, cs = [.slice a (List.length ds) cap] ∧ IntsAt W a cap ds := by
  rcases Go.Deep.open_slice1 Tryd.underlying22 cells_int h with ⟨rfl, rfl⟩ | ⟨a, len, cap, m, n, V, D, Pl, rfl, _, hl, hm9, hmm, rfl, hx⟩
  · exact ⟨none, 0, [], rfl, ⟨⟨Or.inl rfl, by simp, fun _ => rfl, by omega⟩, by simp⟩⟩
  · have hm : m = cap := by rw [hmm]; simp
    have each : ∀ i, i < len → ∃ t : Int, W.cell? (a.add i) = some (.int .i64 t) ∧ -9223372036854775808 ≤ t ∧ t ≤ 9223372036854775807 := by
      intro i hi
      obtain ⟨h1, h2⟩ := hx i (by omega)
      obtain ⟨t, e, _, hk⟩ := DataW.trod_int Tryd.underlying3 h2
      simp only [List.cons.injEq, and_true] at e
      exact ⟨t, by rw [h1, e], bounds_i64 hk⟩
    obtain ⟨ts, hlen, hts⟩ := list_of len each
    refine ⟨some a, cap, ts, by rw [hlen], ⟨⟨lies_of ienc_len (by omega) fun i hi j u hj => ?_, by omega, by simp, by unfold maxLen at hm9; omega⟩, ?_⟩⟩
    · have hj0 : j = 0 := by have := (List.getElem?_eq_some_iff.1 hj).1; rw [ienc_len] at this; omega
      subst hj0
      cases hj
      rw [Nat.mul_one, Nat.add_zero]; exact (hts i hi).1
    · intro y hy
      obtain ⟨i, hi, rfl⟩ := List.getElem_of_mem hy
      exact (hts i hi).2

/-- a number's cell, in whatever world comes behind -/
theorem IntsAt.cell {w : World} {a : Option Addr} {cap : Nat} {ds : List Int} (hl : IntsAt w a cap ds) (k : Nat) (hk : k < ds.length) : ∃ b off, a = some ⟨b, off, none⟩ ∧ ∀ W, Below w.heap.size w W → W.cell? ⟨b, off + k, none⟩ = some (.int .i64 ds[k]) := by
  obtain ⟨b, off, rfl, hlt, hc⟩ := hl.lies.at ienc_len k hk
  refine ⟨b, off, rfl, fun W hb => ?_⟩
  obtain ⟨b', off', e, _, hc'⟩ := (hl.lies.below hb).at ienc_len k hk
  cases e
  have := hc' 0 _ rfl
  rwa [Nat.mul_one, Nat.add_zero] at this

end Go.Proofs.YtcmdglmcmifflaaDoor.Gk

namespace Go.Proofs.YtcmdglmcmifflaaDoor.Gk
open Go.ChangeShapes Go.WideShapes Go.ChangeAt Go.RowKit Go.Deep Go.Joins

structure TextsAt (W : World) (a : Option Addr) (cap : Nat) (ts : List ByteArray) : Prop extends SliceAt W tenc a cap ts where
  each : ∀ t ∈ ts, t.size ≤ 140737488351232

theorem open_texts {H : Type} {enc : TypeId × Value → H} {W : World} {fuel : Nat} {cs : List Value} {x : DataW H × List MemPlace} (h : DataW.trod enc Tryd.prog W 0 (fun _ => true) true fuel 52 cs = some x)
    (hsz : ∀ n ∈ x.1.weights Tryd.prog 52, n ≤ reachBytes) : ∃ a cap ts, cs = [.slice a (List.length ts) cap] ∧ TextsAt W a cap ts := by
  rcases Go.Deep.open_slice1 Tryd.underlying52 cells_string h with ⟨rfl, rfl⟩ | ⟨a, len, cap, m, n, V, D, Pl, rfl, _, hl, hm9, hmm, rfl, hx⟩
  · exact ⟨none, 0, [], rfl, ⟨⟨Or.inl rfl, by simp, fun _ => rfl, by omega⟩, by simp⟩⟩
  · have hm : m = cap := by rw [hmm]; simp
    have each : ∀ i, i < len → ∃ t : ByteArray, W.cell? (a.add i) = some (.string t) ∧ D i = .lit (.string t.data.toList) := by
      intro i hi
      obtain ⟨h1, h2⟩ := hx i (by omega)
      obtain ⟨t, e, ex, _⟩ := DataW.trod_string Tryd.underlying9 h2
      simp only [List.cons.injEq, and_true] at e
      simp only [Prod.mk.injEq] at ex
      exact ⟨t, by rw [h1, e], ex.1⟩
    obtain ⟨ts, hlen, hts⟩ := list_of len each
    simp only [DataW.weights, Tryd.underlying52] at hsz
    refine ⟨some a, cap, ts, by rw [hlen], ⟨⟨lies_of tenc_len (by omega) fun i hi j u hj => ?_, by omega, by simp, by unfold maxLen at hm9; omega⟩, ?_⟩⟩
    · have hj0 : j = 0 := by have := (List.getElem?_eq_some_iff.1 hj).1; rw [tenc_len] at this; omega
      subst hj0
      cases hj
      rw [Nat.mul_one, Nat.add_zero]; exact (hts i hi).1
    · intro y hy
      obtain ⟨i, hi, rfl⟩ := List.getElem_of_mem hy
      obtain ⟨_, hd⟩ := hts i hi
      have hmem : D i ∈ (List.range len).map D := List.mem_map.2 ⟨i, List.mem_range.2 (by omega), rfl⟩
      have hn : (ts[i]).data.toList.length ∈ (D i).weights Tryd.prog 9 := by rw [hd]; simp [DataW.weights]
      have := hsz _ (List.mem_cons_of_mem _ (List.mem_append_left _ (weightsAll_mem hmem hn)))
      rw [← Lib.size_eq] at this
      simpa [reachBytes] using this

end Go.Proofs.YtcmdglmcmifflaaDoor.Gk
