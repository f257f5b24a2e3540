/- What an argument that is a list of fields reads as. -/
import Derived.Test.YtmpahgklcabihaaGreatWLies
import Derived.Test.YtmpahgklcabihaaGreatRows
import Derived.ProofKit
import Derived.OpenShut
import Derived.SizedLaws
import Derived.Deep.Slices
import Derived.Deep.Strs
namespace Go.Proofs.YtmpahgklcabihaaGreat
open Go.ChangeShapes Go.WideShapes Go.ChangeAt Go.RowKit Go.Deep
open Go.ChangeMaps (open_string shut_string)

theorem try_own : ownKnob Tryz.prog.godebug = none := by kernel_rfl
theorem try_laidOut : laidOutB Tryz.prog = true := by kernel_rfl
theorem cells_field : Tryz.prog.cellsOf 120 = 3 := by kernel_rfl
theorem bytes_field : Tryz.prog.bytesOf 120 = 32 := by kernel_rfl
theorem cells_int64 : Tryz.prog.cellsOf 2 = 1 := by kernel_rfl
theorem cells_bool : Tryz.prog.cellsOf 4 = 1 := by kernel_rfl
theorem cells_string : Tryz.prog.cellsOf 9 = 1 := by kernel_rfl

/-- a field fits: its number is of 64 bits, its text is no longer than what can be read -/
def Fld.fits (x : Fld) : Prop := -9223372036854775808 ≤ x.n ∧ x.n ≤ 9223372036854775807 ∧ x.s.size ≤ 140737488351232

theorem list_of {α : Type} {P : Nat → α → Prop} : ∀ n, (∀ i, i < n → ∃ x, P i x) → ∃ l : List α, l.length = n ∧ ∀ i (hi : i < l.length), P i l[i]
  | 0, _ => ⟨[], rfl, fun i hi => absurd hi (by simp)⟩
  | n + 1, h => by
    obtain ⟨l, hl, hp⟩ := list_of n (fun i hi => h i (by omega))
    obtain ⟨x, hx⟩ := h n (by omega)
    refine ⟨l ++ [x], by simp [hl], fun i hi => ?_⟩
    by_cases e : i < l.length
    · rw [List.getElem_append_left e]; exact hp i e
    · have : i = n := by simp at hi; omega
      subst this
      rw [List.getElem_append_right (by omega)]
      simpa [hl] using hx

theorem weightsAll_mem {H : Type} {P : Program} {e : TypeId} {d : DataW H} {n : Nat} : ∀ {l : List (DataW H)}, d ∈ l → n ∈ d.weights P e → n ∈ DataW.weightsAll P e l
  | y :: r, hd, hn => by
    rw [DataW.weightsAll, List.mem_append]
    rcases List.mem_cons.1 hd with rfl | h
    · exact Or.inl hn
    · exact Or.inr (weightsAll_mem h hn)

set_option maxRecDepth 100000 in
/-- one field: its three cells, and what it reads as -/
theorem open_field {H : Type} {enc : TypeId × Value → H} {W : World} {fuel : Nat} {a : Addr} {cs : List Value} {x : DataW H × List MemPlace} (hc : W.cells? 0 a 3 = some cs) (h : DataW.trod enc Tryz.prog W 0 (fun _ => true) true fuel 120 cs = some x) :
    ∃ f : Fld, W.cell? a = some (.bool f.text) ∧ W.cell? (a.add 1) = some (.int .i64 f.n) ∧ W.cell? (a.add 2) = some (.string f.s) ∧ x.1 = .agg [.lit (.bool f.text), .lit (.int .i64 f.n), .lit (.string f.s.data.toList)] ∧ (-9223372036854775808 ≤ f.n ∧ f.n ≤ 9223372036854775807) := by
  obtain ⟨_, hlen, hcell⟩ := World.cells?_some hc
  obtain ⟨y0, y1, y2, n, rfl, _, h0, h1, h2⟩ := trod_struct3 Tryz.underlying120 h
  match cs, hlen with
  | [v0, v1, v2], _ =>
    simp [cells_bool, cells_int64, cells_string] at h0 h1 h2
    obtain ⟨b, e0, rfl⟩ := DataW.trod_bool Tryz.underlying4 h0
    obtain ⟨k, e1, rfl, hk⟩ := DataW.trod_int Tryz.underlying2 h1
    obtain ⟨s, e2, rfl, _⟩ := DataW.trod_string Tryz.underlying9 h2
    simp at e0 e1 e2
    subst e0 e1 e2
    have c0 := hcell 0 (by omega)
    have c1 := hcell 1 (by omega)
    have c2 := hcell 2 (by omega)
    have ha : a.add 0 = a := by unfold Addr.add; split <;> simp_all
    rw [ha] at c0
    exact ⟨⟨b, k, s⟩, by simpa using c0, by simpa using c1, by simpa using c2, rfl, bounds_i64 hk⟩

set_option maxRecDepth 100000 in
theorem open_fields {H : Type} {enc : TypeId × Value → H} {W : World} {fuel : Nat} {cs : List Value} {x : DataW H × List MemPlace} (h : DataW.trod enc Tryz.prog W 0 (fun _ => true) true fuel 122 cs = some x)
    (hsz : ∀ n ∈ x.1.weights Tryz.prog 122, n ≤ reachBytes) : ∃ a cap fs, cs = [.slice a fs.length cap] ∧ Lies W a fs ∧ ((a = none → cap = 0) ∧ fs.length ≤ cap) ∧ fs.length * 32 ≤ 140737488351232 ∧ ∀ y ∈ fs, y.fits := by
  rcases open_slice Tryz.underlying122 h with ⟨rfl, rfl⟩ | ⟨a, len, cap, m, n, D, Pl, rfl, _, hl, _, hmm, rfl, hx⟩
  · exact ⟨none, 0, [], rfl, Or.inl rfl, ⟨fun _ => rfl, by simp⟩, by simp, by simp⟩
  · have hm : m = cap := by rw [hmm]; simp
    have each : ∀ i, i < len → ∃ f : Fld, W.cell? (a.add (i * 3)) = some (.bool f.text) ∧ W.cell? (a.add (i * 3 + 1)) = some (.int .i64 f.n) ∧ W.cell? (a.add (i * 3 + 2)) = some (.string f.s) ∧
        D i = .agg [.lit (.bool f.text), .lit (.int .i64 f.n), .lit (.string f.s.data.toList)] ∧ (-9223372036854775808 ≤ f.n ∧ f.n ≤ 9223372036854775807) := by
      intro i hi
      obtain ⟨cs', h1, h2⟩ := hx i (by omega)
      rw [cells_field] at h1
      obtain ⟨f, c0, c1, c2, hd, hw⟩ := open_field h1 h2
      rw [add_add] at c1 c2
      exact ⟨f, c0, c1, c2, hd, hw⟩
    obtain ⟨fs, hlen, hfs⟩ := list_of len each
    simp only [DataW.weights, Tryz.underlying122] at hsz
    refine ⟨some a, cap, fs, by rw [hlen], ?_, ⟨by simp, by omega⟩, ?_, ?_⟩
    · by_cases h0 : fs = []
      · exact Or.inl h0
      · have hp : 0 < fs.length := List.length_pos_iff.2 h0
        obtain ⟨b, off, spot⟩ := a
        have hspot : spot = none := by simpa [Addr.add] using World.cell?_spot (hfs 0 hp).1
        subst hspot
        have hlt := World.block_lt_of_cell? W _ (hfs 0 hp).1
        refine Or.inr ⟨b, off, rfl, by simpa [Go.WideShapes.add_plain] using hlt, fun i hi => ?_⟩
        obtain ⟨c0, c1, c2, _⟩ := hfs i hi
        rw [Go.WideShapes.add_plain] at c0 c1 c2
        exact ⟨c0, c1, c2⟩
    · have := hsz _ (List.mem_cons_self ..)
      simp only [bytes_field, List.length_map, List.length_range, reachBytes] at this
      omega
    · intro y hy
      obtain ⟨i, hi, rfl⟩ := List.getElem_of_mem hy
      obtain ⟨_, _, _, hd, hw⟩ := hfs i hi
      refine ⟨hw.1, hw.2, ?_⟩
      have hmem : D i ∈ (List.range len).map D := List.mem_map.2 ⟨i, List.mem_range.2 (by omega), rfl⟩
      have hn : (fs[i]).s.data.toList.length ∈ (D i).weights Tryz.prog 120 := by
        rw [hd]; simp [DataW.weights, Tryz.underlying120, DataW.weightsEach]
      have := hsz _ (List.mem_cons_of_mem _ (List.mem_append_left _ (weightsAll_mem hmem hn)))
      rw [← Lib.size_eq] at this
      simpa [reachBytes] using this

theorem slice_eq {z a : Option Addr} {y n x c : Nat} (h : (Value.slice z y x).cells.toList = [Value.slice a n c]) : z = a ∧ y = n ∧ x = c := by simpa [Value.cells] using h

/-- the weights of one of the arguments -/
theorem sized_one {H : Type} {P : Program} {ts : List TypeId} {ds : List (DataW H)} (h : (DataW.weightsEach P ts ds).all (· ≤ reachBytes) = true) {j : Nat} {t : TypeId} {d : DataW H} (ht : ts[j]? = some t) (hd : ds[j]? = some d) : ∀ n ∈ d.weights P t, n ≤ reachBytes := by
  intro n hn
  have := List.all_eq_true.1 h n (DataW.weights_mem_each ht hd n hn)
  simpa using this
theorem sized_str {H : Type} {P : Program} {ts : List TypeId} {ds : List (DataW H)} (h : (DataW.weightsEach P ts ds).all (· ≤ reachBytes) = true) {j : Nat} {t : TypeId} {s : ByteArray} (ht : ts[j]? = some t) (hd : ds[j]? = some (.lit (.string s.data.toList))) : s.size ≤ 140737488351232 := by
  have := sized_string h ht hd
  rw [← Lib.size_eq] at this
  simpa [reachBytes] using this

end Go.Proofs.YtmpahgklcabihaaGreat
