/- What an argument that is a list of calls reads as. -/
import Derived.Test.YtokcknfbanpjjaaDArgs
import Derived.Test.YtokcknfbanpjjaaDActV
namespace Go.Proofs.Ytokcknfbanpjjaa.Dk
open Go.ChangeShapes Go.WideShapes Go.ChangeAt Go.RowKit Go.Deep Go.Joins

theorem cells_act : Try.prog.cellsOf 33 = 5 := by kernel_rfl
theorem cells_ints : Try.prog.cellsOf 31 = 1 := by kernel_rfl

set_option maxRecDepth 100000 in
theorem open_act {H : Type} {enc : TypeId × Value → H} {W : World} {fuel : Nat} {a : Addr} {cs : List Value} {x : DataW H × List MemPlace} (hc : W.cells? 0 a 5 = some cs) (h : DataW.trod enc Try.prog W 0 (fun _ => true) true fuel 33 cs = some x) :
    ∃ f : ActV, (W.cell? a = some (.int .i64 f.kind) ∧ W.cell? (a.add 1) = some (.string f.name) ∧ W.cell? (a.add 2) = some (.string f.to) ∧ W.cell? (a.add 3) = some (.int .i64 f.n) ∧ W.cell? (a.add 4) = some (.slice f.dr f.ds.length f.dc)) ∧
      (∃ d0 d3 d4, x.1 = .agg [d0, .lit (.string f.name.data.toList), .lit (.string f.to.data.toList), d3, d4]) ∧ (-9223372036854775808 ≤ f.kind ∧ f.kind ≤ 9223372036854775807) ∧ (-9223372036854775808 ≤ f.n ∧ f.n ≤ 9223372036854775807) ∧ IntsAt W f.dr f.dc f.ds := by
  obtain ⟨_, hlen, hcell⟩ := World.cells?_some hc
  obtain ⟨xs, n, _, rfl, hl, hxl, hf⟩ := DataW.trod_struct Try.underlying33 h
  match cs, hlen, xs, hxl with
  | [v0, v1, v2, v3, v4], _, [y0, y1, y2, y3, y4], _ =>
    have h0 := hf 0 _ rfl
    have h1 := hf 1 _ rfl
    have h2 := hf 2 _ rfl
    have h3 := hf 3 _ rfl
    have h4 := hf 4 _ rfl
    simp [cells_int, cells_string, cells_ints] at h0 h1 h2 h3 h4
    obtain ⟨k0, e0, _, hk0⟩ := DataW.trod_int Try.underlying3 h0
    obtain ⟨s1, e1, ex1, _⟩ := DataW.trod_string Try.underlying9 h1
    obtain ⟨s2, e2, ex2, _⟩ := DataW.trod_string Try.underlying9 h2
    obtain ⟨k3, e3, _, hk3⟩ := DataW.trod_int Try.underlying3 h3
    obtain ⟨ad, cap, ds, e4, hI⟩ := open_ints h4
    simp only [List.cons.injEq, and_true] at e0 e1 e2 e3 e4
    subst e0 e1 e2 e3 e4
    have c0 := hcell 0 (by omega)
    have c1 := hcell 1 (by omega)
    have c2 := hcell 2 (by omega)
    have c3 := hcell 3 (by omega)
    have c4 := hcell 4 (by omega)
    have ha : a.add 0 = a := by unfold Addr.add; split <;> simp_all
    rw [ha] at c0
    refine ⟨⟨k0, s1, s2, k3, ad, cap, ds⟩, ⟨by simpa using c0, by simpa using c1, by simpa using c2, by simpa using c3, by simpa using c4⟩, ⟨y0.1, y3.1, y4.1, ?_⟩, bounds_i64 hk0, bounds_i64 hk3, hI⟩
    rw [ex1, ex2]; simp

set_option maxRecDepth 100000 in
theorem open_acts {H : Type} {enc : TypeId × Value → H} {W : World} {fuel : Nat} {cs : List Value} {x : DataW H × List MemPlace} (h : DataW.trod enc Try.prog W 0 (fun _ => true) true fuel 22 cs = some x)
    (hsz : ∀ n ∈ x.1.weights Try.prog 22, n ≤ reachBytes) : ∃ a cap ac, cs = [.slice a (List.length ac) cap] ∧ ActsAt W a ac := by
  rcases open_slice Try.underlying22 h with ⟨rfl, rfl⟩ | ⟨a, len, cap, m, n, D, Pl, rfl, _, hl, hm9, hmm, rfl, hx⟩
  · exact ⟨none, 0, [], rfl, ⟨Or.inl rfl, by simp, by simp⟩⟩
  · have hm : m = cap := by rw [hmm]; simp
    have each : ∀ i, i < len → ∃ f : ActV, (W.cell? (a.add (i * 5)) = some (.int .i64 f.kind) ∧ W.cell? (a.add (i * 5 + 1)) = some (.string f.name) ∧ W.cell? (a.add (i * 5 + 2)) = some (.string f.to) ∧ W.cell? (a.add (i * 5 + 3)) = some (.int .i64 f.n) ∧ W.cell? (a.add (i * 5 + 4)) = some (.slice f.dr f.ds.length f.dc)) ∧
        (∃ d0 d3 d4, D i = .agg [d0, .lit (.string f.name.data.toList), .lit (.string f.to.data.toList), d3, d4]) ∧ (-9223372036854775808 ≤ f.kind ∧ f.kind ≤ 9223372036854775807) ∧ (-9223372036854775808 ≤ f.n ∧ f.n ≤ 9223372036854775807) ∧ IntsAt W f.dr f.dc f.ds := by
      intro i hi
      obtain ⟨cs', h1, h2⟩ := hx i (by omega)
      rw [cells_act] at h1
      obtain ⟨f, ⟨c0, c1, c2, c3, c4⟩, hd, hk, hn, hI⟩ := open_act h1 h2
      rw [add_add] at c1 c2 c3 c4
      exact ⟨f, ⟨c0, c1, c2, c3, c4⟩, hd, hk, hn, hI⟩
    obtain ⟨ac, hlen, hac⟩ := list_of len each
    simp only [DataW.weights, Try.underlying22] at hsz
    refine ⟨some a, cap, ac, by rw [hlen], ⟨?_, ?_, by unfold maxLen at hm9; omega⟩⟩
    · by_cases h0 : ac = []
      · exact Or.inl h0
      · have hp : 0 < ac.length := List.length_pos_iff.2 h0
        obtain ⟨b, off, spot⟩ := a
        have hspot : spot = none := by simpa [Addr.add] using World.cell?_spot (hac 0 hp).1.1
        subst hspot
        have hlt := World.block_lt_of_cell? W _ (hac 0 hp).1.1
        refine Or.inr ⟨b, off, rfl, by simpa [Go.WideShapes.add_plain] using hlt, fun i hi => ?_⟩
        obtain ⟨c0, c1, c2, c3, c4⟩ := (hac i hi).1
        rw [Go.WideShapes.add_plain] at c0 c1 c2 c3 c4
        exact ⟨c0, c1, c2, c3, c4⟩
    · intro y hy
      obtain ⟨i, hi, rfl⟩ := List.getElem_of_mem hy
      obtain ⟨_, ⟨d0, d3, d4, hd⟩, hk, hn, hI⟩ := hac i hi
      have hmem : D i ∈ (List.range len).map D := List.mem_map.2 ⟨i, List.mem_range.2 (by omega), rfl⟩
      have hw : ∀ n, n ∈ (D i).weights Try.prog 33 → n ≤ reachBytes := fun n hn => hsz _ (List.mem_cons_of_mem _ (List.mem_append_left _ (weightsAll_mem hmem hn)))
      have h1 := hw (ac[i]).name.data.toList.length (by rw [hd]; simp [DataW.weights, Try.underlying33, DataW.weightsEach])
      have h2 := hw (ac[i]).to.data.toList.length (by rw [hd]; simp [DataW.weights, Try.underlying33, DataW.weightsEach])
      rw [← Lib.size_eq] at h1 h2
      exact ⟨⟨hk.1, hk.2, by simpa [reachBytes] using h1, by simpa [reachBytes] using h2, hn.1, hn.2⟩, hI⟩

end Go.Proofs.Ytokcknfbanpjjaa.Dk
