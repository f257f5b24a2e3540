/- What an argument that is a list of stretches reads as. -/
import Derived.Test.YtdlicndbdnfekaaGreatDoorGArgs
namespace Go.Proofs.YtdlicndbdnfekaaGreatDoor.Wl
open Go.ChangeShapes Go.WideShapes Go.ChangeAt Go.RowKit Go.Deep Go.Joins Go.Proofs.YtdlicndbdnfekaaGreatDoor.Gk

theorem cells_go : Tryz.prog.cellsOf 38 = 3 := by kernel_rfl
theorem cells_ints : Tryz.prog.cellsOf 36 = 1 := by kernel_rfl
theorem cells_strs : Tryz.prog.cellsOf 29 = 1 := by kernel_rfl
/-- a stretch: where its texts lie, they; its fuse; where its draws lie, they -/
structure GoV where
  la : Option Addr
  lc : Nat
  ts : List ByteArray
  fuse : Int
  da : Option Addr
  dc : Nat
  ds : List Int
abbrev goE (g : GoV) : List Value := [.slice g.la g.ts.length g.lc, .int .i64 g.fuse, .slice g.da g.ds.length g.dc]
theorem goE_len (g : GoV) : (goE g).length = 3 := rfl
structure GoOk (W : World) (g : GoV) : Prop where
  texts : TextsAt W g.la g.lc g.ts
  draws : IntsAt W g.da g.dc g.ds
  f0 : -9223372036854775808 ≤ g.fuse
  f1 : g.fuse ≤ 9223372036854775807
structure GosAt (W : World) (a : Option Addr) (cap : Nat) (gs : List GoV) : Prop extends SliceAt W goE a cap gs where
  each : ∀ g ∈ gs, GoOk W g

set_option maxRecDepth 100000 in
theorem open_go {H : Type} {enc : TypeId × Value → H} {W : World} {fuel : Nat} {a : Addr} {cs : List Value} {x : DataW H × List MemPlace} (hc : W.cells? 0 a 3 = some cs) (h : DataW.trod enc Tryz.prog W 0 (fun _ => true) true fuel 38 cs = some x)
    (hsz : ∀ n ∈ x.1.weights Tryz.prog 38, n ≤ reachBytes) :
    ∃ f : GoV, (∀ j u, (goE f)[j]? = some u → W.cell? (a.add j) = some u) ∧ GoOk W f := by
  obtain ⟨_, hlen, hcell⟩ := World.cells?_some hc
  obtain ⟨xs, n, _, rfl, hl, hxl, hf⟩ := DataW.trod_struct Tryz.underlying38 h
  match cs, hlen, xs, hxl with
  | [v0, v1, v2], _, [y0, y1, y2], _ =>
    have h0 := hf 0 _ rfl
    have h1 := hf 1 _ rfl
    have h2 := hf 2 _ rfl
    simp [cells_int, cells_strs, cells_ints] at h0 h1 h2
    obtain ⟨a0, c0, ts, e0, hT⟩ := open_texts h0 (fun n hn => hsz n (by
      simp [DataW.weights, Tryz.underlying38, DataW.weightsEach, hn]))
    obtain ⟨k1, e1, _, hk1⟩ := DataW.trod_int Tryz.underlying3 h1
    obtain ⟨ad, cap, ds, e2, hI⟩ := open_ints h2
    simp only [List.cons.injEq, and_true] at e0 e1 e2
    subst e0 e1 e2
    have q0 := hcell 0 (by omega)
    have q1 := hcell 1 (by omega)
    have q2 := hcell 2 (by omega)
    refine ⟨⟨a0, c0, ts, k1, ad, cap, ds⟩, fun j u hj => ?_, hT, hI, (bounds_i64 hk1).1, (bounds_i64 hk1).2⟩
    match j, hj with
    | 0, hj => rw [q0]; simpa using hj
    | 1, hj => rw [q1]; simpa using hj
    | 2, hj => rw [q2]; simpa using hj

set_option maxRecDepth 100000 in
theorem open_gos {H : Type} {enc : TypeId × Value → H} {W : World} {fuel : Nat} {cs : List Value} {x : DataW H × List MemPlace} (h : DataW.trod enc Tryz.prog W 0 (fun _ => true) true fuel 22 cs = some x)
    (hsz : ∀ n ∈ x.1.weights Tryz.prog 22, n ≤ reachBytes) : ∃ a cap gs, cs = [.slice a (List.length gs) cap] ∧ GosAt W a cap gs := by
  rcases open_slice Tryz.underlying22 h with ⟨rfl, rfl⟩ | ⟨a, len, cap, m, n, D, Pl, rfl, _, hl, hm9, hmm, rfl, hx⟩
  · exact ⟨none, 0, [], rfl, ⟨⟨Or.inl rfl, by simp, fun _ => rfl, by omega⟩, by simp⟩⟩
  · have hm : m = cap := by rw [hmm]; simp
    simp only [DataW.weights, Tryz.underlying22] at hsz
    have each : ∀ i, i < len → ∃ f : GoV, (∀ j u, (goE f)[j]? = some u → W.cell? (a.add (i * 3 + j)) = some u) ∧ GoOk W f := by
      intro i hi
      obtain ⟨cs', h1, h2⟩ := hx i (by omega)
      rw [cells_go] at h1
      have hmem : D i ∈ (List.range len).map D := List.mem_map.2 ⟨i, List.mem_range.2 (by omega), rfl⟩
      obtain ⟨f, hc, hok⟩ := open_go h1 h2 (fun n hn => hsz _ (List.mem_cons_of_mem _ (List.mem_append_left _ (weightsAll_mem hmem hn))))
      refine ⟨f, fun j u hj => ?_, hok⟩
      have := hc j u hj
      rwa [add_add] at this
    obtain ⟨gs, hlen, hgs⟩ := list_of len each
    refine ⟨some a, cap, gs, by rw [hlen], ⟨⟨lies_of goE_len (by omega) fun i hi j u hj => (hgs i hi).1 j u hj, by omega, by simp, by unfold maxLen at hm9; omega⟩, fun g hg => ?_⟩⟩
    obtain ⟨i, hi, rfl⟩ := List.getElem_of_mem hg
    exact (hgs i hi).2

end Go.Proofs.YtdlicndbdnfekaaGreatDoor.Wl
