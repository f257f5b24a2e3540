/- What an argument that is a list of rounds reads as. -/
import Derived.Test.YtgfmnffaknmcnaaGreatDoorGArgs
namespace Go.Proofs.YtgfmnffaknmcnaaGreatDoor.Sw
open Go.ChangeShapes Go.WideShapes Go.ChangeAt Go.RowKit Go.Deep Go.Joins Go.Proofs.YtgfmnffaknmcnaaGreatDoor.Gk

/-- a round, as it is handed -/
structure RdA where
  la : Option Addr
  lc : Nat
  lv : List Int
  pc : Int
  cut : Int
  da : Option Addr
  dc : Nat
  ds : List Int
abbrev rdE (x : RdA) : List Value := [.slice x.la x.lv.length x.lc, .int .i64 x.pc, .int .i64 x.cut, .slice x.da x.ds.length x.dc]
structure RdAt (W : World) (x : RdA) : Prop where
  lv : IntsAt W x.la x.lc x.lv
  ds : IntsAt W x.da x.dc x.ds
  pc : -9223372036854775808 ≤ x.pc ∧ x.pc ≤ 9223372036854775807
  cut : -9223372036854775808 ≤ x.cut ∧ x.cut ≤ 9223372036854775807
structure RdsAt (W : World) (a : Option Addr) (cap : Nat) (rs : List RdA) : Prop extends SliceAt W rdE a cap rs where
  each : ∀ x ∈ rs, RdAt W x
theorem rdE_len (x : RdA) : (rdE x).length = 4 := rfl
theorem cells_round : Tryz.prog.cellsOf 63 = 4 := by kernel_rfl
theorem cells_intsR : Tryz.prog.cellsOf 23 = 1 := by kernel_rfl
set_option maxRecDepth 100000 in
theorem open_round {H : Type} {enc : TypeId × Value → H} {W : World} {fuel : Nat} {a : Addr} {cs : List Value} {x : DataW H × List MemPlace} (hc : W.cells? 0 a 4 = some cs) (h : DataW.trod enc Tryz.prog W 0 (fun _ => true) true fuel 63 cs = some x) :
    ∃ f : RdA, (∀ j u, (rdE f)[j]? = some u → W.cell? (a.add j) = some u) ∧ RdAt W f := by
  obtain ⟨_, hlen, hcell⟩ := World.cells?_some hc
  obtain ⟨xs, n, _, rfl, hl, hxl, hf⟩ := DataW.trod_struct Tryz.underlying63 h
  match cs, hlen, xs, hxl with
  | [v0, v1, v2, v3], _, [y0, y1, y2, y3], _ =>
    have h0 := hf 0 _ rfl
    have h1 := hf 1 _ rfl
    have h2 := hf 2 _ rfl
    have h3 := hf 3 _ rfl
    simp [cells_int, cells_intsR] at h0 h1 h2 h3
    obtain ⟨a0, c0, ts, e0, hT⟩ := open_ints h0
    obtain ⟨k1, e1, _, hk1⟩ := DataW.trod_int Tryz.underlying3 h1
    obtain ⟨k2, e2, _, hk2⟩ := DataW.trod_int Tryz.underlying3 h2
    obtain ⟨ad, cap, ds, e3, hI⟩ := open_ints h3
    simp only [List.cons.injEq, and_true] at e0 e1 e2 e3
    subst e0 e1 e2 e3
    have q0 := hcell 0 (by omega)
    have q1 := hcell 1 (by omega)
    have q2 := hcell 2 (by omega)
    have q3 := hcell 3 (by omega)
    refine ⟨⟨a0, c0, ts, k1, k2, ad, cap, ds⟩, fun j u hj => ?_, hT, hI, bounds_i64 hk1, bounds_i64 hk2⟩
    match j, hj with
    | 0, hj => rw [q0]; simpa using hj
    | 1, hj => rw [q1]; simpa using hj
    | 2, hj => rw [q2]; simpa using hj
    | 3, hj => rw [q3]; simpa using hj

set_option maxRecDepth 100000 in
theorem open_rounds {H : Type} {enc : TypeId × Value → H} {W : World} {fuel : Nat} {cs : List Value} {x : DataW H × List MemPlace} (h : DataW.trod enc Tryz.prog W 0 (fun _ => true) true fuel 59 cs = some x) : ∃ a cap gs, cs = [.slice a (List.length gs) cap] ∧ RdsAt W a cap gs := by
  rcases open_slice Tryz.underlying59 h with ⟨rfl, rfl⟩ | ⟨a, len, cap, m, n, D, Pl, rfl, _, hl, hm9, hmm, rfl, hx⟩
  · exact ⟨none, 0, [], rfl, ⟨⟨Or.inl rfl, by simp, fun _ => rfl, by omega⟩, by simp⟩⟩
  · have hm : m = cap := by rw [hmm]; simp
    have each : ∀ i, i < len → ∃ f : RdA, (∀ j u, (rdE f)[j]? = some u → W.cell? (a.add (i * 4 + j)) = some u) ∧ RdAt W f := by
      intro i hi
      obtain ⟨cs', h1, h2⟩ := hx i (by omega)
      rw [cells_round] at h1
      obtain ⟨f, hc, hok⟩ := open_round h1 h2
      refine ⟨f, fun j u hj => ?_, hok⟩
      have := hc j u hj
      rwa [add_add] at this
    obtain ⟨gs, hlen, hgs⟩ := list_of len each
    refine ⟨some a, cap, gs, by rw [hlen], ⟨⟨lies_of rdE_len (by omega) fun i hi j u hj => (hgs i hi).1 j u hj, by omega, by simp, by unfold maxLen at hm9; omega⟩, fun g hg => ?_⟩⟩
    obtain ⟨i, hi, rfl⟩ := List.getElem_of_mem hg
    exact (hgs i hi).2

end Go.Proofs.YtgfmnffaknmcnaaGreatDoor.Sw
