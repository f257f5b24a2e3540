/- Layer 15: what arguments that are lists of calls, or of stretches, read as. Layer 15, the laws: call. Layer 15, the laws: what was told last, and where arguments lie, in worlds that come behind. -/
import Derived.Test.YtnmgiiiafefgdaaGreatGArgs
import Derived.Test.YtnmgiiiafefgdaaGreatRlRep
import Derived.Test.YtnmgiiiafefgdaaGreatBaWk
import Derived.Test.YtnmgiiiafefgdaaGreatGAmong
import Derived.Test.YtnmgiiiafefgdaaGreatDFuse
namespace Go.Proofs.YtnmgiiiafefgdaaGreat.Ba
open Go.ChangeShapes Go.WideShapes Go.ChangeAt Go.RowKit Go.Deep Go.Joins Go.Proofs.YtnmgiiiafefgdaaGreat.Gk
open Go.Proofs.YtnmgiiiafefgdaaGreat.Rl (En eenc eenc_len)

theorem cells_en : Tryz.prog.cellsOf 66 = 2 := by kernel_rfl
theorem cells_ens : Tryz.prog.cellsOf 39 = 1 := by kernel_rfl
theorem cells_act : Tryz.prog.cellsOf 42 = 6 := by kernel_rfl
theorem cells_intl : Tryz.prog.cellsOf 40 = 1 := by kernel_rfl
theorem cells_acts : Tryz.prog.cellsOf 22 = 1 := by kernel_rfl
theorem cells_goes : Tryz.prog.cellsOf 50 = 3 := by kernel_rfl

/-- a list of elements, from how one is read -/
theorem open_rows {H α : Type} {enc : TypeId × Value → H} {W : World} {fuel : Nat} {cs : List Value} {x : DataW H × List MemPlace} {T E : TypeId} {k : Nat} (hT : Tryz.prog.underlying T = some (.slice E)) (hk : Tryz.prog.cellsOf E = k) (hk0 : 0 < k) (en : α → List Value) (hen : ∀ y, (en y).length = k) (P : α → Prop)
    (one : ∀ (fuel : Nat) (a : Addr) (cs : List Value) (x : DataW H × List MemPlace), W.cells? 0 a k = some cs → DataW.trod enc Tryz.prog W 0 (fun _ => true) true fuel E cs = some x → ∃ f : α, (∀ j u, (en f)[j]? = some u → W.cell? (a.add j) = some u) ∧ P f)
    (h : DataW.trod enc Tryz.prog W 0 (fun _ => true) true fuel T cs = some x) : ∃ a cap l, cs = [.slice a (List.length l) cap] ∧ SliceAt W en a cap l ∧ ∀ y ∈ l, P y := by
  rcases open_slice hT h with ⟨rfl, rfl⟩ | ⟨a, len, cap, m, n, D, Pl, rfl, _, hl, hm9, hmm, rfl, hx⟩
  · exact ⟨none, 0, [], rfl, ⟨Or.inl rfl, by simp, fun _ => rfl, by omega⟩, by simp⟩
  · have hm : m = cap := by rw [hmm]; simp
    have each : ∀ i, i < len → ∃ f : α, (∀ j u, (en f)[j]? = some u → W.cell? (a.add (i * k + j)) = some u) ∧ P f := by
      intro i hi
      obtain ⟨cs', h1, h2⟩ := hx i (by omega)
      rw [hk] at h1
      obtain ⟨f, hc, hok⟩ := one _ _ _ _ h1 h2
      refine ⟨f, fun j u hj => ?_, hok⟩
      have := hc j u hj
      rwa [add_add] at this
    obtain ⟨gs, hlen, hgs⟩ := list_of len each
    refine ⟨some a, cap, gs, by rw [hlen], ⟨lies_of hen hk0 fun i hi j u hj => (hgs i hi).1 j u hj, by omega, by simp, by unfold maxLen at hm9; omega⟩, fun g hg => ?_⟩
    obtain ⟨i, hi, rfl⟩ := List.getElem_of_mem hg
    exact (hgs i hi).2

set_option maxRecDepth 100000 in
theorem open_en {H : Type} {enc : TypeId × Value → H} {W : World} (fuel : Nat) (a : Addr) (cs : List Value) (x : DataW H × List MemPlace) (hc : W.cells? 0 a 2 = some cs) (h : DataW.trod enc Tryz.prog W 0 (fun _ => true) true fuel 66 cs = some x) :
    ∃ f : En, (∀ j u, (eenc f)[j]? = some u → W.cell? (a.add j) = some u) ∧ True := by
  obtain ⟨_, hlen, hcell⟩ := World.cells?_some hc
  obtain ⟨xs, n, _, rfl, hl, hxl, hf⟩ := DataW.trod_struct Tryz.underlying66 h
  match cs, hlen, xs, hxl with
  | [v0, v1], _, [y0, y1], _ =>
    have h0 := hf 0 _ rfl
    have h1 := hf 1 _ rfl
    simp [cells_int, cells_string] at h0 h1
    obtain ⟨k0, e0, _, _⟩ := DataW.trod_int Tryz.underlying3 h0
    obtain ⟨s1, e1, _⟩ := DataW.trod_string Tryz.underlying9 h1
    simp only [List.cons.injEq, and_true] at e0 e1
    subst e0 e1
    have q0 := hcell 0 (by omega)
    have q1 := hcell 1 (by omega)
    refine ⟨⟨k0, s1⟩, fun j u hj => ?_, trivial⟩
    match j, hj with
    | 0, hj => rw [q0]; simpa [eenc] using hj
    | 1, hj => rw [q1]; simpa [eenc] using hj
theorem open_ens {H : Type} {enc : TypeId × Value → H} {W : World} {fuel : Nat} {cs : List Value} {x : DataW H × List MemPlace} (h : DataW.trod enc Tryz.prog W 0 (fun _ => true) true fuel 39 cs = some x) : ∃ a cap l, cs = [.slice a (List.length l) cap] ∧ SliceAt W eenc a cap l := by
  obtain ⟨a, cap, l, e, hs, _⟩ := open_rows Tryz.underlying39 cells_en (by decide) eenc eenc_len (fun _ => True) (fun fuel a cs x => open_en fuel a cs x) h
  exact ⟨a, cap, l, e, hs⟩

/-- a call, as it is handed -/
structure AcV where
  k : Int
  n : Int
  t : Int
  d : ByteArray
  la : Option Addr
  lc : Nat
  l : List En
  da : Option Addr
  dc : Nat
  ds : List Int
abbrev acE (x : AcV) : List Value := [.int .i64 x.k, .int .i64 x.n, .int .i64 x.t, .string x.d, .slice x.la x.l.length x.lc, .slice x.da x.ds.length x.dc]
theorem acE_len (x : AcV) : (acE x).length = 6 := rfl
structure AcOk (W : World) (x : AcV) : Prop where
  l : SliceAt W eenc x.la x.lc x.l
  ds : IntsAt W x.da x.dc x.ds
  k : -9223372036854775808 ≤ x.k ∧ x.k ≤ 9223372036854775807
  n : -9223372036854775808 ≤ x.n ∧ x.n ≤ 9223372036854775807
structure AcsAt (W : World) (a : Option Addr) (cap : Nat) (l : List AcV) : Prop extends SliceAt W acE a cap l where
  each : ∀ x ∈ l, AcOk W x
set_option maxRecDepth 100000 in
theorem open_ac {H : Type} {enc : TypeId × Value → H} {W : World} (fuel : Nat) (a : Addr) (cs : List Value) (x : DataW H × List MemPlace) (hc : W.cells? 0 a 6 = some cs) (h : DataW.trod enc Tryz.prog W 0 (fun _ => true) true fuel 42 cs = some x) :
    ∃ f : AcV, (∀ j u, (acE f)[j]? = some u → W.cell? (a.add j) = some u) ∧ AcOk W f := by
  obtain ⟨_, hlen, hcell⟩ := World.cells?_some hc
  obtain ⟨xs, n, _, rfl, hl, hxl, hf⟩ := DataW.trod_struct Tryz.underlying42 h
  match cs, hlen, xs, hxl with
  | [v0, v1, v2, v3, v4, v5], _, [y0, y1, y2, y3, y4, y5], _ =>
    have h0 := hf 0 _ rfl
    have h1 := hf 1 _ rfl
    have h2 := hf 2 _ rfl
    have h3 := hf 3 _ rfl
    have h4 := hf 4 _ rfl
    have h5 := hf 5 _ rfl
    simp [cells_int, cells_string, cells_ens, cells_intl] at h0 h1 h2 h3 h4 h5
    obtain ⟨k0, e0, _, hk0⟩ := DataW.trod_int Tryz.underlying3 h0
    obtain ⟨k1, e1, _, hk1⟩ := DataW.trod_int Tryz.underlying3 h1
    obtain ⟨k2, e2, _, _⟩ := DataW.trod_int Tryz.underlying3 h2
    obtain ⟨s3, e3, _⟩ := DataW.trod_string Tryz.underlying9 h3
    obtain ⟨a4, c4, l4, e4, hl4⟩ := open_ens h4
    obtain ⟨a5, c5, l5, e5, hl5⟩ := open_ints h5
    simp only [List.cons.injEq, and_true] at e0 e1 e2 e3 e4 e5
    subst e0 e1 e2 e3 e4 e5
    have q0 := hcell 0 (by omega)
    have q1 := hcell 1 (by omega)
    have q2 := hcell 2 (by omega)
    have q3 := hcell 3 (by omega)
    have q4 := hcell 4 (by omega)
    have q5 := hcell 5 (by omega)
    refine ⟨⟨k0, k1, k2, s3, a4, c4, l4, a5, c5, l5⟩, fun j u hj => ?_, hl4, hl5, bounds_i64 hk0, bounds_i64 hk1⟩
    match j, hj with
    | 0, hj => rw [q0]; simpa using hj
    | 1, hj => rw [q1]; simpa using hj
    | 2, hj => rw [q2]; simpa using hj
    | 3, hj => rw [q3]; simpa using hj
    | 4, hj => rw [q4]; simpa using hj
    | 5, hj => rw [q5]; simpa using hj
theorem open_acts {H : Type} {enc : TypeId × Value → H} {W : World} {fuel : Nat} {cs : List Value} {x : DataW H × List MemPlace} (h : DataW.trod enc Tryz.prog W 0 (fun _ => true) true fuel 22 cs = some x)
    (_ : ∀ n ∈ x.1.weights Tryz.prog 22, n ≤ reachBytes) : ∃ a cap l, cs = [.slice a (List.length l) cap] ∧ AcsAt W a cap l := by
  obtain ⟨a, cap, l, e, hs, he⟩ := open_rows Tryz.underlying22 cells_act (by decide) acE acE_len (AcOk W) (fun fuel a cs x => open_ac fuel a cs x) h
  exact ⟨a, cap, l, e, ⟨hs, he⟩⟩
theorem open_acts' {H : Type} {enc : TypeId × Value → H} {W : World} {fuel : Nat} {cs : List Value} {x : DataW H × List MemPlace} (h : DataW.trod enc Tryz.prog W 0 (fun _ => true) true fuel 22 cs = some x) : ∃ a cap l, cs = [.slice a (List.length l) cap] ∧ AcsAt W a cap l := by
  obtain ⟨a, cap, l, e, hs, he⟩ := open_rows Tryz.underlying22 cells_act (by decide) acE acE_len (AcOk W) (fun fuel a cs x => open_ac fuel a cs x) h
  exact ⟨a, cap, l, e, ⟨hs, he⟩⟩

/-- a stretch, as it is handed -/
structure GoV where
  la : Option Addr
  lc : Nat
  l : List AcV
  fuse : Int
  da : Option Addr
  dc : Nat
  ds : List Int
abbrev goE (g : GoV) : List Value := [.slice g.la g.l.length g.lc, .int .i64 g.fuse, .slice g.da g.ds.length g.dc]
theorem goE_len (g : GoV) : (goE g).length = 3 := rfl
structure GoOk (W : World) (g : GoV) : Prop where
  l : AcsAt W g.la g.lc g.l
  ds : IntsAt W g.da g.dc g.ds
  f : -9223372036854775808 ≤ g.fuse ∧ g.fuse ≤ 9223372036854775807
structure GosAt (W : World) (a : Option Addr) (cap : Nat) (gs : List GoV) : Prop extends SliceAt W goE a cap gs where
  each : ∀ g ∈ gs, GoOk W g
set_option maxRecDepth 100000 in
theorem open_go {H : Type} {enc : TypeId × Value → H} {W : World} (fuel : Nat) (a : Addr) (cs : List Value) (x : DataW H × List MemPlace) (hc : W.cells? 0 a 3 = some cs) (h : DataW.trod enc Tryz.prog W 0 (fun _ => true) true fuel 50 cs = some x) :
    ∃ f : GoV, (∀ j u, (goE f)[j]? = some u → W.cell? (a.add j) = some u) ∧ GoOk W f := by
  obtain ⟨_, hlen, hcell⟩ := World.cells?_some hc
  obtain ⟨xs, n, _, rfl, hl, hxl, hf⟩ := DataW.trod_struct Tryz.underlying50 h
  match cs, hlen, xs, hxl with
  | [v0, v1, v2], _, [y0, y1, y2], _ =>
    have h0 := hf 0 _ rfl
    have h1 := hf 1 _ rfl
    have h2 := hf 2 _ rfl
    simp [cells_int, cells_acts, cells_intl] at h0 h1 h2
    obtain ⟨a0, c0, l0, e0, hl0⟩ := open_acts' h0
    obtain ⟨k1, e1, _, hk1⟩ := DataW.trod_int Tryz.underlying3 h1
    obtain ⟨a2, c2, l2, e2, hl2⟩ := open_ints h2
    simp only [List.cons.injEq, and_true] at e0 e1 e2
    subst e0 e1 e2
    have q0 := hcell 0 (by omega)
    have q1 := hcell 1 (by omega)
    have q2 := hcell 2 (by omega)
    refine ⟨⟨a0, c0, l0, k1, a2, c2, l2⟩, fun j u hj => ?_, hl0, hl2, bounds_i64 hk1⟩
    match j, hj with
    | 0, hj => rw [q0]; simpa using hj
    | 1, hj => rw [q1]; simpa using hj
    | 2, hj => rw [q2]; simpa using hj
theorem open_gos {H : Type} {enc : TypeId × Value → H} {W : World} {fuel : Nat} {cs : List Value} {x : DataW H × List MemPlace} (h : DataW.trod enc Tryz.prog W 0 (fun _ => true) true fuel 44 cs = some x)
    (_ : ∀ n ∈ x.1.weights Tryz.prog 44, n ≤ reachBytes) : ∃ a cap gs, cs = [.slice a (List.length gs) cap] ∧ GosAt W a cap gs := by
  obtain ⟨a, cap, l, e, hs, he⟩ := open_rows Tryz.underlying44 cells_goes (by decide) goE goE_len (GoOk W) (fun fuel a cs x => open_go fuel a cs x) h
  exact ⟨a, cap, l, e, ⟨hs, he⟩⟩
end Go.Proofs.YtnmgiiiafefgdaaGreat.Ba

namespace Go.Proofs.YtnmgiiiafefgdaaGreat.Ba
open Go.RowKit Go.Joins Go.Proofs.YtnmgiiiafefgdaaGreat.Gk
open Go.Proofs.YtnmgiiiafefgdaaGreat.Dk (St Bs)
open Go.Proofs.YtnmgiiiafefgdaaGreat.Rl (En Lo LH ER ptr blk eenc EnT EnsT step_er)

abbrev AcT : TypeId := 42
abbrev acA (x : AcV) : Value := .agg #[.int .i64 x.k, .int .i64 x.n, .int .i64 x.t, .string x.d, .slice x.la x.l.length x.lc, .slice x.da x.ds.length x.dc]
/-- a ballot and its file, as the laws have them -/
structure Lw (w : World) (bb bd : Nat) (S : St) (s : Bl) (rs : List Rc) (X : Nat → Prop) : Prop where
  b : BB w bb bd 3 S s X
  d : DI 3 S rs
  s : s = run Bl.new rs
section
variable {w : World} {bb bd : Nat} {S : St} {s : Bl} {rs : List Rc} {X : Nat → Prop}
theorem Lw.ok (h : Lw w bb bd S s rs X) : s.Ok 3 := by rw [h.s]; exact (Bl.Ok.new (by decide)).run h.d.oks
theorem Lw.many (h : Lw w bb bd S s rs X) : s.es.length ≤ 32768 := by rw [h.s]; exact (h.d.many h.b.ok).1
theorem Lw.es (h : Lw w bb bd S s rs X) : Es s.es := h.ok.es (by have := h.many; omega)
theorem Lw.below {w' : World} (h : Lw w bb bd S s rs X) (hb : Below w.heap.size w w') : Lw w' bb bd S s rs X := ⟨h.b.below hb, h.d, h.s⟩
end
theorem max3 {P : Program} {w : World} (ts : Array TypeId) (t : TypeId) (k k' k'' : IntKind) (x y z : Int) (h1 : x ≤ z) (h2 : y ≤ z) : (Builtin.max_ ts t #[.int k x, .int k' y, .int k'' z]).run P w = .ok (.int k z) w := by
  rw [run_max_int3]
  have : (if z > (if y > x then y else x) then z else (if y > x then y else x)) = z := by split <;> (try split) <;> omega
  rw [this]
/-- a call's box -/
theorem box_act (w : World) (x : AcV) : (w.alloc (.cells #[.int .i64 x.k, .int .i64 x.n, .int .i64 x.t, .string x.d, .slice x.la x.l.length x.lc, .slice x.da x.ds.length x.dc] AcT)).heap[w.heap.size]? = some (.cells #[.int .i64 x.k, .int .i64 x.n, .int .i64 x.t, .string x.d, .slice x.la x.l.length x.lc, .slice x.da x.ds.length x.dc] AcT (0, 0)) := heap_alloc_new w _
section
variable {bb bd : Nat} {S : St} {s : Bl} {rs : List Rc} {X : Nat → Prop}
set_option maxRecDepth 100000 in
set_option maxHeartbeats 8000000 in
theorem call_any (x : AcV) (w : World) (h : Lw w bb bd S s rs X) (hx : AcOk w x) :
    Calls Tryz.prog 19 #[ptr bb, acA x] w fun r w' => ∃ c S' s' X', r = .returned (.int .i64 c) ∧ BB w' bb bd 3 S' s' X' ∧ Out 3 S s rs c S' s' ∧ Tu X X' w w' := by
  obtain ⟨W0, hW0⟩ : ∃ W0, w.alloc (.cells #[.int .i64 x.k, .int .i64 x.n, .int .i64 x.t, .string x.d, .slice x.la x.l.length x.lc, .slice x.da x.ds.length x.dc] AcT) = W0 := ⟨_, rfl⟩
  have hb0 : Below w.heap.size w W0 := by rw [← hW0]; exact (Below.refl _ _).alloc (Nat.le_refl _) _
  have hx0 : W0.heap[w.heap.size]? = some (.cells #[.int .i64 x.k, .int .i64 x.n, .int .i64 x.t, .string x.d, .slice x.la x.l.length x.lc, .slice x.da x.ds.length x.dc] AcT (0, 0)) := by rw [← hW0]; exact heap_alloc_new w _
  have hz0 : w.heap.size < W0.heap.size := (Array.getElem?_eq_some_iff.1 hx0).1
  have h0 := h.below hb0
  have x0 := cell_of_block hx0 0
  have x1 := cell_of_block hx0 1
  have x3 := cell_of_block hx0 3
  have x4 := cell_of_block hx0 4
  have hok := h.ok
  have hm := h.many
  have hes := h.es
  have hT0 := hok.t0
  have hT1 := hok.t1
  have HA := hide (among_any x.k 4 W0 (by decide) (by decide) hx.k.1 hx.k.2)
  have hk4 : 0 ≤ x.k % 4 ∧ x.k % 4 < 4 := by omega
  have H0 := hide h0
  have HX := hide hx
  have HB0 := hide hb0
  have HX0 := hide hx0
  clear h0 hx hx0 hb0
  go_enter Tryz.func19, Tryz.ntmps19
  go_wp2_with fail
  clear hW0
  refine HA.out.mono ?_
  clear HA
  rintro r w1 ⟨rfl, rfl⟩
  have hk : x.k % 4 = 0 ∨ x.k % 4 = 1 ∨ x.k % 4 = 2 ∨ x.k % 4 = 3 := by omega
  generalize x.k % 4 = kk at *
  rcases hk with rfl | rfl | rfl | rfl
  · have ha3 := among_any x.n 3 W0.drew (by decide) (by decide) HX.out.n.1 HX.out.n.2
    have hr3 : 0 ≤ x.n % 3 ∧ x.n % 3 < 3 := by omega
    have HT := hide (Term_any W0.drew (H0.out.b.below (Below.refl _ W0).drew))
    generalize x.n % 3 = nn at *
    have HTu := hide (Turn_any (s.t + 1 + nn) W0.drew (H0.out.b.below (Below.refl _ W0).drew))
    have i1 : IntKind.i64.wrap (s.t + 1) = s.t + 1 := wrap_in (by omega) (by omega)
    have i2 : IntKind.i64.wrap (s.t + 1 + nn) = s.t + 1 + nn := wrap_in (by omega) (by omega)
    have HO := hide (trn_out (s.t + 1 + nn) H0.out.b.ok h.d h.s (by decide))
    go_wp2
    go_region_law (first | (go_simp; go_at_call 21; refine HT.out.mono ?_; rintro r w2 ⟨rfl, rfl⟩) | (go_simp; go_at_call 18; refine ha3.mono ?_; rintro r w2 ⟨rfl, rfl⟩) | (go_simp; go_at_call 24; refine HTu.out.mono ?_; rintro r w2 ⟨rfl, X2, hB2, hT2⟩))
    all_goals
      go_wp2
      go_ret
      exact ⟨_, _, _, X2, rfl, hB2, HO.out, (Tu.of_below HB0.out.drew).trans hT2⟩
  · have ha3 := among_any x.n 3 W0 (by decide) (by decide) HX.out.n.1 HX.out.n.2
    generalize x.n % 3 = nn at *
    have HC := hide (Cast_any nn W0 H0.out.b hok (by decide))
    have HO := hide (cst_out nn H0.out.b.ok h.d h.s (by decide) (by decide))
    go_wp2_with (first | (go_at_call 18; refine ha3.mono ?_; rintro r w2 ⟨rfl, rfl⟩))
    refine HC.out.mono ?_
    rintro r w2 ⟨rfl, X2, hB2, hT2⟩
    go_wp2
    go_ret
    exact ⟨_, _, _, X2, rfl, hB2, HO.out, (Tu.of_below HB0.out).trans hT2⟩
  · have HC := hide (Append_any x.d W0 H0.out.b hok (by omega))
    have HO := hide (mgd_out s.es.length [⟨s.t, x.d⟩] H0.out.b.ok h.d h.s (by decide) (Nat.le_refl _) (by simp))
    generalize mgd S s s.es.length [⟨s.t, x.d⟩] = R at *
    go_wp2_with fail
    refine HC.out.mono ?_
    rintro r w2 ⟨rfl, X2, hB2, hT2⟩
    go_wp2
    go_ret
    exact ⟨_, _, _, X2, rfl, hB2, HO.out, (Tu.of_below HB0.out).trans hT2⟩
  · have HLo := hide (Log_any W0 H0.out.b hes)
    go_wp2_with fail
    refine HLo.out.mono ?_
    clear HLo
    rintro r w1 ⟨bl1, rfl, hM1⟩
    obtain ⟨v1, hL1⟩ := hM1.log
    have HLa := hide (Rl.Last_any bl1 ⟨0, 0, s.es⟩ v1 w1 hL1 (by show 0 + s.es.length ≤ _; omega))
    rw [show (⟨0, 0, s.es⟩ : Lo).last = s.es.length by show 0 + s.es.length = _; omega] at HLa
    have HB1 := hide hM1.bel
    generalize (⟨0, 0, s.es⟩ : Lo).tm s.es.length = lt1 at *
    clear hM1 hL1
    go_wp2_with fail
    refine HLa.out.mono ?_
    clear HLa
    rintro r w2 ⟨rfl, q, rfl⟩
    have HB2 := hide (HB1.out.trans ((below_drewN (Below.refl w1.heap.size w1) q).mono HB1.out.size))
    generalize w1.drewN q = w2 at *
    have y1 := cell_of_block ((HB2.out.block _ hz0).trans HX0.out) 1
    have HAm := hide (among_any x.n ((s.es.length : Int) + 1) w2 (by omega) (by omega) HX.out.n.1 HX.out.n.2)
    obtain ⟨p, hp, hpl⟩ : ∃ p : Nat, x.n % ((s.es.length : Int) + 1) = p ∧ p ≤ s.es.length := by
      have h1 := Int.emod_nonneg x.n (show ((s.es.length : Int) + 1) ≠ 0 by omega)
      have h2 := Int.emod_lt_of_pos x.n (show 0 < ((s.es.length : Int) + 1) by omega)
      exact ⟨(x.n % ((s.es.length : Int) + 1)).toNat, by omega, by omega⟩
    rw [hp] at HAm
    have i1 : IntKind.i64.wrap ((s.es.length : Int) + 1) = (s.es.length : Int) + 1 := wrap_in (by omega) (by omega)
    clear x0 x1 x3 x4 HB1 hp
    go_wp2_with fail
    refine HAm.out.mono ?_
    clear HAm
    rintro r w3 ⟨rfl, rfl⟩
    have h2 := H0.out.below HB2.out
    have HLo := hide (Log_any w2 h2.b hes)
    go_wp2_with fail
    refine HLo.out.mono ?_
    clear HLo y1
    rintro r w3 ⟨bl3, rfl, hM3⟩
    obtain ⟨v3, hL3⟩ := hM3.log
    have HTm := hide (Rl.Term_yes bl3 ⟨0, 0, s.es⟩ v3 p w3 hL3 (by show 0 + s.es.length ≤ _; omega) (Nat.zero_le _) (by show p ≤ 0 + s.es.length; omega))
    have HB3 := hide (HB2.out.trans (hM3.bel.mono HB2.out.size))
    have htm : (⟨0, 0, s.es⟩ : Lo).tm p ≤ s.t ∧ 0 ≤ (⟨0, 0, s.es⟩ : Lo).tm p := by
      rw [← lt_take _ _ hpl]
      unfold lt
      cases hg : (s.es.take p).getLast? with
      | none => simp; omega
      | some e =>
        have := List.mem_of_mem_take (List.mem_of_getLast? hg)
        have := hok.each e this
        simp; omega
    obtain ⟨tm, hTM⟩ : ∃ tm, (⟨0, 0, s.es⟩ : Lo).tm p = tm := ⟨_, rfl⟩
    have HTM := hide hTM
    rw [hTM] at HTm htm
    clear hTM hM3 hL3 HB2 h2
    go_wp2_with fail
    refine HTm.out.mono ?_
    clear HTm
    rintro r w4 ⟨rfl, q4, rfl⟩
    have HB4 := hide (HB3.out.trans ((below_drewN (Below.refl w3.heap.size w3) q4).mono HB3.out.size))
    generalize w3.drewN q4 = w4 at *
    clear HB3
    go_wp2
    have htm1 := htm.1
    go_loopw [12, 13] (fun vl iv W => ∃ k : Nat, k ≤ x.l.length ∧ k ≤ 4 ∧ iv = .int .i64 k ∧ ER W vl ((x.l.take k).map fun e => ⟨s.t, e.d⟩) ∧ (∀ g, blk vl = some g → W0.heap.size ≤ g) ∧ Below W0.heap.size W0 W) (fun _ iv _ => x.l.length - (intOf iv).toNat)
    case atStart => exact ⟨0, Nat.zero_le _, Nat.zero_le _, rfl, ER.nil _, (fun g hg => by cases hg), HB4.out⟩
    case round =>
      obtain ⟨k, hk1, hk2, rfl, hE, hN, hB⟩ := hrel
      clear HB4
      have hxb := (hB.block _ hz0).trans HX0.out
      have y4 : wr.cell? ⟨w.heap.size, 4, none⟩ = some (.slice x.la x.l.length x.lc) := by rw [cell_of_block hxb]; rfl
      have hLen : ((x.l.take k).map fun e => (⟨s.t, e.d⟩ : En)).length = k := by rw [List.length_map, List.length_take]; omega
      obtain ⟨al, cl, rfl, hzl, _, _⟩ := hE.slice
      rw [hLen] at hE hN ⊢
      have hW := H0.out.below hB
      have HT := hide (fun W (hb : Below wr.heap.size wr W) => Term_any W (hW.b.below hb))
      have hHE := hide hE
      have hzwr : w.heap.size < wr.heap.size := (Array.getElem?_eq_some_iff.1 hxb).1
      refine (Classical.em (k < x.l.length ∧ k < 4 ∧ 0 < s.t)).elim (fun hgo => ?g1) (fun hgo => ?g2)
      case g1 =>
        obtain ⟨hgo1, hgo2, hgo3⟩ := hgo
        obtain ⟨b, off, ea, hbl, hc⟩ := ((HX.out.l.lies.below HB0.out).below hB).at Rl.eenc_len k hgo1
        have z1 := hc 1 _ rfl
        clear hc
        have HTK := hide (show (x.l.take (k + 1)).map (fun e => (⟨s.t, e.d⟩ : En)) = (x.l.take k).map (fun e => (⟨s.t, e.d⟩ : En)) ++ [⟨s.t, x.l[k].d⟩] by rw [List.take_succ_eq_append_getElem hgo1, List.map_append]; rfl)
        generalize x.l[k] = e0 at *
        rw [ea] at y4
        have ht1 : (1 : Int) ≤ s.t := by omega
        have hba := hide (((Below.refl wr.heap.size wr).drew).alloc (Nat.le_refl _) (.cells (eenc ⟨s.t, e0.d⟩).toArray EnT))
        clear hE
        have HTd := hide (HT.out wr.drew (Below.refl _ wr).drew)
        go_wp2_with (first | (go_at_call 21; refine (HT.out wr (Below.refl _ _)).mono ?_; rintro r w5 ⟨rfl, hw5⟩; rw [hw5]; clear hw5))
        have hmax : ∀ (W : World) (ts : Array TypeId) (t : TypeId), (Builtin.max_ ts t #[.int .i64 1, .int .i64 tm, .int .i64 s.t]).run Tryz.prog W = .ok (.int .i64 s.t) W := fun W ts t => max3 ts t .i64 .i64 .i64 1 tm s.t ht1 htm1
        have hba2 := hide (((Below.refl wr.heap.size wr).drew).alloc (Nat.le_refl _) (.cells (eenc ⟨s.t, e0.d⟩).toArray EnT))
        go_region_law (first | (go_simp; go_at_call 21; refine HTd.out.mono ?_; rintro r w6 ⟨rfl, hw6⟩; rw [hw6]; clear hw6) | (refine step_er rfl (.tmp 81) (.tmp 93) rfl _ _ rfl (hHE.out.below hba2.out) wr.heap.size ⟨s.t, e0.d⟩ rfl (heap_alloc_new wr.drew _) (by rw [hLen]; omega) ?_; intro ad cap3 w7 her hg7 hat7))
        all_goals
          have HB7 := hide ((hB.trans (hba2.out.mono hB.size)).grown hg7 (Nat.le_trans hB.size hba2.out.size) (fun g hg => hN g hg))
          rw [hLen] at her hat7
          have HE7 := hide her
          have HN7 := hide (show ∀ g, blk (.slice ad (k + 1) cap3) = some g → W0.heap.size ≤ g from fun g hg => by
            rcases hat7 g hg with e | e
            · exact hN g e
            · exact Nat.le_trans (Nat.le_trans hB.size hba2.out.size) e)
          clear her hg7 hat7 hba2 hba z1 y4 hmax
          go_wp2
          go_roundw
          case rel => exact ⟨k + 1, by omega, by omega, by go_num, by rw [HTK.out]; exact HE7.out, HN7.out, HB7.out⟩
          case measure => simp [intOf]; omega
      case g2 =>
        have hMl : Gk.Lies wr eenc al ((x.l.take k).map fun e => (⟨s.t, e.d⟩ : En)) := hE.lies
        have HMg := hide (Merge_any p al cl ((x.l.take k).map fun e => (⟨s.t, e.d⟩ : En)) wr hW.b hok (by omega) hpl hMl (by rw [hLen]; omega) (fun e he => by
          obtain ⟨y, _, rfl⟩ := List.mem_map.1 he; exact Int.le_refl _) (fun _ b off e hX => by
          have h1 := H0.out.b.lt hX
          have h2 := hN b (by rw [e]; rfl)
          omega))
        rw [hLen, show s.lo.tm p = tm from HTM.out] at HMg
        have HO := hide (mgd_out p ((x.l.take k).map fun e => (⟨s.t, e.d⟩ : En)) hW.b.ok h.d h.s (by decide) hpl (fun e he => by
          obtain ⟨y, _, rfl⟩ := List.mem_map.1 he; exact Int.le_refl _))
        generalize mgd S s p ((x.l.take k).map fun e => (⟨s.t, e.d⟩ : En)) = R at *
        have HBW := hide (HB0.out.trans (hB.mono HB0.out.size))
        have hHT := hide (HT.out wr (Below.refl _ _))
        clear hE hHE hMl hW HT hB hN hLen
        by_cases c1 : k < x.l.length
        · by_cases c2 : k < 4
          · have hz : s.t = 0 := by omega
            have HZ := hide hz
            rw [hz] at hHT
            clear hz
            go_wp2_with (first | (go_at_call 21; refine hHT.out.mono ?_; rintro r w5 ⟨rfl, hw5⟩; rw [hw5]; clear hw5))
            refine HMg.out.mono ?_
            rintro r w6 ⟨rfl, X6, hB6, hT6⟩
            go_wp2
            go_ret
            exact ⟨_, _, _, X6, rfl, hB6, HO.out, (Tu.of_below HBW.out).trans hT6⟩
          · go_wp2_with fail
            refine HMg.out.mono ?_
            rintro r w6 ⟨rfl, X6, hB6, hT6⟩
            go_wp2
            go_ret
            exact ⟨_, _, _, X6, rfl, hB6, HO.out, (Tu.of_below HBW.out).trans hT6⟩
        · go_wp2_with fail
          refine HMg.out.mono ?_
          rintro r w6 ⟨rfl, X6, hB6, hT6⟩
          go_wp2
          go_ret
          exact ⟨_, _, _, X6, rfl, hB6, HO.out, (Tu.of_below HBW.out).trans hT6⟩
end
end Go.Proofs.YtnmgiiiafefgdaaGreat.Ba

namespace Go.Proofs.YtnmgiiiafefgdaaGreat.Ba
open Go.RowKit Go.Joins Go.Proofs.YtnmgiiiafefgdaaGreat.Gk
open Go.Proofs.YtnmgiiiafefgdaaGreat.Dk (St Bs)
open Go.Proofs.YtnmgiiiafefgdaaGreat.Rl (En Lo LH ER ptr blk eenc EnT EnsT)

theorem BB.frame {w w' : World} {bb bd : Nat} {n : Int} {S : St} {s : Bl} {X : Nat → Prop} (h : BB w bb bd n S s X) (hz : w.heap.size ≤ w'.heap.size) (hs : ∀ k, X k → w'.heap[k]? = w.heap[k]?) : BB w' bb bd n S s X := by
  obtain ⟨bl, v, D, h, rfl⟩ := h
  have e := Rl.own_same (bl := bl) (hs bl (Or.inr (Or.inr (Or.inl rfl))))
  exact ⟨bl, v, D, ⟨(hs bb (Or.inr (Or.inl rfl))).trans h.box, h.disk.frame hz fun k hk => hs k (Or.inl hk), h.log.stay fun k hk => hs k (Or.inr (Or.inr hk)), h.nb, fun k hk => h.nl k (by rw [← e]; exact hk)⟩, by unfold bo; rw [e]⟩
/-- what was told lies there -/
structure LB (w W : World) (bL : Nat) (s : Bl) (a : Option Addr) (c : Nat) (X : Nat → Prop) : Prop where
  box : W.heap[bL]? = some (.cells #[.int .i64 s.t, .int .i64 s.v, .slice a s.es.length c] TdT (0, 0))
  er : ER W (.slice a s.es.length c) s.es
  nb : ¬ X bL
  nr : ∀ g, blk (.slice a s.es.length c) = some g → ¬ X g
  new : w.heap.size ≤ bL
section
variable {w W W' : World} {bL : Nat} {s : Bl} {a : Option Addr} {c : Nat} {X X' : Nat → Prop}
theorem LB.lt (h : LB w W bL s a c X) : bL < W.heap.size := (Array.getElem?_eq_some_iff.1 h.box).1
theorem LB.tu (h : LB w W bL s a c X) (ht : Tu X X' W W') : LB w W' bL s a c X' :=
  ⟨(ht.stay h.lt h.nb).1.trans h.box, h.er.stay fun g hg => (ht.stay (h.er.lt hg) (h.nr g hg)).1, (ht.stay h.lt h.nb).2, fun g hg => (ht.stay (h.er.lt hg) (h.nr g hg)).2, h.new⟩
theorem LB.below (h : LB w W bL s a c X) (hb : Below W.heap.size W W') : LB w W' bL s a c X := ⟨(hb.block bL h.lt).trans h.box, h.er.below hb, h.nb, h.nr, h.new⟩
theorem LB.sub (h : LB w W bL s a c X) (hs : ∀ k, X' k → X k) : LB w W bL s a c X' := ⟨h.box, h.er, fun e => h.nb (hs _ e), fun g hg e => h.nr g hg (hs _ e), h.new⟩
theorem LB.cs (h : LB w W bL s a c X) : W.cell? ⟨bL, 0, none⟩ = some (.int .i64 s.t) ∧ W.cell? ⟨bL, 1, none⟩ = some (.int .i64 s.v) ∧ W.cell? ⟨bL, 2, none⟩ = some (.slice a s.es.length c) :=
  ⟨cell_of_block h.box 0, cell_of_block h.box 1, cell_of_block h.box 2⟩
theorem LB.fz (h : LB w W bL s a c X) (j : Nat) : W.frozen? ⟨bL, j, none⟩ = false := unfrozen_of_block h.box j
abbrev put3 (W : World) (bL : Nat) (s : Bl) (a : Option Addr) (c : Nat) : World := ((W.setCell ⟨bL, 0, none⟩ (.int .i64 s.t)).setCell ⟨bL, 1, none⟩ (.int .i64 s.v)).setCell ⟨bL, 2, none⟩ (.slice a s.es.length c)
theorem put3_heap (W : World) (bL : Nat) (s : Bl) (a : Option Addr) (c : Nat) (k : Nat) (hk : k ≠ bL) : (put3 W bL s a c).heap[k]? = W.heap[k]? := by
  unfold put3
  rw [Below.heap_setCell _ ⟨bL, 2, none⟩ _ k hk, Below.heap_setCell _ ⟨bL, 1, none⟩ _ k hk, Below.heap_setCell _ ⟨bL, 0, none⟩ _ k hk]
/-- another is told -/
theorem LB.put (h : LB w W bL s a c X) {s' : Bl} {a' : Option Addr} {c' : Nat} (he : ER W (.slice a' s'.es.length c') s'.es) (hn : ∀ g, blk (.slice a' s'.es.length c') = some g → ¬ X g) : LB w (put3 W bL s' a' c') bL s' a' c' X := by
  refine ⟨?_, he.stay fun g hg => put3_heap W bL s' a' c' g (he.ne h.box (by decide) hg), h.nb, hn, h.new⟩
  unfold put3
  rw [block_setCell (block_setCell (block_setCell h.box _) _) _]; rfl
theorem LB.bb (h : LB w W bL s a c X) {bb bd : Nat} {n : Int} {S : St} {sB : Bl} (hB : BB W bb bd n S sB X) (s' : Bl) (a' : Option Addr) (c' : Nat) : BB (put3 W bL s' a' c') bb bd n S sB X :=
  hB.frame (by simp [put3]) fun k hk => put3_heap W bL s' a' c' k fun e => h.nb (e ▸ hk)
theorem LB.nw (h : LB w W bL s a c X) (hN : Nw w W X) (s' : Bl) (a' : Option Addr) (c' : Nat) : Nw w (put3 W bL s' a' c') X :=
  ⟨((hN.bel.setCell (p := ⟨bL, 0, none⟩) h.new _).setCell (p := ⟨bL, 1, none⟩) h.new _).setCell (p := ⟨bL, 2, none⟩) h.new _, hN.new⟩
end

/-! arguments -/
theorem sl_below {α : Type} {w W : World} {en : α → List Value} {a : Option Addr} {c : Nat} {l : List α} (h : SliceAt w en a c l) (hb : Below w.heap.size w W) : SliceAt W en a c l := ⟨h.lies.below hb, h.room, h.nil, h.max⟩
theorem ints_below {w W : World} {a : Option Addr} {c : Nat} {l : List Int} (h : IntsAt w a c l) (hb : Below w.heap.size w W) : IntsAt W a c l := ⟨sl_below h.toSliceAt hb, h.each⟩
theorem AcOk.below {w W : World} {x : AcV} (h : AcOk w x) (hb : Below w.heap.size w W) : AcOk W x := ⟨sl_below h.l hb, ints_below h.ds hb, h.k, h.n⟩
theorem GosAt.cells {w : World} {a : Option Addr} {cap : Nat} {gs : List GoV} (h : GosAt w a cap gs) (k : Nat) (hk : k < gs.length) : ∃ b off, a = some ⟨b, off, none⟩ ∧ ∀ W, Below w.heap.size w W → W.cell? ⟨b, off + k * 3, none⟩ = some (.slice gs[k].la gs[k].l.length gs[k].lc) ∧ W.cell? ⟨b, off + k * 3 + 1, none⟩ = some (.int .i64 gs[k].fuse) ∧ W.cell? ⟨b, off + k * 3 + 2, none⟩ = some (.slice gs[k].da gs[k].ds.length gs[k].dc) := by
  obtain ⟨b, off, rfl, hlt, hc⟩ := h.lies.at goE_len k hk
  refine ⟨b, off, rfl, fun W hb => ?_⟩
  obtain ⟨b', off', e, _, hc'⟩ := (h.lies.below hb).at goE_len k hk
  cases e
  exact ⟨hc' 0 _ rfl, hc' 1 _ rfl, hc' 2 _ rfl⟩
theorem AcsAt.cells {w : World} {a : Option Addr} {cap : Nat} {l : List AcV} (h : AcsAt w a cap l) (k : Nat) (hk : k < l.length) : ∃ b off, a = some ⟨b, off, none⟩ ∧ ∀ W, Below w.heap.size w W → W.cell? ⟨b, off + k * 6, none⟩ = some (.int .i64 l[k].k) ∧ W.cell? ⟨b, off + k * 6 + 1, none⟩ = some (.int .i64 l[k].n) ∧ W.cell? ⟨b, off + k * 6 + 2, none⟩ = some (.int .i64 l[k].t) ∧ W.cell? ⟨b, off + k * 6 + 3, none⟩ = some (.string l[k].d) ∧ W.cell? ⟨b, off + k * 6 + 4, none⟩ = some (.slice l[k].la l[k].l.length l[k].lc) ∧ W.cell? ⟨b, off + k * 6 + 5, none⟩ = some (.slice l[k].da l[k].ds.length l[k].dc) := by
  obtain ⟨b, off, rfl, hlt, hc⟩ := h.lies.at acE_len k hk
  refine ⟨b, off, rfl, fun W hb => ?_⟩
  obtain ⟨b', off', e, _, hc'⟩ := (h.lies.below hb).at acE_len k hk
  cases e
  exact ⟨hc' 0 _ rfl, hc' 1 _ rfl, hc' 2 _ rfl, hc' 3 _ rfl, hc' 4 _ rfl, hc' 5 _ rfl⟩
/-- draws that lie below all that the disk has -/
theorem ints_lies {w W : World} {a : Option Addr} {c : Nat} {ds : List Int} (h : IntsAt w a c ds) {X own : Nat → Prop} (hN : Nw w W X) (ho : ∀ k, k < W.heap.size → own k → X k) : Dk.LiesI W own a ds := by
  by_cases h0 : ds = []
  · exact Or.inl h0
  · obtain ⟨b, off, ea, hlt, _⟩ := h.lies.at ienc_len 0 (List.length_pos_iff.2 h0)
    have hb := hN.bel.size
    refine Or.inr ⟨b, off, ea, by omega, fun hown => by have := hN.new b (ho b (by omega) hown); omega, fun i hi => ?_⟩
    obtain ⟨b', off', e, _, hc⟩ := h.lies.at ienc_len i hi
    rw [ea] at e; cases e
    rw [hN.bel.cell (p := ⟨b, off + i, none⟩) hlt]
    have := hc 0 _ rfl
    rwa [Nat.mul_one, Nat.add_zero] at this
end Go.Proofs.YtnmgiiiafefgdaaGreat.Ba
