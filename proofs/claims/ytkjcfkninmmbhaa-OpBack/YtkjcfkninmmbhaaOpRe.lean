/- Layer 8: the reader of fields: a reply is read. -/
import Derived.Test.YtkjcfkninmmbhaaOpRt
namespace Go.Proofs.Ytkjcfkninmmbhaa.Oq
open Go.RowKit Go.Joins Go.Proofs.Ytkjcfkninmmbhaa.Gk

theorem res_inf : (Try.prog.info? 107).map (fun i => (i.zero, i.size, i.bytes)) = some (some (.agg #[.int .i64 0, .int .i64 0, .string ⟨#[]⟩, .slice none 0 0]), 4, 56) := by kernel_rfl

/-- so many results, one behind the other -/
def Rd.ress (S : Rd) : Nat → List Rs × Rd
  | 0 => ([], S)
  | n + 1 => ((S.ress n).1 ++ [(S.ress n).2.res.1], (S.ress n).2.res.2)
theorem Rd.ress_len (S : Rd) (n : Nat) : (S.ress n).1.length = n := by
  induction n with
  | zero => rfl
  | succ n ih => simp [Rd.ress, ih]
def Rd.repA (S : Rd) : Rd := S.num.2.num.2
def Rd.rep0 (S : Rd) : Rd := S.repA.num.2.num.2
def Rd.repN (S : Rd) : Nat := (S.rep0.count 32).1.toNat
def Rd.rep (S : Rd) : Rp × Rd := (⟨S.num.1, S.num.2.num.1, ((S.rep0.count 32).2.ress S.repN).1, S.repA.num.1, S.repA.num.2.num.1⟩, ((S.rep0.count 32).2.ress S.repN).2)
theorem Rd.res_rows (S : Rd) : S.res.1.rows.length ≤ 100 := by
  show ((S.res0.count 100).2.rows S.resN).1.length ≤ 100
  rw [Rd.rows_len]
  have := Rd.cnt_in S.res0 100 (by decide)
  unfold Rd.resN
  omega
theorem Rd.ress_rows (S : Rd) (n : Nat) : ∀ x ∈ (S.ress n).1, x.rows.length ≤ 100 := by
  induction n with
  | zero => intro x hx; cases hx
  | succ n ih =>
    intro x hx
    rcases List.mem_append.1 hx with h | h
    · exact ih x h
    · rw [List.mem_singleton.1 h]; exact Rd.res_rows _

/-- rows of results lie apart from the results' own row, and behind the reply -/
def Apart (W : World) (H1 : Nat) (v : Value) (x : RsA) : Prop := Gk.Lies W rwenc x.a x.r.rows ∧ ∀ b off, x.a = some ⟨b, off, none⟩ → x.r.rows ≠ [] → H1 < b ∧ b < W.heap.size ∧ some b ≠ v.ownBlock
/-- what is read so far -/
structure RpS (w : World) (br H0 H1 : Nat) (c s t u : Int) (L : List RsA) (S : Rd) (v : Value) (W : World) : Prop where
  rd : RdH W br S
  zero : W.heap[H0]? = some (.cells #[.int .i64 0, .int .i64 0, .slice none 0 0, .int .i64 0, .int .i64 0] 44 (0, 0))
  box : W.heap[H1]? = some (.cells #[.int .i64 c, .int .i64 s, v, .int .i64 t, .int .i64 u] 44 (0, 0))
  row : W.ownsRow (H1 + 1) 107 4 v L.length (rc rsenc L)
  rows : ∀ x ∈ L, Apart W H1 v x
  one : One br w W
  h0 : w.heap.size ≤ H0
  h1 : H0 < H1
  hb : br < w.heap.size
  rb : W.heap[w.heap.size]? = some (.cells #[.pointer (some ⟨br, 0, none⟩)] 60 (0, 0))
  hw : w.heap.size < H0
theorem Apart.stay {W W' : World} {H1 : Nat} {v : Value} {x : RsA} (h : Apart W H1 v x) (hz : W.heap.size ≤ W'.heap.size) (hk : ∀ b, H1 < b → b < W.heap.size → some b ≠ v.ownBlock → W'.heap[b]? = W.heap[b]?) : Apart W' H1 v x := by
  refine ⟨?_, fun b off ea he => ?_⟩
  · by_cases e : x.r.rows = []
    · exact Or.inl e
    · exact h.1.later (fun b off ea _ => by obtain ⟨p, q, r⟩ := h.2 b off ea e; exact hk b p q r) hz
  · obtain ⟨p, q, r⟩ := h.2 b off ea he
    exact ⟨p, by omega, r⟩
theorem RpS.lt {w W : World} {br H0 H1 : Nat} {c s t u : Int} {L : List RsA} {S : Rd} {v : Value} (h : RpS w br H0 H1 c s t u L S v W) : H1 < W.heap.size := (Array.getElem?_eq_some_iff.1 h.box).1
theorem RpS.below {w W W' : World} {br H0 H1 : Nat} {c s t u : Int} {L : List RsA} {S : Rd} {v : Value} (h : RpS w br H0 H1 c s t u L S v W) (hb : Below W.heap.size W W') : RpS w br H0 H1 c s t u L S v W' :=
  ⟨h.rd.below hb, (hb.block H0 (Array.getElem?_eq_some_iff.1 h.zero).1).trans h.zero, (hb.block H1 h.lt).trans h.box, Gk.own_below h.row hb, fun x hx => (h.rows x hx).stay hb.size (fun b _ hl _ => hb.block b hl), h.one.trans (One.of_below hb), h.h0, h.h1, h.hb, (hb.block _ (Array.getElem?_eq_some_iff.1 h.rb).1).trans h.rb, h.hw⟩
/-- behind a call of the reader -/
theorem RpS.call {w W W' : World} {br H0 H1 : Nat} {c s t u : Int} {L : List RsA} {S S' : Rd} {v : Value} (h : RpS w br H0 H1 c s t u L S v W) (hO : One br W W') (hr : RdH W' br S') : RpS w br H0 H1 c s t u L S' v W' := by
  have l0 := (Array.getElem?_eq_some_iff.1 h.zero).1
  have l1 := h.lt
  have e0 := h.h0
  have e1 := h.h1
  have eb := h.hb
  exact ⟨hr, (hO.block H0 l0 (by omega)).trans h.zero, (hO.block H1 l1 (by omega)).trans h.box, Gk.own_stay h.row (fun g hg => hO.block g (h.row.lt g hg).2 (by have := (h.row.lt g hg).1; omega)), fun x hx => (h.rows x hx).stay hO.size (fun b hp hl _ => hO.block b hl (by omega)), h.one.trans hO, h.h0, h.h1, h.hb, (hO.block _ (Array.getElem?_eq_some_iff.1 h.rb).1 (by omega)).trans h.rb, h.hw⟩
theorem RpS.c2 {w W : World} {br H0 H1 : Nat} {c s t u : Int} {L : List RsA} {S : Rd} {v : Value} (h : RpS w br H0 H1 c s t u L S v W) : W.cell? ⟨H1, 2, none⟩ = some v := by rw [cell_of_block h.box]; rfl
theorem RpS.f2 {w W : World} {br H0 H1 : Nat} {c s t u : Int} {L : List RsA} {S : Rd} {v : Value} (h : RpS w br H0 H1 c s t u L S v W) : W.frozen? ⟨H1, 2, none⟩ = false := unfrozen_of_block h.box 2
theorem RpS.away {w W : World} {br H0 H1 : Nat} {c s t u : Int} {L : List RsA} {S : Rd} {v : Value} (h : RpS w br H0 H1 c s t u L S v W) (k : Nat) (hk : k ≤ H1) : some k ≠ v.ownBlock := fun e => by have := (h.row.lt k e.symm).1; omega
/-- the list is put back, one longer -/
theorem RpS.put {w W W' : World} {br H0 H1 : Nat} {c s t u : Int} {L : List RsA} {y : RsA} {S : Rd} {v v' : Value} (h : RpS w br H0 H1 c s t u L S v W) (hy : Apart W H1 v y) (hg : W.grownBy W' v.ownBlock) (hr : W'.ownsRow (H1 + 1) 107 4 v' (L ++ [y]).length (rc rsenc (L ++ [y]))) (hat : ∀ g, v'.ownBlock = some g → v.ownBlock = some g ∨ W.heap.size ≤ g) : RpS w br H0 H1 c s t u (L ++ [y]) S v' (W'.setCell ⟨H1, 2, none⟩ v') := by
  have l0 := (Array.getElem?_eq_some_iff.1 h.zero).1
  have l1 := h.lt
  have e0 := h.h0
  have e1 := h.h1
  have eb := h.hb
  have hz := hg.size
  have hk : ∀ k, k ≤ H1 → W'.heap[k]? = W.heap[k]? := fun k hk => hg.block k (by omega) (h.away k hk)
  have hs : ∀ k, k ≠ H1 → (W'.setCell ⟨H1, 2, none⟩ v').heap[k]? = W'.heap[k]? := fun k hk => Below.heap_setCell W' _ _ k hk
  refine ⟨h.rd.over (by simpa using hz) (fun k hkb => (hs k (by omega)).trans (hk k (by omega))), (hs H0 (by omega)).trans ((hk H0 (by omega)).trans h.zero), by rw [block_setCell ((hk H1 (Nat.le_refl _)).trans h.box)]; rfl,
    Gk.own_stay hr (fun g hg' => hs g (by have := (hr.lt g hg').1; omega)), fun x hx => ?_, ?_, h.h0, h.h1, h.hb, (hs _ (by have := h.hw; omega)).trans ((hk _ (by have := h.hw; omega)).trans h.rb), h.hw⟩
  · have hx' : Apart W H1 v x := by
      rcases List.mem_append.1 hx with hh | hh
      · exact h.rows x hh
      · rw [List.mem_singleton.1 hh]; exact hy
    obtain ⟨p, q⟩ := hx'.stay (W' := W'.setCell ⟨H1, 2, none⟩ v') (by simpa using hz) (fun b hp hl hn => (hs b (by omega)).trans (hg.block b hl hn))
    refine ⟨p, fun b off ea he => ?_⟩
    obtain ⟨q1, q2, q3⟩ := q b off ea he
    refine ⟨q1, q2, fun e => ?_⟩
    rcases hat b e.symm with h1 | h1
    · exact q3 h1.symm
    · have := (hx'.2 b off ea he).2.1; omega
  · refine One.setNew ⟨hg.os.trans h.one.os, hg.tape.trans h.one.tape, hg.output.trans h.one.output, Nat.le_trans h.one.size hg.size, fun k hk' hn => (hk k (by omega)).trans (h.one.block k hk' hn)⟩ H1 2 (by omega) _

theorem Apart.fresh {W W' : World} {H1 : Nat} {v : Value} {r : Rs} {a : Option Addr} {cap : Nat} (hl : Gk.Lies W' rwenc a r.rows) (hfar : ∀ b off, a = some ⟨b, off, none⟩ → r.rows ≠ [] → W.heap.size ≤ b) (hH : H1 < W.heap.size) (hv : ∀ g, v.ownBlock = some g → g < W.heap.size) : Apart W' H1 v ⟨r, a, cap⟩ := by
  refine ⟨hl, fun b off ea he => ?_⟩
  have := hfar b off ea he
  refine ⟨by omega, ?_, fun e => by have := hv b e.symm; omega⟩
  rcases hl with h | ⟨b', off', e, hlt, _⟩
  · exact absurd h he
  · have ea' : a = some ⟨b, off, none⟩ := ea
    rw [ea'] at e
    cases e
    exact hlt

/-- the reader's box, and a new reply -/
abbrev PX (w : World) (H br : Nat) (W : World) : Prop :=
  W.cell? ⟨H, 0, none⟩ = some (.pointer (some ⟨br, 0, none⟩)) ∧
  Hid (br < H ∧ W.heap[H]? = some (.cells #[.pointer (some ⟨br, 0, none⟩)] 60 (0, 0)) ∧ W.heap[H + 1]? = some (.cells #[.int .i64 0, .int .i64 0, .slice none 0 0, .int .i64 0, .int .i64 0] 44 (0, 0)) ∧ One br w W)
theorem PX.mk {w W : World} {H br : Nat} (h0 : br < H) (h1 : W.heap[H]? = some (.cells #[.pointer (some ⟨br, 0, none⟩)] 60 (0, 0))) (h2 : W.heap[H + 1]? = some (.cells #[.int .i64 0, .int .i64 0, .slice none 0 0, .int .i64 0, .int .i64 0] 44 (0, 0))) (h3 : One br w W) : PX w H br W :=
  ⟨by rw [cell_of_block h1]; rfl, h0, h1, h2, h3⟩
theorem PX.one {w W W' : World} {H br : Nat} (hO : One br W W') (h : PX w H br W) : PX w H br W' := by
  obtain ⟨h0, h1, h2, h3⟩ := h.2.out
  exact PX.mk h0 ((hO.block H (Array.getElem?_eq_some_iff.1 h1).1 (by omega)).trans h1) ((hO.block (H + 1) (Array.getElem?_eq_some_iff.1 h2).1 (by omega)).trans h2) (h3.trans hO)
theorem PX.below {w W W' : World} {H br : Nat} (h : PX w H br W) (hb : Below W.heap.size W W') : PX w H br W' := PX.one (One.of_below hb) h
theorem PX.drew {w W : World} {H br : Nat} (h : PX w H br W) : PX w H br W.drew := h.below ((Below.refl _ _).drew)
abbrev zRp : Obj := (.cells #[.int .i64 0, .int .i64 0, .slice none 0 0, .int .i64 0, .int .i64 0] 44)
abbrev Np_ (w W : World) (n : Nat) : Prop := W.heap[n]? = some (.cells #[.int .i64 0, .int .i64 0, .slice none 0 0, .int .i64 0, .int .i64 0] 44 (0, 0)) ∧ w.heap.size + 1 < n
theorem PX.new {w X W : World} {br : Nat} (h : PX w w.heap.size br X) (hO : One br (X.alloc zRp) W) : Np_ w W X.heap.size := by
  obtain ⟨h0, h1, h2, h3⟩ := h.2.out
  have hl := (Array.getElem?_eq_some_iff.1 h2).1
  exact ⟨(hO.block _ (by simp) (by omega)).trans (heap_alloc_new X _), hl⟩
theorem PX.newd {w X W : World} {br : Nat} (h : PX w w.heap.size br X) (hO : One br (X.alloc zRp).drew W) : Np_ w W X.heap.size :=
  h.new ((One.of_below ((Below.refl _ _).drew)).trans hO)
theorem Np_.kept {w V W : World} {br n : Nat} (hw : br < w.heap.size) (hO : One br V W) (h : Np_ w V n) : Np_ w W n :=
  ⟨(hO.block n (Array.getElem?_eq_some_iff.1 h.1).1 (by have := h.2; omega)).trans h.1, h.2⟩
theorem Np_.c0 {w W : World} {n : Nat} (h : Np_ w W n) : W.cell? ⟨n, 0, none⟩ = some (.int .i64 0) := by rw [cell_of_block h.1]; rfl
theorem Np_.c1 {w W : World} {n : Nat} (h : Np_ w W n) : W.cell? ⟨n, 1, none⟩ = some (.int .i64 0) := by rw [cell_of_block h.1]; rfl
theorem Np_.c2 {w W : World} {n : Nat} (h : Np_ w W n) : W.cell? ⟨n, 2, none⟩ = some (.slice none 0 0) := by rw [cell_of_block h.1]; rfl
theorem Np_.c3 {w W : World} {n : Nat} (h : Np_ w W n) : W.cell? ⟨n, 3, none⟩ = some (.int .i64 0) := by rw [cell_of_block h.1]; rfl
theorem Np_.c4 {w W : World} {n : Nat} (h : Np_ w W n) : W.cell? ⟨n, 4, none⟩ = some (.int .i64 0) := by rw [cell_of_block h.1]; rfl
theorem set5 {W : World} {R t : Nat} {x0 x1 x2 x3 x4 : Value} (a b c d e : Value) (h : W.heap[R]? = some (.cells #[x0, x1, x2, x3, x4] t (0, 0))) :
    (((((W.setCell ⟨R, 0, none⟩ a).setCell ⟨R, 1, none⟩ b).setCell ⟨R, 2, none⟩ c).setCell ⟨R, 3, none⟩ d).setCell ⟨R, 4, none⟩ e).heap[R]? = some (.cells #[a, b, c, d, e] t (0, 0)) := by
  have e0 : (W.setCell ⟨R, 0, none⟩ a).heap[R]? = some (.cells #[a, x1, x2, x3, x4] t (0, 0)) := by rw [block_setCell h]; rfl
  have e1 : ((W.setCell ⟨R, 0, none⟩ a).setCell ⟨R, 1, none⟩ b).heap[R]? = some (.cells #[a, b, x2, x3, x4] t (0, 0)) := by rw [block_setCell e0]; rfl
  have e2 : (((W.setCell ⟨R, 0, none⟩ a).setCell ⟨R, 1, none⟩ b).setCell ⟨R, 2, none⟩ c).heap[R]? = some (.cells #[a, b, c, x3, x4] t (0, 0)) := by rw [block_setCell e1]; rfl
  have e3 : ((((W.setCell ⟨R, 0, none⟩ a).setCell ⟨R, 1, none⟩ b).setCell ⟨R, 2, none⟩ c).setCell ⟨R, 3, none⟩ d).heap[R]? = some (.cells #[a, b, c, d, x4] t (0, 0)) := by rw [block_setCell e2]; rfl
  rw [block_setCell e3]; rfl
theorem PX.set {w W : World} {br n : Nat} {a b c d e : Value} (hn : Np_ w W n) (h : PX w w.heap.size br W) : PX w w.heap.size br (((((W.setCell ⟨n, 0, none⟩ a).setCell ⟨n, 1, none⟩ b).setCell ⟨n, 2, none⟩ c).setCell ⟨n, 3, none⟩ d).setCell ⟨n, 4, none⟩ e) := by
  obtain ⟨h0, h1, h2, h3⟩ := h.2.out
  have hl := hn.2
  have hs : ∀ (V : World) i v k, k < n → (V.setCell ⟨n, i, none⟩ v).heap[k]? = V.heap[k]? := fun V i v k hk => Below.heap_setCell V _ _ k (by show k ≠ n; omega)
  refine PX.mk h0 ?_ ?_ ?_
  · rw [hs _ _ _ _ (by omega), hs _ _ _ _ (by omega), hs _ _ _ _ (by omega), hs _ _ _ _ (by omega), hs _ _ _ _ (by omega)]; exact h1
  · rw [hs _ _ _ _ (by omega), hs _ _ _ _ (by omega), hs _ _ _ _ (by omega), hs _ _ _ _ (by omega), hs _ _ _ _ (by omega)]; exact h2
  · exact One.setNew (One.setNew (One.setNew (One.setNew (One.setNew h3 _ 0 (by omega) _) _ 1 (by omega) _) _ 2 (by omega) _) _ 3 (by omega) _) _ 4 (by omega) _
theorem RpS.laid {w W : World} {br : Nat} {S : Rd} {c s : Int} (h : PX w w.heap.size br W) (hr : RdH W br S) : RpS w br (w.heap.size + 1) W.heap.size c s 0 0 [] S (.slice none 0 0) (W.alloc (.cells #[.int .i64 c, .int .i64 s, .slice none 0 0, .int .i64 0, .int .i64 0] 44)) := by
  obtain ⟨h0, h1, h2, h3⟩ := h.2.out
  have hl := (Array.getElem?_eq_some_iff.1 h2).1
  exact ⟨hr.below (below1 _ _), ((below1 W _).block _ hl).trans h2, heap_alloc_new _ _, World.ownsRow_nil _ _ _ _, (fun _ hx => absurd hx List.not_mem_nil), h3.trans (One.of_below (below1 _ _)), by omega, hl, h0, ((below1 W _).block _ (by omega)).trans h1, by omega⟩
theorem RpS.put0 {w W : World} {br n : Nat} {S : Rd} {c s : Int} (h : PX w w.heap.size br W) (hr : RdH W br S) (hn : Np_ w W n) : RpS w br (w.heap.size + 1) n c s 0 0 [] S (.slice none 0 0) (((((W.setCell ⟨n, 0, none⟩ (.int .i64 c)).setCell ⟨n, 1, none⟩ (.int .i64 s)).setCell ⟨n, 2, none⟩ (.slice none 0 0)).setCell ⟨n, 3, none⟩ (.int .i64 0)).setCell ⟨n, 4, none⟩ (.int .i64 0)) := by
  obtain ⟨h0, h1, h2, h3⟩ := (PX.set (a := .int .i64 c) (b := .int .i64 s) (c := .slice none 0 0) (d := .int .i64 0) (e := .int .i64 0) hn h).2.out
  have hl := hn.2
  exact ⟨((((hr.set n 0 (by omega) _).set n 1 (by omega) _).set n 2 (by omega) _).set n 3 (by omega) _).set n 4 (by omega) _, h2, set5 _ _ _ _ _ hn.1, World.ownsRow_nil _ _ _ _, (fun _ hx => absurd hx List.not_mem_nil), h3, by omega, hl, h0, h1, by omega⟩
theorem RpS.cb {w W : World} {br H0 H1 : Nat} {c s t u : Int} {L : List RsA} {S : Rd} {v : Value} (h : RpS w br H0 H1 c s t u L S v W) : W.cell? ⟨w.heap.size, 0, none⟩ = some (.pointer (some ⟨br, 0, none⟩)) := by rw [cell_of_block h.rb]; rfl
/-- while the fault is read -/
abbrev FX (w : World) (br H0 H1 : Nat) (c s : Int) (W : World) : Prop :=
  (W.cell? ⟨w.heap.size, 0, none⟩ = some (.pointer (some ⟨br, 0, none⟩)) ∧ W.cell? ⟨H1, 3, none⟩ = some (cv W H1 3) ∧ W.cell? ⟨H1, 4, none⟩ = some (cv W H1 4) ∧ W.frozen? ⟨H1, 3, none⟩ = false ∧ W.frozen? ⟨H1, 4, none⟩ = false) ∧
  Hid (∃ (S : Rd) (t u : Int), RpS w br H0 H1 c s t u [] S (.slice none 0 0) W)
theorem FX.of {w W : World} {br H0 H1 : Nat} {c s t u : Int} {S : Rd} (h : RpS w br H0 H1 c s t u [] S (.slice none 0 0) W) : FX w br H0 H1 c s W :=
  ⟨⟨h.cb, cv_of (x := .int .i64 t) (by rw [cell_of_block h.box]; rfl), cv_of (x := .int .i64 u) (by rw [cell_of_block h.box]; rfl), unfrozen_of_block h.box 3, unfrozen_of_block h.box 4⟩, ⟨S, t, u, h⟩⟩
theorem FX.drew {w W : World} {br H0 H1 : Nat} {c s : Int} (h : FX w br H0 H1 c s W) : FX w br H0 H1 c s W.drew := by
  obtain ⟨S, t, u, h⟩ := h.2.out
  exact FX.of (h.below ((Below.refl _ _).drew))
theorem FX.one {w W W' : World} {br H0 H1 : Nat} {c s : Int} {S : Rd} (hr : RdH W' br S) (hO : One br W W') (h : FX w br H0 H1 c s W) : FX w br H0 H1 c s W' := by
  obtain ⟨S', t, u, h⟩ := h.2.out
  exact FX.of (h.call hO hr)
theorem RpS.other {w W : World} {br H0 H1 : Nat} {c s t u : Int} {L : List RsA} {S S' : Rd} {v : Value} (h : RpS w br H0 H1 c s t u L S v W) (hr : RdH W br S') : RpS w br H0 H1 c s t u L S' v W := { h with rd := hr }
/-- the fault is written -/
theorem RpS.fault {w W : World} {br H0 H1 : Nat} {c s t u t' u' : Int} {S : Rd} (hq : RpS w br H0 H1 c s t u [] S (.slice none 0 0) W) : RpS w br H0 H1 c s t' u' [] S (.slice none 0 0) ((W.setCell ⟨H1, 3, none⟩ (.int .i64 t')).setCell ⟨H1, 4, none⟩ (.int .i64 u')) := by
  have e0 := hq.h0
  have e1 := hq.h1
  have e2 := hq.hw
  have eb := hq.hb
  have hs : ∀ (V : World) i v k, k ≠ H1 → (V.setCell ⟨H1, i, none⟩ v).heap[k]? = V.heap[k]? := fun V i v k hk => Below.heap_setCell V _ _ k hk
  refine ⟨(hq.rd.set _ 3 (by omega) _).set _ 4 (by omega) _, ?_, ?_, World.ownsRow_nil _ _ _ _, (fun _ hx => absurd hx List.not_mem_nil), One.setNew (One.setNew hq.one _ 3 (by omega) _) _ 4 (by omega) _, e0, e1, eb, ?_, e2⟩
  · rw [hs _ _ _ _ (by omega), hs _ _ _ _ (by omega)]; exact hq.zero
  · rw [block_setCell (block_setCell hq.box _)]; rfl
  · rw [hs _ _ _ _ (by omega), hs _ _ _ _ (by omega)]; exact hq.rb
theorem FX.set {w W : World} {br H0 H1 : Nat} {c s t' u' : Int} (h : FX w br H0 H1 c s W) : FX w br H0 H1 c s ((W.setCell ⟨H1, 3, none⟩ (.int .i64 t')).setCell ⟨H1, 4, none⟩ (.int .i64 u')) := by
  obtain ⟨S, t, u, h⟩ := h.2.out
  exact FX.of h.fault

set_option maxRecDepth 100000 in
set_option maxHeartbeats 4000000 in
theorem reply_rd (S : Rd) (br : Nat) (w : World) (h : RdH w br S) :
    Calls Try.prog 41 #[.agg #[.pointer (some ⟨br, 0, none⟩)]] w fun e w' => ∃ a cap l, l.map RsA.r = S.rep.1.results ∧ e = .returned (.agg #[.int .i64 S.rep.1.client, .int .i64 S.rep.1.seq, .slice a l.length cap, .int .i64 S.rep.1.at_, .int .i64 S.rep.1.code]) ∧ ResL w' a l ∧
      (∀ b off, a = some ⟨b, off, none⟩ → l ≠ [] → w.heap.size ≤ b) ∧ (∀ x ∈ l, ∀ b off, x.a = some ⟨b, off, none⟩ → x.r.rows ≠ [] → w.heap.size ≤ b) ∧ RdH w' br S.rep.2 ∧ One br w w' := by
  have hlt := h.lt
  obtain ⟨W, hW⟩ : ∃ W, W = (w.alloc (.cells #[.pointer (some ⟨br, 0, none⟩)] 60)).alloc (.cells #[.int .i64 0, .int .i64 0, .slice none 0 0, .int .i64 0, .int .i64 0] 44) := ⟨_, rfl⟩
  have hbW : Below w.heap.size w W := by rw [hW]; exact below2 _ _ _
  have hX : PX w w.heap.size br W := by
    refine PX.mk hlt ?_ ?_ (One.of_below hbW)
    · rw [hW]; exact ((below1 _ _).block _ (by simp)).trans (heap_alloc_new _ _)
    · rw [hW]; have := heap_alloc_new (w.alloc (.cells #[.pointer (some ⟨br, 0, none⟩)] 60)) (.cells #[.int .i64 0, .int .i64 0, .slice none 0 0, .int .i64 0, .int .i64 0] 44); simpa using this
  have hR := h.below hbW
  go_enter Try.func41, Try.ntmps41
  go_wp2_with fail
  rw [← hW]
  clear hW hbW h
  go_upto_region 1 with fail
  go_cut [3] from 4 to 32 (fun v wx => ∃ H1, v = .pointer (some ⟨H1, 0, none⟩) ∧ RpS w br (w.heap.size + 1) H1 S.num.1 S.num.2.num.1 0 0 [] S.num.2.num.2 (.slice none 0 0) wx)
  case first =>
    go_region_held3 (PX w w.heap.size br) (first | with_reducible exact PX.drew (by assumption) | with_reducible exact PX.one (by assumption) (by assumption) | with_reducible assumption | with_reducible exact PX.below (by assumption) (below1 _ _) | with_reducible exact PX.set (by assumption) (by assumption) | with_reducible exact PX.below hX2 (below1 _ _))
      (first
        | (go_at_call 64; refine (number_rd _ br _ (by first | with_reducible assumption | with_reducible exact RdH.drew (by assumption) | with_reducible exact RdH.drew (RdH.drew (by assumption)) | with_reducible exact RdH.drew (RdH.below (by assumption) (below1 _ _)) | with_reducible exact RdH.below (by assumption) (below1 _ _))).mono ?_; rintro e w2 ⟨rfl, hR2, hO2⟩; have hX2 : PX w w.heap.size br w2 := PX.one hO2 (by first | with_reducible assumption | with_reducible exact PX.drew (by assumption) | with_reducible exact PX.below (by assumption) (below1 _ _) | with_reducible exact PX.drew (PX.below (by assumption) (below1 _ _))); first | ((with_reducible have hB := PX.newd (by first | with_reducible assumption | with_reducible exact PX.drew (by assumption)) hO2); have k0 := hB.c0; have k1 := hB.c1; have k2 := hB.c2; have k3 := hB.c3; have k4 := hB.c4; have f0 := unfrozen_of_block hB.1 0; have f1 := unfrozen_of_block hB.1 1; have f2 := unfrozen_of_block hB.1 2; have f3 := unfrozen_of_block hB.1 3; have f4 := unfrozen_of_block hB.1 4) | ((with_reducible have hB := PX.new (by first | with_reducible assumption | with_reducible exact PX.drew (by assumption)) hO2); have k0 := hB.c0; have k1 := hB.c1; have k2 := hB.c2; have k3 := hB.c3; have k4 := hB.c4; have f0 := unfrozen_of_block hB.1 0; have f1 := unfrozen_of_block hB.1 1; have f2 := unfrozen_of_block hB.1 2; have f3 := unfrozen_of_block hB.1 3; have f4 := unfrozen_of_block hB.1 4) | ((with_reducible have hB := Np_.kept hlt hO2 (by assumption)); have k0 := hB.c0; have k1 := hB.c1; have k2 := hB.c2; have k3 := hB.c3; have k4 := hB.c4; have f0 := unfrozen_of_block hB.1 0; have f1 := unfrozen_of_block hB.1 1; have f2 := unfrozen_of_block hB.1 2; have f3 := unfrozen_of_block hB.1 3; have f4 := unfrozen_of_block hB.1 4) | skip)
        | fail)
    all_goals
      go_wp2_with fail
      go_meet
      case rel => exact ⟨_, rfl, by first | with_reducible exact RpS.laid hX2 hR2 | with_reducible exact RpS.put0 hX2 hR2 hB⟩
  case rest =>
    obtain ⟨H1, rfl, hS2'⟩ := hcut
    clear hX hR
    have hF := FX.of hS2'
    have hR := hS2'.rd
    go_upto_region 2 with fail
    go_cut [2] from 4 to 32 (fun v wx => v = .pointer (some ⟨w.heap.size + 1, 0, none⟩) ∧ RpS w br (w.heap.size + 1) H1 S.num.1 S.num.2.num.1 S.num.2.num.2.num.1 S.num.2.num.2.num.2.num.1 [] S.num.2.num.2.num.2.num.2 (.slice none 0 0) wx)
    case first =>
      go_region_held3 (FX w br (w.heap.size + 1) H1 S.num.1 S.num.2.num.1) (first | with_reducible exact FX.drew (by assumption) | with_reducible exact FX.one (by assumption) (by assumption) (by assumption) | with_reducible assumption | with_reducible exact FX.set (by assumption))
        (first
          | (go_at_call 64; refine (number_rd _ br _ (by first | with_reducible assumption | with_reducible exact RdH.drew (by assumption) | with_reducible exact RdH.drew (RdH.drew (by assumption)) | with_reducible exact RdH.drew (RdH.below (by assumption) (below1 _ _)) | with_reducible exact RdH.below (by assumption) (below1 _ _))).mono ?_; rintro e w2 ⟨rfl, hR2, hO2⟩; have hX2 : FX w br (w.heap.size + 1) H1 S.num.1 S.num.2.num.1 w2 := FX.one hR2 hO2 (by first | with_reducible assumption | with_reducible exact FX.drew (by assumption)))
          | fail)
      all_goals
        go_wp2_with fail
        go_meet
        case rel => exact ⟨rfl, by obtain ⟨S', t, u, h⟩ := hX2.2.out; exact RpS.fault (RpS.other h hR2)⟩
    case rest =>
      obtain ⟨rfl, hS5'⟩ := hcut
      have hS5 := hide hS5'
      have cb := hS5'.cb
      clear hF hR hS2' hS5'
      go_wp2_with fail
      have hrd := hS5.out.rd
      refine (count_rd _ 32 br _ hrd).mono ?_
      rintro e w5 ⟨rfl, h5, hO5⟩
      have hS6 : Hid (RpS w br (w.heap.size + 1) H1 S.num.1 S.num.2.num.1 S.repA.num.1 S.repA.num.2.num.1 [] (S.rep0.count 32).2 (.slice none 0 0) w5) := hS5.out.call hO5 h5
      clear hrd hS5 hO5 h5 cb
      rw [show (S.num.2.num.2.num.2.num.2.count 32) = S.rep0.count 32 from rfl]
      have hcnt := Rd.cnt_in S.rep0 32 (by decide)
      obtain ⟨n, hn⟩ : ∃ n : Nat, n = S.repN := ⟨_, rfl⟩
      have hni : (S.rep0.count 32).1 = (n : Int) := by rw [hn]; unfold Rd.repN; omega
      rw [hni] at hcnt
      rw [hni]
      have hn' := hide hn
      have hni' := hide hni
      clear hn hni
      obtain ⟨cc, hcc⟩ : ∃ cc, cc = S.num.1 := ⟨_, rfl⟩
      obtain ⟨ss, hss⟩ : ∃ ss, ss = S.num.2.num.1 := ⟨_, rfl⟩
      obtain ⟨tt, htt⟩ : ∃ tt, tt = S.repA.num.1 := ⟨_, rfl⟩
      obtain ⟨uu, huu⟩ : ∃ uu, uu = S.repA.num.2.num.1 := ⟨_, rfl⟩
      obtain ⟨S3, hS3e⟩ : ∃ S3, S3 = (S.rep0.count 32).2 := ⟨_, rfl⟩
      rw [← hcc, ← hss, ← htt, ← huu, ← hS3e] at hS6
      have hcc' := hide hcc
      have hss' := hide hss
      have htt' := hide htt
      have huu' := hide huu
      have hS3e' := hide hS3e
      clear hcc hss htt huu hS3e hni'
      go_wp2
      go_loopw [22] (fun i wr => ∃ (k : Nat) (a : Option Addr) (cap : Nat) (L : List RsA), k ≤ n ∧ i = .int .i64 k ∧ Hid (L.map RsA.r = (S3.ress k).1) ∧ Hid (RpS w br (w.heap.size + 1) H1 cc ss tt uu L (S3.ress k).2 (.slice a k cap) wr)) (fun i _ => n - (intOf i).toNat)
      case atStart => exact ⟨0, none, 0, [], by omega, rfl, hide rfl, hS6⟩
      case round =>
        clear hS6
        obtain ⟨k, a, cap, L, hk, rfl, hmap, hS⟩ := hrel
        have c2 := hS.out.c2
        have cb := hS.out.cb
        have hltH := hS.out.lt
        have hLl : L.length = k := by
          have := congrArg List.length hmap.out
          rw [List.length_map, Rd.ress_len] at this
          exact this
        by_cases hlk : k < n
        · have HN : Hid ((S3.ress (k + 1)) = ((S3.ress k).1 ++ [(S3.ress k).2.res.1], (S3.ress k).2.res.2)) := rfl
          generalize S3.ress k = SL at *
          obtain ⟨RL, Sk⟩ := SL
          simp only at hS HN hmap
          obtain rfl : L.length = k := hLl
          have hL31 : L.length ≤ 31 := by omega
          have hvlt : Hid (∀ g, (Value.slice a L.length cap).ownBlock = some g → g < wr.heap.size) := fun g hg => (hS.out.row.lt g hg).2
          go_wp2
          go_region_law (first | (go_simp; go_at_call 69; refine (result_rd Sk br _ (hS.out.rd.below ((Below.refl _ _).drew))).mono ?_; rintro e w6 ⟨ra, rcap, rfl, hrl6, hrfar, h6, hO6⟩; have hS7 := hide ((hS.out.below ((Below.refl _ _).drew)).call hO6 h6); have hy7 := hide (Apart.fresh (v := .slice a L.length cap) (cap := rcap) hrl6 hrfar (show H1 < wr.drew.heap.size from hltH) hvlt.out); have k2 := hS7.out.c2; have kb := hS7.out.cb; have hz7 := hS7.out.lt) | (refine step_append_keep (enc := rsenc) (by rfl) (.tmp 25) (.tmp 28) 40 (by rfl) 107 _ 56 Try.underlying40 res_inf rfl (by decide) rsenc_len rsenc_one (H1 + 1) (.slice a L.length cap) L (by rfl) ((hS7.out.below (below1 _ _)).row) w6.heap.size 0 [⟨Sk.res.1, ra, rcap⟩] 1 1 (by rfl) rfl (new_cells w6 (rc rsenc [⟨Sk.res.1, ra, rcap⟩]) 107) (by show (L.length + 1) * 56 ≤ _; omega) (by show L.length + 1 ≤ _; omega) (by simp <;> omega) ?_; intro ad7 cap7 w7 hrow7 hg7 hkeep7 hat7; have hb7 := hide (hg7.block H1 (by simp <;> omega) (hS7.out.away _ (Nat.le_refl _))); have k7 := (World.cell?_of_block (a := ⟨H1, 2, none⟩) hb7.out).trans (hS7.out.below (below1 w6 _)).c2; have z7 := (World.frozen?_of_block (a := ⟨H1, 2, none⟩) hb7.out).trans (hS7.out.below (below1 w6 _)).f2))
          all_goals
            have hS8 := hide ((hS7.out.below (below1 w6 _)).put (hy7.out.stay (below1 w6 _).size (fun b _ hl _ => (below1 w6 _).block b hl)) hg7 hrow7 hat7)
            have hmap8 : Hid ((L ++ [(⟨Sk.res.1, ra, rcap⟩ : RsA)]).map RsA.r = RL ++ [Sk.res.1]) := by show _ = _; rw [List.map_append, hmap.out]; rfl
            clear hS7 hS hg7 hrow7 hkeep7 hat7 hb7 h6 hO6 k2 c2 k7 z7 hy7 hrl6 hrfar hvlt hmap
            go_wp2
            go_roundw
            case rel => exact ⟨L.length + 1, ad7, cap7, _, by omega, by go_num, hide (by rw [HN.out]; exact hmap8.out), hide (by rw [HN.out]; exact hS8.out)⟩
            case measure => simp [intOf]; omega
        · have hkn : k = n := by omega
          subst hkn
          have x0 : wr.cell? ⟨H1, 0, none⟩ = some (.int .i64 cc) := by rw [cell_of_block hS.out.box]; rfl
          have x1 : wr.cell? ⟨H1, 1, none⟩ = some (.int .i64 ss) := by rw [cell_of_block hS.out.box]; rfl
          have x3 : wr.cell? ⟨H1, 3, none⟩ = some (.int .i64 tt) := by rw [cell_of_block hS.out.box]; rfl
          have x4 : wr.cell? ⟨H1, 4, none⟩ = some (.int .i64 uu) := by rw [cell_of_block hS.out.box]; rfl
          have z0 : wr.cell? ⟨w.heap.size + 1, 0, none⟩ = some (.int .i64 0) := by rw [cell_of_block hS.out.zero]; rfl
          have z1 : wr.cell? ⟨w.heap.size + 1, 1, none⟩ = some (.int .i64 0) := by rw [cell_of_block hS.out.zero]; rfl
          have z2 : wr.cell? ⟨w.heap.size + 1, 2, none⟩ = some (.slice none 0 0) := by rw [cell_of_block hS.out.zero]; rfl
          have z3 : wr.cell? ⟨w.heap.size + 1, 3, none⟩ = some (.int .i64 0) := by rw [cell_of_block hS.out.zero]; rfl
          have z4 : wr.cell? ⟨w.heap.size + 1, 4, none⟩ = some (.int .i64 0) := by rw [cell_of_block hS.out.zero]; rfl
          have y0 := unfrozen_of_block hS.out.zero 0
          have y1 := unfrozen_of_block hS.out.zero 1
          have y2 := unfrozen_of_block hS.out.zero 2
          have y3 := unfrozen_of_block hS.out.zero 3
          have y4 := unfrozen_of_block hS.out.zero 4
          have hrq : Hid (S.rep = (⟨cc, ss, (S3.ress k).1, tt, uu⟩, (S3.ress k).2)) := by
            show _ = _
            unfold Rd.rep
            rw [← hn'.out, hcc'.out, hss'.out, htt'.out, huu'.out, hS3e'.out]
          have hLl' := hide hLl
          clear hLl
          go_wp2
          refine bodyPost_ret (v := .agg #[.int .i64 cc, .int .i64 ss, .slice a k cap, .int .i64 tt, .int .i64 uu]) (by simp [results, Try.results41, go_sem, z0, z1, z2, z3, z4]) rfl ?_
          rw [hrq.out]
          have hrow : Gk.Row wr rsenc 107 4 (.slice a k cap) L := Gk.own_mono hS.out.row (Nat.zero_le _)
          have h1 := hS.out.h1
          have hbb : br < w.heap.size + 1 := by omega
          have hblk : ∀ b off, a = some ⟨b, off, none⟩ → L ≠ [] → H1 + 1 ≤ b := by
            intro b off ea he
            refine (hS.out.row.lt b ?_).1
            rcases hS.out.row.2 with ⟨e1, h0⟩ | ⟨g, cap', cur, e1, _⟩
            · exact absurd (List.eq_nil_of_length_eq_zero h0) he
            · simp only [Value.slice.injEq] at e1
              rw [ea] at e1 ⊢
              have := e1.1
              simp only [Option.some.injEq, Addr.mk.injEq] at this
              rw [this.1, this.2.1]
              rfl
          have hset : ∀ b, w.heap.size + 1 ≠ b → (((((wr.setCell ⟨w.heap.size + 1, 0, none⟩ (.int .i64 cc)).setCell ⟨w.heap.size + 1, 1, none⟩ (.int .i64 ss)).setCell ⟨w.heap.size + 1, 2, none⟩ (.slice a k cap)).setCell ⟨w.heap.size + 1, 3, none⟩ (.int .i64 tt)).setCell ⟨w.heap.size + 1, 4, none⟩ (.int .i64 uu)).heap[b]? = wr.heap[b]? := fun b hbk =>
            (Below.heap_setCell _ _ _ b (Ne.symm hbk)).trans ((Below.heap_setCell _ _ _ b (Ne.symm hbk)).trans ((Below.heap_setCell _ _ _ b (Ne.symm hbk)).trans ((Below.heap_setCell _ _ _ b (Ne.symm hbk)).trans (Below.heap_setCell _ _ _ b (Ne.symm hbk)))))
          refine ⟨a, cap, L, hmap.out, by rw [hLl'.out], ⟨?_, fun x hx => ?_⟩, fun b off ea he => by have := hblk b off ea he; omega, fun x hx b off ea he => by have := ((hS.out.rows x hx).2 b off ea he).1; omega, ((((hS.out.rd.set _ 0 hbb _).set _ 1 hbb _).set _ 2 hbb _).set _ 3 hbb _).set _ 4 hbb _, One.setNew (One.setNew (One.setNew (One.setNew (One.setNew hS.out.one _ 0 (Nat.le_succ _) _) _ 1 (Nat.le_succ _) _) _ 2 (Nat.le_succ _) _) _ 3 (Nat.le_succ _) _) _ 4 (Nat.le_succ _) _⟩
          · by_cases he : L = []
            · exact Or.inl he
            · exact hrow.lies.later (fun b off ea _ => hset b (by have := hblk b off ea he; omega)) (by simp)
          · by_cases he : x.r.rows = []
            · exact Or.inl he
            · exact (hS.out.rows x hx).1.later (fun b off ea _ => hset b (by have := ((hS.out.rows x hx).2 b off ea he).1; omega)) (by simp)

end Go.Proofs.Ytkjcfkninmmbhaa.Oq
