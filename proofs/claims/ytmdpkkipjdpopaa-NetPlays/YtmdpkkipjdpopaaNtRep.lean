/- Where a net lies; its state, as plain data. -/
import Derived.Test.YtmdpkkipjdpopaaGBase
namespace Go.Proofs.Ytmdpkkipjdpopaa.Nk
open Go.RowKit Go.Joins Gk

abbrev NetT : TypeId := 62
abbrev LetT : TypeId := 48
abbrev PairT : TypeId := 79
/-- a letter -/
structure Lt where
  id : Nat
  fr : Nat
  to : Nat
  body : ByteArray
abbrev Pr := Nat × Nat
def lenc (x : Lt) : List Value := [.int .i64 x.id, .int .i64 x.fr, .int .i64 x.to, .string x.body]
def penc (p : Pr) : List Value := [.int .i64 p.1, .int .i64 p.2]
abbrev lval (x : Lt) : Value := .agg #[.int .i64 x.id, .int .i64 x.fr, .int .i64 x.to, .string x.body]
abbrev pval (p : Pr) : Value := .agg #[.int .i64 p.1, .int .i64 p.2]
abbrev noL : Value := .agg #[.int .i64 0, .int .i64 0, .int .i64 0, .string ⟨#[]⟩]
theorem lenc_len (x : Lt) : (lenc x).length = 4 := rfl
theorem penc_len (x : Pr) : (penc x).length = 2 := rfl
theorem lenc_one (x : Lt) : ∀ u ∈ lenc x, u.oneCell' = true := by
  intro u hu
  simp only [lenc, List.mem_cons, List.not_mem_nil, or_false] at hu
  rcases hu with rfl | rfl | rfl | rfl <;> rfl
theorem penc_one (x : Pr) : ∀ u ∈ penc x, u.oneCell' = true := by
  intro u hu
  simp only [penc, List.mem_cons, List.not_mem_nil, or_false] at hu
  rcases hu with rfl | rfl <;> rfl
theorem let_info : (Try.prog.info? LetT).map (fun i => (i.zero, i.size, i.bytes)) = some (some noL, 4, 40) := by kernel_rfl
theorem pair_info : (Try.prog.info? PairT).map (fun i => (i.zero, i.size, i.bytes)) = some (some (.agg #[.int .i64 0, .int .i64 0]), 2, 16) := by kernel_rfl

/-- a net -/
structure Nst where
  nodes : Nat
  sent : Nat
  ls : List Lt
  ps : List Pr

structure NHeldL (w : World) (own : Nat → Prop) (bn : Nat) (S : Nst) (v u : Value) : Prop where
  block : w.heap[bn]? = some (.cells #[.int .i64 S.nodes, .int .i64 S.sent, v, u] NetT (0, 0))
  row : Row w lenc LetT 4 v S.ls
  prow : Row w penc PairT 2 u S.ps
  ownD : own bn
  ownR : ∀ g, v.ownBlock = some g → own g
  ownP : ∀ g, u.ownBlock = some g → own g
def NHeld (w : World) (own : Nat → Prop) (bn : Nat) (S : Nst) : Prop := ∃ v u, NHeldL w own bn S v u

section
variable {w w' : World} {own : Nat → Prop} {bn : Nat} {S : Nst} {v u : Value}
theorem NHeldL.lt (h : NHeldL w own bn S v u) : bn < w.heap.size := (Array.getElem?_eq_some_iff.1 h.block).1
theorem NHeldL.rowLt (h : NHeldL w own bn S v u) {g : Nat} (hg : v.ownBlock = some g) : g < w.heap.size := (h.row.lt g hg).2
theorem NHeldL.prowLt (h : NHeldL w own bn S v u) {g : Nat} (hg : u.ownBlock = some g) : g < w.heap.size := (h.prow.lt g hg).2
theorem NHeldL.rowNe (h : NHeldL w own bn S v u) {g : Nat} (hg : v.ownBlock = some g) : g ≠ bn := own_ne h.row h.block (by decide) hg
theorem NHeldL.prowNe (h : NHeldL w own bn S v u) {g : Nat} (hg : u.ownBlock = some g) : g ≠ bn := own_ne h.prow h.block (by decide) hg
theorem NHeldL.apart (h : NHeldL w own bn S v u) {g g' : Nat} (hg : v.ownBlock = some g) (hg' : u.ownBlock = some g') : g ≠ g' := by
  rcases h.prow.2 with ⟨e, _⟩ | ⟨g1, _, cur, e, _, hc, _⟩
  · rw [e] at hg'; simp [Value.ownBlock] at hg'
  · rw [e] at hg'; simp only [Value.ownBlock, Option.some.injEq] at hg'
    subst hg'
    exact own_ne h.row hc (by decide) hg
theorem NHeldL.frame (h : NHeldL w own bn S v u) (hs : ∀ k, k < w.heap.size → own k → w'.heap[k]? = w.heap[k]?) : NHeldL w' own bn S v u :=
  ⟨(hs _ h.lt h.ownD).trans h.block, h.row.stay fun g hg => hs g (h.rowLt hg) (h.ownR g hg), h.prow.stay fun g hg => hs g (h.prowLt hg) (h.ownP g hg), h.ownD, h.ownR, h.ownP⟩
theorem NHeldL.below (h : NHeldL w own bn S v u) (hb : Below w.heap.size w w') : NHeldL w' own bn S v u := h.frame fun k hk _ => hb.block k hk
theorem NHeldL.owns {own' : Nat → Prop} (h : NHeldL w own bn S v u) (ho : ∀ b, b < w.heap.size → own b → own' b) : NHeldL w own' bn S v u :=
  ⟨h.block, h.row, h.prow, ho _ h.lt h.ownD, fun g hg => ho g (h.rowLt hg) (h.ownR g hg), fun g hg => ho g (h.prowLt hg) (h.ownP g hg)⟩
/-- it owns no more than it has -/
theorem NHeldL.tight (h : NHeldL w own bn S v u) : ∃ own' : Nat → Prop, NHeldL w own' bn S v u ∧ ∀ b, own' b → own b ∧ b < w.heap.size :=
  ⟨fun b => b = bn ∨ v.ownBlock = some b ∨ u.ownBlock = some b, ⟨h.block, h.row, h.prow, Or.inl rfl, fun _ hg => Or.inr (Or.inl hg), fun _ hg => Or.inr (Or.inr hg)⟩, fun b hb => by
    rcases hb with rfl | hb | hb
    · exact ⟨h.ownD, h.lt⟩
    · exact ⟨h.ownR b hb, h.rowLt hb⟩
    · exact ⟨h.ownP b hb, h.prowLt hb⟩⟩
theorem NHeldL.c0 (h : NHeldL w own bn S v u) : w.cell? ⟨bn, 0, none⟩ = some (.int .i64 S.nodes) := by rw [cell_of_block h.block]; rfl
theorem NHeldL.c1 (h : NHeldL w own bn S v u) : w.cell? ⟨bn, 1, none⟩ = some (.int .i64 S.sent) := by rw [cell_of_block h.block]; rfl
theorem NHeldL.c2 (h : NHeldL w own bn S v u) : w.cell? ⟨bn, 2, none⟩ = some v := by rw [cell_of_block h.block]; rfl
theorem NHeldL.c3 (h : NHeldL w own bn S v u) : w.cell? ⟨bn, 3, none⟩ = some u := by rw [cell_of_block h.block]; rfl
theorem NHeldL.fz (h : NHeldL w own bn S v u) (i : Nat) : w.frozen? ⟨bn, i, none⟩ = false := unfrozen_of_block h.block i
/-- the number of those sent is set -/
theorem NHeldL.setSent (h : NHeldL w own bn S v u) (n : Nat) : NHeldL (w.setCell ⟨bn, 1, none⟩ (.int .i64 n)) own bn { S with sent := n } v u :=
  ⟨by rw [block_setCell h.block]; rfl, h.row.stay fun g hg => Below.heap_setCell w _ _ g (h.rowNe hg), h.prow.stay fun g hg => Below.heap_setCell w _ _ g (h.prowNe hg), h.ownD, h.ownR, h.ownP⟩
/-- another row of letters is set -/
theorem NHeldL.setRow (h : NHeldL w own bn S v u) {w1 : World} {v' : Value} {ls : List Lt} (hr : Row w1 lenc LetT 4 v' ls) (hb : w1.heap[bn]? = w.heap[bn]?) (hp : ∀ g, u.ownBlock = some g → w1.heap[g]? = w.heap[g]?) (ho : ∀ g, v'.ownBlock = some g → own g) : NHeldL (w1.setCell ⟨bn, 2, none⟩ v') own bn { S with ls := ls } v' u := by
  have hblk := hb.trans h.block
  refine ⟨by rw [block_setCell hblk]; rfl, hr.stay fun g hg => Below.heap_setCell w1 _ _ g (own_ne hr hblk (by decide) hg), h.prow.stay fun g hg => (Below.heap_setCell w1 _ _ g (h.prowNe hg)).trans (hp g hg), h.ownD, ho, h.ownP⟩
/-- another row of pairs is set -/
theorem NHeldL.setPairs (h : NHeldL w own bn S v u) {w1 : World} {u' : Value} {ps : List Pr} (hr : Row w1 penc PairT 2 u' ps) (hb : w1.heap[bn]? = w.heap[bn]?) (hp : ∀ g, v.ownBlock = some g → w1.heap[g]? = w.heap[g]?) (ho : ∀ g, u'.ownBlock = some g → own g) : NHeldL (w1.setCell ⟨bn, 3, none⟩ u') own bn { S with ps := ps } v u' := by
  have hblk := hb.trans h.block
  refine ⟨by rw [block_setCell hblk]; rfl, h.row.stay fun g hg => (Below.heap_setCell w1 _ _ g (h.rowNe hg)).trans (hp g hg), hr.stay fun g hg => Below.heap_setCell w1 _ _ g (own_ne hr hblk (by decide) hg), h.ownD, h.ownR, ho⟩
theorem NHeld.frame (h : NHeld w own bn S) (hs : ∀ k, k < w.heap.size → own k → w'.heap[k]? = w.heap[k]?) : NHeld w' own bn S := let ⟨v, u, h⟩ := h; ⟨v, u, h.frame hs⟩
theorem NHeld.below (h : NHeld w own bn S) (hb : Below w.heap.size w w') : NHeld w' own bn S := let ⟨v, u, h⟩ := h; ⟨v, u, h.below hb⟩
theorem NHeld.owns {own' : Nat → Prop} (h : NHeld w own bn S) (ho : ∀ b, b < w.heap.size → own b → own' b) : NHeld w own' bn S := let ⟨v, u, h⟩ := h; ⟨v, u, h.owns ho⟩
theorem NHeld.lt (h : NHeld w own bn S) : bn < w.heap.size := let ⟨_, _, h⟩ := h; h.lt
theorem NHeld.ownD (h : NHeld w own bn S) : own bn := let ⟨_, _, h⟩ := h; h.ownD
end

/-- is it a node -/
def hasN (n : Nat) (x : Int) : Bool := decide (0 ≤ x ∧ x < n)

set_option maxHeartbeats 400000 in
theorem has_any {own : Nat → Prop} {bn : Nat} {S : Nst} {v u : Value} (w : World) (h : NHeldL w own bn S v u) (x : Int) :
    Calls Try.prog 31 #[.pointer (some ⟨bn, 0, none⟩), .int .i64 x] w fun e w' => e = .returned (.bool (hasN S.nodes x)) ∧ w' = w := by
  have c0 := h.c0
  by_cases h0 : 0 ≤ x
  · by_cases h1 : x < S.nodes
    · have hv : hasN S.nodes x = true := by simp [hasN, h0, h1]
      rw [hv]
      go_enter Try.func31, Try.ntmps31
      go_wp2
      go_ret
      exact ⟨rfl, rfl⟩
    · have hv : hasN S.nodes x = false := by simp [hasN, h1]
      rw [hv]
      have h1' : (S.nodes : Int) ≤ x := by omega
      go_enter Try.func31, Try.ntmps31
      go_wp2
      go_ret
      exact ⟨rfl, rfl⟩
  · have hv : hasN S.nodes x = false := by simp [hasN, h0]
    rw [hv]
    have h0' : x < 0 := by omega
    go_enter Try.func31, Try.ntmps31
    go_wp2
    go_ret
    exact ⟨rfl, rfl⟩

def Nst.full (S : Nst) : Bool := decide (4096 ≤ S.ls.length ∨ 1099511627776 ≤ S.sent)

set_option maxHeartbeats 400000 in
theorem full_any {own : Nat → Prop} {bn : Nat} {S : Nst} {v u : Value} (w : World) (h : NHeldL w own bn S v u) (hs : S.sent ≤ 1099511627776) :
    Calls Try.prog 32 #[.pointer (some ⟨bn, 0, none⟩)] w fun e w' => e = .returned (.bool S.full) ∧ w' = w := by
  have c1 := h.c1
  have c2 := h.c2
  obtain ⟨av, cv, rfl⟩ := h.row.slice
  by_cases h0 : 4096 ≤ S.ls.length
  · have hv : S.full = true := by simp [Nst.full, h0]
    rw [hv]
    have h0' : (4096 : Int) ≤ (S.ls.length : Int) := by omega
    go_enter Try.func32, Try.ntmps32
    go_wp2
    go_ret
    exact ⟨rfl, rfl⟩
  · by_cases h1 : 1099511627776 ≤ S.sent
    · have hv : S.full = true := by simp [Nst.full, h1]
      rw [hv]
      have h0' : (S.ls.length : Int) < (4096 : Int) := by omega
      have h1' : (1099511627776 : Int) ≤ (S.sent : Int) := by omega
      go_enter Try.func32, Try.ntmps32
      go_wp2
      go_ret
      exact ⟨rfl, rfl⟩
    · have hv : S.full = false := by simp [Nst.full]; omega
      rw [hv]
      have h0' : (S.ls.length : Int) < (4096 : Int) := by omega
      have h1' : (S.sent : Int) < (1099511627776 : Int) := by omega
      go_enter Try.func32, Try.ntmps32
      go_wp2
      go_ret
      refine ⟨?_, rfl⟩
      show Ending.returned (.bool (decide ((4096 : Int) ≤ (S.ls.length : Int)) || decide ((1099511627776 : Int) ≤ (S.sent : Int)))) = _
      rw [decide_eq_false (by omega), decide_eq_false (by omega)]; rfl

def prOf (a b : Nat) : Pr := (min a b, max a b)

set_option maxHeartbeats 400000 in
theorem pairOf_any (a b : Nat) (w : World) :
    Calls Try.prog 39 #[.int .i64 a, .int .i64 b] w fun e w' => e = .returned (pval (prOf a b)) ∧ Below w.heap.size w w' := by
  have e1 : (min (a : Int) b) = ((min a b : Nat) : Int) := by omega
  have e2 : (max (a : Int) b) = ((max a b : Nat) : Int) := by omega
  have E1 := hide e1
  have E2 := hide e2
  clear e1 e2
  go_enter Try.func39, Try.ntmps39
  go_wp2
  refine bodyPost_ret (v := .agg #[.int .i64 (min (a : Int) b), .int .i64 (max (a : Int) b)]) (by simp [results, Try.results39, go_sem]) rfl ⟨?_, below_alloc1 _ _⟩
  rw [E1.out, E2.out]; rfl

set_option maxHeartbeats 400000 in
theorem new_bad (n : Int) (w : World) (h : n < 1 ∨ 16 < n) :
    Calls Try.prog 8 #[.int .i64 n] w fun e w' => e = .returned (.tuple #[.pointer none, .int .i64 1]) ∧ w' = w := by
  rcases h with h | h
  · go_enter Try.func8, Try.ntmps8
    go_wp2
    go_ret2
    exact ⟨rfl, rfl⟩
  · have h' : ¬ n < 1 := by omega
    go_enter Try.func8, Try.ntmps8
    go_wp2
    go_ret2
    exact ⟨rfl, rfl⟩

set_option maxHeartbeats 400000 in
theorem new_ok (n : Nat) (w : World) (h1 : 1 ≤ n) (h2 : n ≤ 16) (own : Nat → Prop) (ho : own w.heap.size) :
    Calls Try.prog 8 #[.int .i64 n] w fun e w' => ∃ bn, e = .returned (.tuple #[.pointer (some ⟨bn, 0, none⟩), .int .i64 0]) ∧ bn = w.heap.size ∧ NHeld w' own bn ⟨n, 0, [], []⟩ ∧ Below w.heap.size w w' := by
  have i1 : (1 : Int) ≤ (n : Int) := by omega
  have i2 : (n : Int) ≤ (16 : Int) := by omega
  go_enter Try.func8, Try.ntmps8
  go_wp2
  go_ret2
  refine ⟨_, rfl, rfl, ⟨.slice none 0 0, .slice none 0 0, ⟨heap_alloc_new w _, Row.nil _ _, Row.nil _ _, ho, fun g hg => by simp [Value.ownBlock] at hg, fun g hg => by simp [Value.ownBlock] at hg⟩⟩, below_alloc1 _ _⟩

end Go.Proofs.Ytmdpkkipjdpopaa.Nk
