/- Where a clock lies; its state, as plain data. -/
import Derived.Test.YtkofmdchopfcgaaGRow
import Derived.Test.YtkofmdchopfcgaaGArgs
namespace Go.Proofs.Ytkofmdchopfcgaa.Ck
open Go.RowKit Go.Joins Gk

abbrev IntT : TypeId := 3
abbrev ClkT : TypeId := 51
theorem int_info : (Try.prog.info? IntT).map (fun i => (i.zero, i.size, i.bytes)) = some (some (.int .i64 0), 1, 8) := by kernel_rfl

/-- a clock: its nodes' times, its word -/
structure Cst where
  ts : List Int
  wd : Int
structure Cst.Ok (S : Cst) : Prop where
  n1 : 1 ≤ S.ts.length
  n2 : S.ts.length ≤ 16
  each : ∀ t ∈ S.ts, 0 ≤ t ∧ t ≤ 1073741824
  wd : 0 ≤ S.wd ∧ S.wd < 18446744073709551616

structure CHeldL (w : World) (T : TypeId) (bc g : Nat) (S : Cst) (cap : Nat) : Prop where
  block : w.heap[bc]? = some (.cells #[.slice (some ⟨g, 0, none⟩) S.ts.length cap, .int .u64 S.wd] T (0, 0))
  row : Row w ienc IntT 1 (.slice (some ⟨g, 0, none⟩) S.ts.length cap) S.ts
  ne : g ≠ bc
def CHeld (w : World) (T : TypeId) (bc g : Nat) (S : Cst) : Prop := ∃ cap, CHeldL w T bc g S cap
/-- the two blocks of a clock -/
abbrev two (bc g : Nat) : Nat → Prop := fun b => b = bc ∨ b = g

section
variable {w w' : World} {T : TypeId} {bc g cap : Nat} {S : Cst}
theorem CHeldL.lt (h : CHeldL w T bc g S cap) : bc < w.heap.size := (Array.getElem?_eq_some_iff.1 h.block).1
theorem CHeldL.rowLt (h : CHeldL w T bc g S cap) : g < w.heap.size := (h.row.lt g rfl).2
theorem CHeldL.stay (h : CHeldL w T bc g S cap) (h1 : w'.heap[bc]? = w.heap[bc]?) (h2 : w'.heap[g]? = w.heap[g]?) : CHeldL w' T bc g S cap :=
  ⟨h1.trans h.block, h.row.stay fun k hk => by simp only [Value.ownBlock, Option.some.injEq] at hk; subst hk; exact h2, h.ne⟩
theorem CHeldL.below (h : CHeldL w T bc g S cap) (hb : Below w.heap.size w w') : CHeldL w' T bc g S cap := h.stay (hb.block _ h.lt) (hb.block _ h.rowLt)
theorem CHeldL.c0 (h : CHeldL w T bc g S cap) : w.cell? ⟨bc, 0, none⟩ = some (.slice (some ⟨g, 0, none⟩) S.ts.length cap) := by rw [cell_of_block h.block]; rfl
theorem CHeldL.c1 (h : CHeldL w T bc g S cap) : w.cell? ⟨bc, 1, none⟩ = some (.int .u64 S.wd) := by rw [cell_of_block h.block]; rfl
theorem CHeldL.fz (h : CHeldL w T bc g S cap) (i : Nat) : w.frozen? ⟨bc, i, none⟩ = false := unfrozen_of_block h.block i
theorem CHeldL.at (h : CHeldL w T bc g S cap) (i : Nat) (hi : i < S.ts.length) : w.cell? ⟨g, i, none⟩ = some (.int .i64 S.ts[i]) := by
  have := (h.row.celled ienc_len i hi).2 0 _ rfl
  rwa [Nat.mul_one, Nat.add_zero] at this
theorem CHeldL.rfz (h : CHeldL w T bc g S cap) (i : Nat) (hi : i < S.ts.length) : w.frozen? ⟨g, i, none⟩ = false := by
  obtain ⟨a, c, cur, e, hg, _⟩ := own_form h.row (by omega)
  cases e
  exact unfrozen_of_block hg i
/-- the word is set -/
theorem CHeldL.setWord (h : CHeldL w T bc g S cap) (x : Int) : CHeldL (w.setCell ⟨bc, 1, none⟩ (.int .u64 x)) T bc g { S with wd := x } cap :=
  ⟨by rw [block_setCell h.block]; rfl, h.row.stay fun k hk => by simp only [Value.ownBlock, Option.some.injEq] at hk; subst hk; exact Below.heap_setCell w _ _ _ h.ne, h.ne⟩
/-- a time is set -/
theorem CHeldL.setTime (h : CHeldL w T bc g S cap) (i : Nat) (hi : i < S.ts.length) (x : Int) : CHeldL (w.setCell ⟨g, i, none⟩ (.int .i64 x)) T bc g { S with ts := S.ts.set i x } cap := by
  refine ⟨?_, ?_, h.ne⟩
  · rw [Below.heap_setCell w _ _ _ (Ne.symm h.ne), h.block]; simp
  · have := h.row.set ienc_len i hi x
    rw [Nat.mul_one] at this
    simp only [List.length_set]
    exact this
theorem CHeld.stay (h : CHeld w T bc g S) (h1 : w'.heap[bc]? = w.heap[bc]?) (h2 : w'.heap[g]? = w.heap[g]?) : CHeld w' T bc g S := let ⟨c, h⟩ := h; ⟨c, h.stay h1 h2⟩
theorem CHeld.below (h : CHeld w T bc g S) (hb : Below w.heap.size w w') : CHeld w' T bc g S := let ⟨c, h⟩ := h; ⟨c, h.below hb⟩
theorem CHeld.lt (h : CHeld w T bc g S) : bc < w.heap.size := let ⟨_, h⟩ := h; h.lt
theorem CHeld.rowLt (h : CHeld w T bc g S) : g < w.heap.size := let ⟨_, h⟩ := h; h.rowLt
theorem CHeld.ne (h : CHeld w T bc g S) : g ≠ bc := let ⟨_, h⟩ := h; h.ne
theorem CHeld.only (h : CHeld w T bc g S) {own : Nat → Prop} (ho : Only own w w') (h1 : ¬ own bc) (h2 : ¬ own g) : CHeld w' T bc g S := h.stay (ho.block _ h.lt h1) (ho.block _ h.rowLt h2)
end

/-- the greatest, the least of a list -/
def mostL (l : List Int) : Int := l.max?.getD 0
def leastL (l : List Int) : Int := l.min?.getD 0
theorem mostL_iff {l : List Int} {m : Int} (h : m ∈ l) (hm : ∀ x ∈ l, x ≤ m) : mostL l = m := by
  have : l.max? = some m := List.max?_eq_some_iff.2 ⟨h, hm⟩
  simp [mostL, this]
theorem leastL_iff {l : List Int} {m : Int} (h : m ∈ l) (hm : ∀ x ∈ l, m ≤ x) : leastL l = m := by
  have : l.min? = some m := List.min?_eq_some_iff.2 ⟨h, hm⟩
  simp [leastL, this]
theorem mostL_is {l : List Int} (h : 1 ≤ l.length) : mostL l ∈ l ∧ ∀ x ∈ l, x ≤ mostL l := by
  cases e : l.max? with
  | none => rw [List.max?_eq_none_iff.1 e] at h; simp at h
  | some m =>
    have : mostL l = m := by simp [mostL, e]
    rw [this]
    exact List.max?_eq_some_iff.1 e
theorem leastL_is {l : List Int} (h : 1 ≤ l.length) : leastL l ∈ l ∧ ∀ x ∈ l, leastL l ≤ x := by
  cases e : l.min? with
  | none => rw [List.min?_eq_none_iff.1 e] at h; simp at h
  | some m =>
    have : leastL l = m := by simp [leastL, e]
    rw [this]
    exact List.min?_eq_some_iff.1 e
def Cst.most (S : Cst) : Int := mostL S.ts
def Cst.least (S : Cst) : Int := leastL S.ts
theorem Cst.Ok.most {S : Cst} (h : S.Ok) : 0 ≤ S.most ∧ S.most ≤ 1073741824 := h.each _ (mostL_is h.n1).1
theorem Cst.Ok.least {S : Cst} (h : S.Ok) : 0 ≤ S.least ∧ S.least ≤ 1073741824 := h.each _ (leastL_is h.n1).1

/-- the next word, and what is mixed of it -/
def nextW (x : Int) : Int := IntKind.wrap .u64 (x + 11400714819323198485)
def mixA (x : Int) : Int := IntKind.wrap .u64 (bits .xor .u64 x (x / 1073741824) * 13787848793156543929)
def mixB (x : Int) : Int := IntKind.wrap .u64 (bits .xor .u64 x (x / 134217728) * 10723151780598845931)
def mixC (x : Int) : Int := bits .xor .u64 x (x / 2147483648)
def mixW (x : Int) : Int := mixC (mixB (mixA x))

/-- is it a node -/
def Cst.has (S : Cst) (nd : Int) : Bool := decide (0 ≤ nd ∧ nd < S.ts.length)
theorem Cst.has_iff {S : Cst} {nd : Int} : S.has nd = true ↔ 0 ≤ nd ∧ nd < S.ts.length := by simp [Cst.has]
/-- a node's time -/
def Cst.tm (S : Cst) (nd : Int) : Int := S.ts.getD nd.toNat 0
theorem Cst.tm_at (S : Cst) (i : Nat) (hi : i < S.ts.length) : S.tm i = S.ts[i] := by simp [Cst.tm, hi]
theorem Cst.Ok.tm {S : Cst} (h : S.Ok) {nd : Int} (hn : S.has nd = true) : 0 ≤ S.tm nd ∧ S.tm nd ≤ 1073741824 := by
  obtain ⟨h0, h1⟩ := Cst.has_iff.1 hn
  have hi : nd.toNat < S.ts.length := by omega
  have : S.tm nd = S.ts[nd.toNat] := by simp [Cst.tm, hi]
  rw [this]
  exact h.each _ (List.getElem_mem hi)
/-- may a time go on -/
def mayGo (t n : Int) : Int := if n < 0 then 1 else if 1073741824 - t < n then 2 else 0
def Cst.now (S : Cst) (nd : Int) : Int × Int := if S.has nd = true then (S.tm nd, 0) else (0, 30)
def Cst.step (S : Cst) (nd n : Int) : (Int × Int) × Cst :=
  if S.has nd = true then (if mayGo (S.tm nd) n = 0 then ((S.tm nd + n, 0), { S with ts := S.ts.set nd.toNat (S.tm nd + n) }) else ((0, mayGo (S.tm nd) n), S)) else ((0, 30), S)
def Cst.all (S : Cst) (n : Int) : Int × Cst := if mayGo S.most n = 0 then (0, { S with ts := S.ts.map (· + n) }) else (mayGo S.most n, S)
def Cst.apart (S : Cst) : Int := S.most - S.least
def Cst.draw (S : Cst) (n : Int) : (Int × Int) × Cst := if 1 ≤ n ∧ n ≤ 2147483648 then ((mixW (nextW S.wd) % n, 0), { S with wd := nextW S.wd }) else ((0, 1), S)

theorem mayGo_zero {t n : Int} : mayGo t n = 0 ↔ 0 ≤ n ∧ n ≤ 1073741824 - t := by
  unfold mayGo
  split
  · omega
  · split <;> omega

end Go.Proofs.Ytkofmdchopfcgaa.Ck
