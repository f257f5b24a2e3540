/- Where the document's net lies (skylarkref03); walks: none, find, Parted. -/
import Derived.Test.YtmdpkkipjdpopaaNtFree
namespace Go.Proofs.Ytmdpkkipjdpopaa.Nk
open Go.RowKit Go.Joins Gk

abbrev RNetT : TypeId := 66
abbrev RLetT : TypeId := 68
abbrev BoolsT : TypeId := 67
abbrev BoolT : TypeId := 4
def genc (n : Nat) (g : Nat) : List Value := [.slice (some ⟨g, 0, none⟩) n n]
theorem genc_len (n g : Nat) : (genc n g).length = 1 := rfl
/-- a node's row of the table of those that are parted -/
def cutRow (S : Nst) (i : Nat) : Array Value := ((List.range S.nodes).map fun j => Value.bool (S.parted i j)).toArray
theorem cutRow_at (S : Nst) (i j : Nat) (h : j < S.nodes) : (cutRow S i)[j]? = some (.bool (S.parted i j)) := by simp [cutRow, h]
theorem cutRow_size (S : Nst) (i : Nat) : (cutRow S i).size = S.nodes := by simp [cutRow]

structure RNHeldL (w : World) (own : Nat → Prop) (br : Nat) (S : Nst) (v u : Value) (gs : List Nat) : Prop where
  block : w.heap[br]? = some (.cells #[.int .i64 S.nodes, v, .int .i64 S.sent, u] RNetT (0, 0))
  row : Row w lenc RLetT 4 v S.ls
  crow : Row w (genc S.nodes) BoolsT 1 u gs
  glen : gs.length = S.nodes
  gnod : gs.Nodup
  cut : ∀ i (h : i < gs.length), w.heap[gs[i]]? = some (.cells (cutRow S i) BoolT (0, 0))
  ownD : own br
  ownR : ∀ g, v.ownBlock = some g → own g
  ownC : ∀ g, u.ownBlock = some g → own g
  ownG : ∀ g ∈ gs, own g
def RNHeld (w : World) (own : Nat → Prop) (br : Nat) (S : Nst) : Prop := ∃ v u gs, RNHeldL w own br S v u gs

theorem row_block {α : Type} {enc : α → List Value} {k : Nat} {w : World} {e : Nat} {v : Value} {l : List α} (h : Row w enc e k v l) {g : Nat} (hg : v.ownBlock = some g) : ∃ cur, w.heap[g]? = some (.cells cur e (0, 0)) := by
  rcases h.2 with ⟨e1, _⟩ | ⟨g', _, cur, e1, _, hc, _⟩
  · rw [e1] at hg; simp [Value.ownBlock] at hg
  · rw [e1] at hg; simp only [Value.ownBlock, Option.some.injEq] at hg; subst hg
    exact ⟨cur, hc⟩
section
variable {w w' : World} {own : Nat → Prop} {br : Nat} {S : Nst} {v u : Value} {gs : List Nat}
theorem RNHeldL.lt (h : RNHeldL w own br S v u gs) : br < w.heap.size := (Array.getElem?_eq_some_iff.1 h.block).1
/-- it stays where nothing of its own make turns -/
theorem RNHeldL.stay (h : RNHeldL w own br S v u gs) (hs : ∀ (b : Nat) (cs : Array Value) (t : TypeId), w.heap[b]? = some (.cells cs t (0, 0)) → (t = RNetT ∨ t = RLetT ∨ t = BoolsT ∨ t = BoolT) → own b → w'.heap[b]? = w.heap[b]?) : RNHeldL w' own br S v u gs :=
  ⟨(hs _ _ _ h.block (Or.inl rfl) h.ownD).trans h.block, h.row.stay fun g hg => let ⟨_, hc⟩ := row_block h.row hg; hs _ _ _ hc (Or.inr (Or.inl rfl)) (h.ownR g hg),
    h.crow.stay fun g hg => let ⟨_, hc⟩ := row_block h.crow hg; hs _ _ _ hc (Or.inr (Or.inr (Or.inl rfl))) (h.ownC g hg), h.glen, h.gnod,
    fun i hi => (hs _ _ _ (h.cut i hi) (Or.inr (Or.inr (Or.inr rfl))) (h.ownG _ (List.getElem_mem hi))).trans (h.cut i hi), h.ownD, h.ownR, h.ownC, h.ownG⟩
theorem RNHeldL.below (h : RNHeldL w own br S v u gs) (hb : Below w.heap.size w w') : RNHeldL w' own br S v u gs := h.stay fun b _ _ hc _ _ => hb.block b (Array.getElem?_eq_some_iff.1 hc).1
theorem RNHeldL.owns {own' : Nat → Prop} (h : RNHeldL w own br S v u gs) (ho : ∀ b, own b → own' b) : RNHeldL w own' br S v u gs :=
  ⟨h.block, h.row, h.crow, h.glen, h.gnod, h.cut, ho _ h.ownD, fun g hg => ho g (h.ownR g hg), fun g hg => ho g (h.ownC g hg), fun g hg => ho g (h.ownG g hg)⟩
theorem RNHeldL.c0 (h : RNHeldL w own br S v u gs) : w.cell? ⟨br, 0, none⟩ = some (.int .i64 S.nodes) := by rw [cell_of_block h.block]; rfl
theorem RNHeldL.c1 (h : RNHeldL w own br S v u gs) : w.cell? ⟨br, 1, none⟩ = some v := by rw [cell_of_block h.block]; rfl
theorem RNHeldL.c2 (h : RNHeldL w own br S v u gs) : w.cell? ⟨br, 2, none⟩ = some (.int .i64 S.sent) := by rw [cell_of_block h.block]; rfl
theorem RNHeldL.c3 (h : RNHeldL w own br S v u gs) : w.cell? ⟨br, 3, none⟩ = some u := by rw [cell_of_block h.block]; rfl
theorem RNHeldL.fz (h : RNHeldL w own br S v u gs) (i : Nat) : w.frozen? ⟨br, i, none⟩ = false := unfrozen_of_block h.block i
/-- another row of letters is set -/
theorem RNHeldL.setRow (h : RNHeldL w own br S v u gs) {v' : Value} {ls : List Lt} (hr : Row w lenc RLetT 4 v' ls) (ho : ∀ g, v'.ownBlock = some g → own g) : RNHeldL (w.setCell ⟨br, 1, none⟩ v') own br { S with ls := ls } v' u gs := by
  have hne : ∀ (b : Nat) (cs : Array Value) (t : TypeId), w.heap[b]? = some (.cells cs t (0, 0)) → t ≠ RNetT → (w.setCell ⟨br, 1, none⟩ v').heap[b]? = w.heap[b]? := fun b cs t hc ht => Below.heap_setCell w _ _ b fun e => by
    cases e; rw [h.block] at hc; cases hc; exact ht rfl
  exact ⟨by rw [block_setCell h.block]; rfl, hr.stay fun g hg => let ⟨_, hc⟩ := row_block hr hg; hne _ _ _ hc (by decide), h.crow.stay fun g hg => let ⟨_, hc⟩ := row_block h.crow hg; hne _ _ _ hc (by decide), h.glen, h.gnod,
    fun i hi => (hne _ _ _ (h.cut i hi) (by decide)).trans (h.cut i hi), h.ownD, ho, h.ownC, h.ownG⟩
/-- the number of those sent is set -/
theorem RNHeldL.setSent (h : RNHeldL w own br S v u gs) (n : Nat) : RNHeldL (w.setCell ⟨br, 2, none⟩ (.int .i64 n)) own br { S with sent := n } v u gs := by
  have hne : ∀ (b : Nat) (cs : Array Value) (t : TypeId), w.heap[b]? = some (.cells cs t (0, 0)) → t ≠ RNetT → (w.setCell ⟨br, 2, none⟩ (.int .i64 n)).heap[b]? = w.heap[b]? := fun b cs t hc ht => Below.heap_setCell w _ _ b fun e => by
    cases e; rw [h.block] at hc; cases hc; exact ht rfl
  exact ⟨by rw [block_setCell h.block]; rfl, h.row.stay fun g hg => let ⟨_, hc⟩ := row_block h.row hg; hne _ _ _ hc (by decide), h.crow.stay fun g hg => let ⟨_, hc⟩ := row_block h.crow hg; hne _ _ _ hc (by decide), h.glen, h.gnod,
    fun i hi => (hne _ _ _ (h.cut i hi) (by decide)).trans (h.cut i hi), h.ownD, h.ownR, h.ownC, h.ownG⟩
theorem RNHeldL.cutAt (h : RNHeldL w own br S v u gs) (i j : Nat) (hi : i < S.nodes) (hj : j < S.nodes) : ∃ g cap g', u = .slice (some ⟨g, 0, none⟩) S.nodes cap ∧ w.cell? ⟨g, i, none⟩ = some (.slice (some ⟨g', 0, none⟩) S.nodes S.nodes) ∧ w.cell? ⟨g', j, none⟩ = some (.bool (S.parted i j)) ∧ w.frozen? ⟨g', j, none⟩ = false ∧ g < w.heap.size ∧ g' < w.heap.size ∧ gs[i]? = some g' := by
  have hgi : i < gs.length := by rw [h.glen]; exact hi
  obtain ⟨g, cap, rfl, hgl, hc⟩ := h.crow.at (genc_len S.nodes) i hgi
  have hcut := h.cut i hgi
  refine ⟨g, cap, gs[i], by rw [h.glen], ?_, ?_, unfrozen_of_block hcut j, hgl, (Array.getElem?_eq_some_iff.1 hcut).1, List.getElem?_eq_getElem hgi⟩
  · have := hc 0 _ rfl; rwa [Nat.mul_one, Nat.add_zero] at this
  · rw [cell_of_block hcut]; exact cutRow_at S i j hj
end
theorem RNHeld.below {w w' : World} {own : Nat → Prop} {br : Nat} {S : Nst} (h : RNHeld w own br S) (hb : Below w.heap.size w w') : RNHeld w' own br S := let ⟨v, u, gs, h⟩ := h; ⟨v, u, gs, h.below hb⟩

set_option maxHeartbeats 400000 in
theorem rnone_any {own : Nat → Prop} {br : Nat} {S : Nst} {v u : Value} {gs : List Nat} (w : World) (h : RNHeldL w own br S v u gs) (x : Int) :
    Calls Try.prog 44 #[.pointer (some ⟨br, 0, none⟩), .int .i64 x] w fun e w' => e = .returned (.bool (!hasN S.nodes x)) ∧ w = w' := by
  have c0 := h.c0
  by_cases h0 : x < 0
  · have hv : hasN S.nodes x = false := by simp [hasN]; omega
    rw [hv]
    clear hv
    go_enter Try.func44, Try.ntmps44
    go_wp2
    go_ret
    exact ⟨rfl, rfl⟩
  · by_cases h1 : (S.nodes : Int) ≤ x
    · have hv : hasN S.nodes x = false := by simp [hasN]; omega
      rw [hv]
      clear hv
      go_enter Try.func44, Try.ntmps44
      go_wp2
      go_ret
      exact ⟨rfl, rfl⟩
    · have hv : hasN S.nodes x = true := by simp [hasN]; omega
      rw [hv]
      clear hv
      go_enter Try.func44, Try.ntmps44
      go_wp2
      go_ret
      exact ⟨rfl, rfl⟩

set_option maxHeartbeats 800000 in
theorem rfind_any {own : Nat → Prop} {br : Nat} {S : Nst} {v u : Value} {gs : List Nat} (w : World) (h : RNHeldL w own br S v u gs) (hl : S.ls.length ≤ 4096) (id : Int) :
    Calls Try.prog 46 #[.pointer (some ⟨br, 0, none⟩), .int .i64 id] w fun e w' => e = .returned (.int .i64 (idxI (isId id) S.ls)) ∧ Below w.heap.size w w' := by
  obtain ⟨av, cv, rfl⟩ := h.row.slice
  have c1 := h.c1
  have hlies := h.row.lies
  have hbl := h.lt
  generalize S.ls = l at *
  clear h
  go_enter Try.func46, Try.ntmps46
  go_wp2
  go_loopw [5] (fun i wr => ∃ k : Nat, k ≤ l.length ∧ i = .int .i64 k ∧ Below w.heap.size w wr ∧ Hid (∀ j (hj : j < l.length), j < k → isId id l[j] = false)) (fun i _ => l.length - (intOf i).toNat)
  case atStart => exact ⟨0, by omega, rfl, Below.refl _ _, fun j _ hj => by omega⟩
  case round =>
    obtain ⟨k, hk, rfl, hbel, HA⟩ := hrel
    have c1' := (hbel.cell (p := ⟨br, 1, none⟩) hbl).trans c1
    by_cases hlt : k < l.length
    · obtain ⟨b, off, rfl, hbl', hc⟩ := (hlies.below hbel).at (k := 4) lenc_len k hlt
      have i1 : (0 : Int) ≤ (k : Int) := by omega
      have i2 : (k : Int) < (l.length : Int) := by omega
      have d0 := hc 0 _ rfl
      rw [Nat.add_zero] at d0
      clear hc
      obtain ⟨x, hx⟩ : ∃ x, l[k] = x := ⟨_, rfl⟩
      rw [hx] at d0
      have HX := hide hx
      clear hx
      cases hq : ((x.id : Int) == id) with
      | true =>
        go_wp2
        go_ret
        refine ⟨?_, hbel⟩
        rw [idxI_hit hlt (by rw [HX.out]; exact hq) (fun j hj => HA.out j _ hj)]; rfl
      | false =>
        go_wp2
        go_roundw
        case rel =>
          refine ⟨k + 1, by omega, by go_num, hbel, fun j hj hjk => ?_⟩
          by_cases e : j = k
          · subst e; rw [HX.out]; exact hq
          · exact HA.out j hj (by omega)
        case measure => simp [intOf]; omega
    · obtain rfl : k = l.length := by omega
      go_wp2
      go_ret
      refine ⟨?_, hbel⟩
      rw [idxI_miss (fun j hj => HA.out j hj hj)]; rfl

set_option maxHeartbeats 800000 in
theorem rparted_any {own : Nat → Prop} {br : Nat} {S : Nst} (w : World) (h : RNHeld w own br S) (a b : Int) :
    Calls Try.prog 29 #[.pointer (some ⟨br, 0, none⟩), .int .i64 a, .int .i64 b] w fun e w' => e = .returned (.tuple #[.bool (S.isParted a b).1, .int .i64 (S.isParted a b).2]) ∧ Below w.heap.size w w' := by
  obtain ⟨v, u, gs, h⟩ := h
  have hX := rnone_any w h
  cases ha : hasN S.nodes a
  · have hv : S.isParted a b = (false, 30) := by simp [Nst.isParted, ha]
    rw [hv]
    clear h hv
    go_enter Try.func29, Try.ntmps29
    go_wp2_with (first | (go_at_call 44; refine (hX _).mono ?_; rintro e w1 ⟨rfl, rfl⟩))
    go_ret2
    exact ⟨rfl, Below.refl _ _⟩
  · cases hb : hasN S.nodes b
    · have hv : S.isParted a b = (false, 30) := by simp [Nst.isParted, hb]
      rw [hv]
      clear h hv
      go_enter Try.func29, Try.ntmps29
      go_wp2_with (first | (go_at_call 44; refine (hX _).mono ?_; rintro e w1 ⟨rfl, rfl⟩))
      go_ret2
      exact ⟨rfl, Below.refl _ _⟩
    · have hv : S.isParted a b = (S.parted a.toNat b.toNat, 0) := by simp [Nst.isParted, ha, hb]
      rw [hv]
      obtain ⟨a0, a1⟩ := hasN_iff.1 ha
      obtain ⟨b0, b1⟩ := hasN_iff.1 hb
      obtain ⟨an, rfl⟩ : ∃ an : Nat, a = an := ⟨a.toNat, (Int.toNat_of_nonneg a0).symm⟩
      obtain ⟨bn, rfl⟩ : ∃ bn : Nat, b = bn := ⟨b.toNat, (Int.toNat_of_nonneg b0).symm⟩
      simp only [Int.toNat_natCast]
      obtain ⟨g, cap, g', rfl, d1, d2, _, _, _, _⟩ := h.cutAt an bn (by omega) (by omega)
      have c3 := h.c3
      generalize S.parted an bn = r at *
      clear h hv
      go_enter Try.func29, Try.ntmps29
      go_wp2_with (first | (go_at_call 44; refine (hX _).mono ?_; rintro e w1 ⟨rfl, rfl⟩))
      go_ret2
      exact ⟨rfl, Below.refl _ _⟩

end Go.Proofs.Ytmdpkkipjdpopaa.Nk
