/- append of one element to a list without room, and of elements to a row, at a step of a region that draws its order. -/
import Derived.Test.YthdempdiibjabaaGStep
namespace Go.Proofs.Ythdempdiibjabaa.Gk
open Go.RowKit Go.Joins

theorem grown_own {w : World} {e : TypeId} {z : Value} {size n old : Nat} {xs : List Value} (hzs : z.cells.size = size) (h63 : n ≤ maxLen) (hlen : xs.length = n * size) {B : Nat} (hB : B ≤ w.heap.size) :
    (w.drew.alloc (.cells (xs.toArray ++ Builtin.zeroCells z.cells (grownCap w n old e - n)) e)).ownsRow B e size (.slice (some ⟨w.heap.size, 0, none⟩) n (grownCap w n old e)) n xs := by
  have hge := grownCap_ge w n old e
  have hcm : grownCap w n old e ≤ maxLen := grownCap_le_maxLen w n old e h63
  refine ⟨hlen, .inr ⟨w.heap.size, _, _, rfl, hB, heap_alloc_new w.drew _, hge, hcm, ?_, ?_⟩⟩
  · simp only [Array.size_append, List.size_toArray, size_zeroCells, hzs, hlen, ← Nat.add_mul]
    congr 1
    omega
  · simp only [Array.toList_append]
    rw [← hlen]
    exact List.take_left

/-- one element more, of a list without room: a new row -/
theorem run_push_full {α : Type} {enc : α → List Value} {k : Nat} {P : Program} (w : World) (t ty e : TypeId) (i : TypeInfo) (z : Value) (bytes : Nat) (ht : P.underlying t = some (.slice e)) (hi : P.info? e = some i) (hz : i.zero = some z)
    (hsize : i.size = k) (hby : i.bytes = bytes) (hzs : z.cells.size = k) (hk : ∀ x, (enc x).length = k)
    (ad : Option Addr) (l : List α) (hl : Lies w enc ad l) (b : Nat) (y : α) (hb : w.heap[b]? = some (.cells (enc y).toArray e (0, 0))) (hbytes : (l.length + 1) * bytes ≤ 140737488355328) (hlen : l.length + 1 ≤ 140737488355328) (B : Nat) (hB : B ≤ w.heap.size) :
    ∃ cap' w', (Builtin.append_ #[t, t] ty #[.slice ad l.length l.length, .slice (some ⟨b, 0, none⟩) 1 1]).run P w = .ok (.slice (some ⟨w.heap.size, 0, none⟩) (l.length + 1) cap') w' ∧ w'.ownsRow B e k (.slice (some ⟨w.heap.size, 0, none⟩) (l.length + 1) cap') (l.length + 1) (rc enc (l ++ [y])) ∧ Below w.heap.size w w' := by
  subst hsize hby
  have hnews : ∀ j u, (enc y)[j]? = some u → w.cell? ((⟨b, 0, none⟩ : Addr).add j) = some u := fun j u hj => by
    rw [Go.WideShapes.add_plain, cell_of_block hb, Nat.zero_add]; simpa using hj
  have hbel : ∀ o, Below w.heap.size w (w.drew.alloc o) := fun o => ((Below.refl _ w).drew).alloc (Nat.le_refl _) o
  have hmax : l.length + 1 ≤ maxLen := by unfold maxLen; omega
  cases ad with
  | none =>
    have hl0 : l = [] := by
      rcases hl with h | ⟨_, _, h, _⟩
      · exact h
      · cases h
    subst hl0
    have hr := run_append_nil (P := P) w t ty e i z ht hi hz ⟨b, 0, none⟩ 1 1 (enc y) (by rw [hk, Nat.one_mul]) hnews (by omega) (by omega) (by simp only [List.length_nil, Nat.zero_add] at hbytes; omega)
    exact ⟨_, _, hr, by rw [List.nil_append, rc_one]; exact grown_own (w := w) (old := 0) hzs hmax (by rw [hk]; simp) hB, hbel _⟩
  | some ad =>
    have holds : ∀ j u, (rc enc l)[j]? = some u → w.cell? (ad.add j) = some u := by
      intro j u hj
      rcases hl with rfl | ⟨b', off, e, _, h⟩
      · simp [rc] at hj
      · cases e
        rw [Go.WideShapes.add_plain]
        exact h j u hj
    have hr := run_append_grow (P := P) w t ty e i z ht hi hz ad l.length l.length (rc enc l) (rc_length hk l) holds ⟨b, 0, none⟩ 1 1 (enc y) (by rw [hk, Nat.one_mul]) hnews (by omega) (by omega) (growslice_fits (by omega) hbytes)
    refine ⟨_, _, hr, ?_, hbel _⟩
    rw [show (rc enc l).toArray ++ (enc y).toArray = (rc enc (l ++ [y])).toArray by rw [rc_append, rc_one]; simp]
    exact grown_own (w := w) hzs hmax (by rw [rc_length hk]; simp) hB

theorem step_push_full {α : Type} {enc : α → List Value} {k : Nat} {w : World} {ops : Array Oper} {o : Oper} {a : Act} {K : Act → World → Prop} {Q : Exit → Act → World → Prop} {E : Prop} (hgd : o.guard = none) (s x : Operand) (t : TypeId)
    (ho : o.op = .call { callee := .builtin .append, args := #[s, x], argTypes := #[t, t] })
    (e : TypeId) (z : Value) (bytes : Nat) (ht : Try.prog.underlying t = some (.slice e)) (hinf : (Try.prog.info? e).map (fun i => (i.zero, i.size, i.bytes)) = some (some z, k, bytes)) (hzs : z.cells.size = k)
    (hk : ∀ x, (enc x).length = k)
    (ad : Option Addr) (l : List α) (n c : Nat) (hs : a.eval s = .slice ad n c) (hn : n = l.length) (hc : c = l.length) (hl : Lies w enc ad l) (b : Nat) (y : α) (hx : a.eval x = .slice (some ⟨b, 0, none⟩) 1 1) (hb : w.heap[b]? = some (.cells (enc y).toArray e (0, 0))) (hbytes : (l.length + 1) * bytes ≤ 140737488355328) (hlen : l.length + 1 ≤ 140737488355328) (B : Nat) (hB : B ≤ w.heap.size)
    (h : ∀ ad' cap' w', w'.ownsRow B e k (.slice ad' (l.length + 1) cap') (l ++ [y]).length (rc enc (l ++ [y])) → Below w.heap.size w w' → K (a.put o.dst (.slice ad' (l.length + 1) cap')) w') :
    if Region.wanted o (yielded ops a.tmps) = true then Oper.wp Try.prog o a w K Q else E := by
  have hw : Region.wanted o (yielded ops a.tmps) = true := by simp [Region.wanted, hgd]
  rw [if_pos hw]
  obtain ⟨i0, hi, hz0, hz1, hz2⟩ := info_parts hinf
  subst hn hc
  obtain ⟨cap', w', hr, h2, h3⟩ := run_push_full (P := Try.prog) w t o.type e i0 z bytes ht hi hz0 hz1 hz2 hzs hk ad l hl b y hb hbytes hlen B hB
  unfold Oper.wp execOp
  simp only [ho, resolve, invoke, builtin, Sem.run_bind, Sem.run_pure, Result.andThen_ok, List.map_toArray, List.map_cons, List.map_nil, hs, hx, hr]
  exact h _ cap' w' (by rw [show (l ++ [y]).length = l.length + 1 by simp]; exact h2) h3

/-- append of elements that lie somewhere to a row of one's own -/
theorem step_append_at {α : Type} {enc : α → List Value} {k : Nat} {w : World} {ops : Array Oper} {o : Oper} {a : Act} {K : Act → World → Prop} {Q : Exit → Act → World → Prop} {E : Prop} (hgd : o.guard = none) (s x : Operand) (t : TypeId)
    (ho : o.op = .call { callee := .builtin .append, args := #[s, x], argTypes := #[t, t] })
    (e : TypeId) (z : Value) (bytes : Nat) (ht : Try.prog.underlying t = some (.slice e)) (hinf : (Try.prog.info? e).map (fun i => (i.zero, i.size, i.bytes)) = some (some z, k, bytes)) (hzs : z.cells.size = k) (hk0 : 0 < k)
    (hk : ∀ x, (enc x).length = k) (h1 : ∀ x, ∀ u ∈ enc x, u.oneCell' = true)
    (B : Nat) (v : Value) (l : List α) (hs : a.eval s = v) (hown : w.ownsRow B e k v l.length (rc enc l)) (ad : Option Addr) (fs : List α) (n cap : Nat) (hx : a.eval x = .slice ad n cap) (hn : n = fs.length)
    (hl : Lies w enc ad fs) (hnil : ad = none → cap = 0) (hbytes : (l.length + fs.length) * bytes ≤ 140737488355328) (hlen : l.length + fs.length ≤ 140737488355328) (hB : B ≤ w.heap.size)
    (h : ∀ ad' cap' w', w'.ownsRow B e k (.slice ad' (l.length + fs.length) cap') (l ++ fs).length (rc enc (l ++ fs)) → w.grownBy w' v.ownBlock → K (a.put o.dst (.slice ad' (l.length + fs.length) cap')) w') :
    if Region.wanted o (yielded ops a.tmps) = true then Oper.wp Try.prog o a w K Q else E := by
  have hw : Region.wanted o (yielded ops a.tmps) = true := by simp [Region.wanted, hgd]
  rw [if_pos hw]
  obtain ⟨i0, hi, hz0, hz1, hz2⟩ := info_parts hinf
  subst hn
  cases ad with
  | none =>
    have hfs : fs = [] := by
      rcases hl with h | ⟨_, _, h, _⟩
      · exact h
      · cases h
    have hc := hnil rfl
    subst hfs hc
    have hrun := run_append_owned_none (P := Try.prog) (w := w) B t o.type e i0 k ht hi v _ _ hown
    obtain ⟨av, cv, rfl⟩ := own_slice hown
    unfold Oper.wp execOp
    simp only [ho, resolve, invoke, builtin, Sem.run_bind, Sem.run_pure, Result.andThen_ok, List.map_toArray, List.map_cons, List.map_nil, hs, hx, List.length_nil, hrun]
    exact h av cv w (by rw [List.append_nil]; exact hown) (World.grownBy.refl _ _)
  | some ad =>
    obtain ⟨v', w', hr, h2, h3, _, h5⟩ := run_append_own_at (P := Try.prog) w B t o.type e i0 z k bytes ht hi hz0 hz1 hz2 hzs hk0 v _ _ hown ad fs.length cap (rc enc fs) (rc_length hk fs) (by
      rcases hl with rfl | ⟨b, off, e, _, hl⟩
      · intro j u hj; simp [rc] at hj
      · cases e
        intro j u hj
        rw [Go.WideShapes.add_plain]
        exact hl j u hj) (rc_oneCell h1 fs) (by unfold maxLen; omega) hbytes hB
    obtain ⟨av, cv, rfl⟩ := own_slice h2
    unfold Oper.wp execOp
    simp only [ho, resolve, invoke, builtin, Sem.run_bind, Sem.run_pure, Result.andThen_ok, List.map_toArray, List.map_cons, List.map_nil, hs, hx, hr]
    refine h av cv w' ?_ h3
    rw [rc_append, List.length_append]; exact h2

end Go.Proofs.Ythdempdiibjabaa.Gk
