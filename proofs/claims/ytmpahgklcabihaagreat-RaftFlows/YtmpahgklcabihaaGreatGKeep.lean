/- append to a row that stays: at a step of a region that draws its order, with the elder row kept as it is. -/
import Derived.Test.YtmpahgklcabihaaGreatGRow
import Derived.Deep.DeepAppendRoom
namespace Go.Proofs.YtmpahgklcabihaaGreat.Gk
open Go.RowKit Go.Joins

/-- the elder row reads as it did, behind the append -/
theorem run_append_keep {P : Program} (w : World) (base : Nat) (t ty e : TypeId) (i : TypeInfo) (z : Value) (size bytes : Nat) (ht : P.underlying t = some (.slice e)) (hi : P.info? e = some i) (hz : i.zero = some z)
    (hsize : i.size = size) (hby : i.bytes = bytes) (hzs : z.cells.size = size) (hsz : 0 < size)
    (v : Value) (n : Nat) (xs : List Value) (hown : w.ownsRow base e size v n xs)
    (a : Addr) (m c : Nat) (news : List Value) (hl : news.length = m * size) (hnews : ∀ j u, news[j]? = some u → w.cell? (a.add j) = some u) (h1 : ∀ u ∈ news, u.oneCell' = true)
    (h63 : n + m ≤ maxLen) (hbytes : (n + m) * bytes ≤ 140737488355328) (hbase : base ≤ w.heap.size) :
    ∃ v' w', (Builtin.append_ #[t, t] ty #[v, .slice (some a) m c]).run P w = .ok v' w' ∧ w'.ownsRow base e size v' (n + m) (xs ++ news) ∧ w.grownBy w' v.ownBlock ∧
      (v'.ownBlock = v.ownBlock ∨ v'.ownBlock = some w.heap.size) ∧ w'.ownsRow base e size v n xs := by
  obtain ⟨v', w', hr, h2, h3, _, h5⟩ := run_append_own_at (P := P) w base t ty e i z size bytes ht hi hz hsize hby hzs hsz v n xs hown a m c news hl hnews h1 h63 hbytes hbase
  refine ⟨v', w', hr, h2, h3, h5, ?_⟩
  rcases hown.2 with ⟨rfl, rfl⟩ | ⟨g, cap, cur, rfl, hbg, hg, hnc, hcm, hcs, htake⟩
  · exact ⟨hown.1, Or.inl ⟨rfl, rfl⟩⟩
  · by_cases hroom : n + m ≤ cap
    · obtain ⟨w2, hr2, h2', h3'⟩ := run_append_own_spare (P := P) w base t ty e i size ht hi hsize g n cap xs hown a m c news hl hnews h1 hroom
      rw [hr] at hr2
      cases hr2
      rcases h2'.2 with ⟨h0, _⟩ | ⟨g', cap', cur', hv, hbg', hg', _, hcm', hcs', htake'⟩
      · cases h0
      · cases hv
        refine ⟨hown.1, Or.inr ⟨g, cap, cur', rfl, hbg', hg', hnc, hcm', hcs', ?_⟩⟩
        have : cur'.toList.take (n * size) = (xs ++ news).take (n * size) := by
          rw [← htake', List.take_take, Nat.min_eq_left (Nat.mul_le_mul_right _ (by omega))]
        rw [this, ← hown.1]
        exact List.take_left
    · subst hsize
      subst hby
      have holds : ∀ j u, xs[j]? = some u → w.cell? ((⟨g, 0, none⟩ : Addr).add j) = some u := hown.cells (g := g) rfl
      have hr2 := run_append_grow (P := P) w t ty e i z ht hi hz ⟨g, 0, none⟩ n cap xs hown.1 holds a m c news hl hnews (by omega) (by simp only [maxLen] at h63; omega) (growslice_fits (by omega) hbytes)
      rw [hr] at hr2
      cases hr2
      refine ⟨hown.1, Or.inr ⟨g, cap, cur, rfl, hbg, ?_, hnc, hcm, hcs, htake⟩⟩
      exact (Go.heap_alloc_old w.drew _ (Array.getElem?_eq_some_iff.1 hg).1).trans hg

/-- append of elements that lie somewhere, at a step of a region that draws its order: the elder row stays -/
theorem step_append_keep {α : Type} {enc : α → List Value} {k : Nat} {w : World} {ops : Array Oper} {o : Oper} {a : Act} {K : Act → World → Prop} {Q : Exit → Act → World → Prop} {E : Prop} (hgd : o.guard = none) (s x : Operand) (t : TypeId)
    (ho : o.op = .call { callee := .builtin .append, args := #[s, x], argTypes := #[t, t] })
    (e : TypeId) (z : Value) (bytes : Nat) (ht : Tryz.prog.underlying t = some (.slice e)) (hinf : (Tryz.prog.info? e).map (fun i => (i.zero, i.size, i.bytes)) = some (some z, k, bytes)) (hzs : z.cells.size = k) (hk0 : 0 < k)
    (hk : ∀ x, (enc x).length = k) (h1 : ∀ x, ∀ u ∈ enc x, u.oneCell' = true)
    (B : Nat) (v : Value) (l : List α) (hs : a.eval s = v) (hown : w.ownsRow B e k v l.length (rc enc l)) (b off : Nat) (fs : List α) (n cap : Nat) (hx : a.eval x = .slice (some ⟨b, off, none⟩) n cap) (hn : n = fs.length)
    (hl : ∀ j u, (rc enc fs)[j]? = some u → w.cell? ⟨b, off + j, none⟩ = some u) (hbytes : (l.length + fs.length) * bytes ≤ 140737488355328) (hlen : l.length + fs.length ≤ 140737488355328) (hB : B ≤ w.heap.size)
    (h : ∀ ad' cap' w', w'.ownsRow B e k (.slice ad' (l.length + fs.length) cap') (l ++ fs).length (rc enc (l ++ fs)) → w.grownBy w' v.ownBlock → w'.ownsRow B e k v l.length (rc enc l) → (∀ g, (Value.slice ad' (l.length + fs.length) cap').ownBlock = some g → v.ownBlock = some g ∨ w.heap.size ≤ g) → K (a.put o.dst (.slice ad' (l.length + fs.length) cap')) w') :
    if Region.wanted o (yielded ops a.tmps) = true then Oper.wp Tryz.prog o a w K Q else E := by
  have hw : Region.wanted o (yielded ops a.tmps) = true := by simp [Region.wanted, hgd]
  rw [if_pos hw]
  obtain ⟨i0, hi, hz0, hz1, hz2⟩ := info_parts hinf
  subst hn
  obtain ⟨v', w', hr, h2, h3, h5, h6⟩ := run_append_keep (P := Tryz.prog) w B t o.type e i0 z k bytes ht hi hz0 hz1 hz2 hzs hk0 v _ _ hown ⟨b, off, none⟩ fs.length cap (rc enc fs) (rc_length hk fs) (by
    intro j u hj
    rw [Go.WideShapes.add_plain]
    exact hl j u hj) (rc_oneCell h1 fs) (by unfold maxLen; omega) hbytes hB
  obtain ⟨av, cv, rfl⟩ := own_slice h2
  unfold Oper.wp execOp
  simp only [ho, resolve, invoke, builtin, Sem.run_bind, Sem.run_pure, Result.andThen_ok, List.map_toArray, List.map_cons, List.map_nil, hs, hx, hr]
  refine h av cv w' ?_ h3 h6 fun g hg => ?_
  · rw [rc_append, List.length_append]; exact h2
  · rcases h5 with h5 | h5
    · exact Or.inl (by rw [← h5]; exact hg)
    · rw [h5] at hg; cases hg; exact Or.inr (Nat.le_refl _)

end Go.Proofs.YtmpahgklcabihaaGreat.Gk
