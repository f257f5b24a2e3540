/- What the laws of layer 14 lean on: parts of a grown log may follow. -/
import Derived.Test.YtckomhaobdaipaaRlGro
namespace Go.Proofs.Ytckomhaobdaipaa.Rl
open Go.RowKit Go.Joins Gk

theorem mt_pre : ∀ {A P : List En}, P <+: A → mt A P = P.length
  | [], [], _ => rfl
  | _ :: _, [], _ => rfl
  | [], _ :: _, h => by have := h.length_le; simp at this
  | a :: A, f :: P, h => by
    obtain ⟨r, hr⟩ := h
    simp only [List.cons_append, List.cons.injEq] at hr
    obtain ⟨rfl, hr⟩ := hr
    rw [mt, if_pos rfl, mt_pre ⟨r, hr⟩]; rfl
theorem mfs_ok : ∀ (P : List En) (f : Nat) (s : Mf), s.st = false → s.lg = false → (s.t :: P.map (·.t)).Pairwise (· ≤ ·) → (∀ e ∈ P, e.d.size ≤ 4096) → f + P.length ≤ 1048577 → ((nmb f P).foldl Mf.step s).st = false ∧ ((nmb f P).foldl Mf.step s).lg = false
  | [], _, s, h1, h2, _, _, _ => ⟨h1, h2⟩
  | e :: P, f, s, h1, h2, h3, h4, h5 => by
    rw [nmb, List.foldl_cons]
    rw [List.map_cons, List.pairwise_cons] at h3
    have h6 := h3.1 e.t (by simp)
    have h7 := h4 e (by simp)
    simp only [List.length_cons] at h5
    refine mfs_ok P (f + 1) _ ?_ ?_ h3.2 (fun x hx => h4 x (by simp [hx])) (by omega)
    · simp only [Mf.step, h1, Bool.false_or, decide_eq_false_iff_not]; omega
    · simp only [Mf.step, h2, Bool.false_or, Bool.or_eq_false_iff, decide_eq_false_iff_not]
      exact ⟨by omega, by omega⟩
theorem nmb_mem {f : Nat} {P : List En} {x : Nat × En} (h : x ∈ nmb f P) : x.2 ∈ P := by
  have : x.2 ∈ (nmb f P).map (·.2) := List.mem_map.2 ⟨x, h, rfl⟩
  rwa [map_nmb] at this
theorem mcode_zero {t : Int} {f : Nat} {P : List En} (h1 : ∀ e ∈ P, 1 ≤ e.t ∧ e.t ≤ 1073741824 ∧ e.d.size ≤ 4096) (h2 : (t :: P.map (·.t)).Pairwise (· ≤ ·)) (h3 : f + P.length ≤ 1048577) : mcode t (nmb f P) = 0 := by
  have hb : ¬ hasBad (nmb f P) := by
    rintro ⟨x, hx, hb⟩
    have := h1 _ (nmb_mem hx)
    rcases hb with hb | hb <;> omega
  obtain ⟨h4, h5⟩ := mfs_ok P f ⟨t, false, false⟩ rfl rfl h2 (fun e he => (h1 e he).2.2) h3
  rw [mcode, if_neg hb]
  unfold mfs
  rw [h4, h5]; rfl
/-- what stands behind a number of a grown log rises from its term on -/
theorem Grown.rise_from {S : Lo} (h : Grown S) (p : Nat) (hp : p ≤ S.es.length) : (S.tm p :: (S.es.drop p).map (·.t)).Pairwise (· ≤ ·) := by
  rw [List.pairwise_cons]
  constructor
  · intro y hy
    obtain ⟨e, he, rfl⟩ := List.mem_map.1 hy
    rcases Nat.eq_zero_or_pos p with rfl | hp0
    · have : S.tm 0 = 0 := by rw [Lo.tm, if_pos h.b.symm, h.bt]
      have := (h.each e (List.mem_of_mem_drop he)).1
      omega
    · have htm : S.tm p = S.es[p - 1].t := by
        rw [Lo.tm, if_neg (by rw [h.b]; omega), h.b, show p - 0 - 1 = p - 1 by omega, List.getElem?_eq_getElem (by omega)]; rfl
      obtain ⟨j, hj, rfl⟩ := List.getElem_of_mem he
      rw [htm, List.getElem_drop]
      rw [List.length_drop] at hj
      have := List.pairwise_iff_getElem.1 h.rise (p - 1) (p + j) (by simp; omega) (by simp; omega) (by omega)
      simpa using this
  · have := List.Pairwise.sublist (List.drop_sublist p (S.es.map (·.t))) h.rise
    rwa [← List.map_drop] at this
theorem Grown.code {S : Lo} (h : Grown S) (p : Nat) (hp : p ≤ S.es.length) {P : List En} (hP : P <+: S.es.drop p) : mcode (S.tm p) (nmb (p + 1) P) = 0 := by
  refine mcode_zero (fun e he => ?_) ?_ ?_
  · have := h.each e (List.mem_of_mem_drop (hP.subset he)); exact ⟨this.1, by omega, by omega⟩
  · exact List.Pairwise.sublist (List.Sublist.cons_cons _ (List.Sublist.map _ hP.sublist)) (h.rise_from p hp)
  · have := hP.length_le; have := h.n; rw [List.length_drop] at *; omega
theorem Grown.last {S : Lo} (h : Grown S) : S.last = S.es.length := by rw [Lo.last, h.b, Nat.zero_add]
theorem Grown.bd {S : Lo} (h : Grown S) : S.b + S.es.length ≤ 1048577 := by have := h.n; have := h.b; omega
theorem Grown.ds {S : Lo} (h : Grown S) : ∀ e ∈ S.es, e.d.size ≤ 140737488351232 := fun e he => by have := (h.each e he).2.2; omega
/-- another thing's block is no log's that was made behind it -/
theorem Made.apart {w w' : World} {bl : Nat} {S : Lo} (h : Made w w' bl S) {k : Nat} (hk : k < w.heap.size) : ¬ own w' bl k := fun e => by have := h.new k e; omega

end Go.Proofs.Ytckomhaobdaipaa.Rl
