/- The walk over disk.go: Names. -/
import Derived.Test.YtokcknfbanpjjaaDRising
namespace Go.Proofs.Ytokcknfbanpjjaa.Dk
open Go.RowKit Go.Maps Go.Joins

theorem own_setSame {w : World} {B e g n cap k : Nat} {xs : List Value} {u : Value} (h : w.ownsRow B e 1 (.slice (some ⟨g, 0, none⟩) n cap) n xs) (hk : xs[k]? = some u) : (w.setCell ⟨g, k, none⟩ u).ownsRow B e 1 (.slice (some ⟨g, 0, none⟩) n cap) n xs := by
  rcases h.2 with ⟨h0, _⟩ | ⟨g', cap', cur, he, hb, hg, h1, h2, h3, h4⟩
  · cases h0
  · cases he
    refine ⟨h.1, .inr ⟨g, cap, cur, rfl, hb, ?_, h1, h2, h3, h4⟩⟩
    rw [block_setCell hg]
    have hc : cur.setIfInBounds k u = cur := by
      apply Array.ext'
      rw [Array.toList_setIfInBounds]
      refine List.ext_getElem? fun j => ?_
      rw [List.getElem?_set]
      split
      · rename_i e; subst e
        rw [← h4, List.getElem?_take] at hk
        split at hk
        · rw [hk]; split
          · rfl
          · have := (List.getElem?_eq_some_iff.1 hk).1; omega
        · cases hk
      · rfl
    rw [hc]

theorem nms_size {l : List (Bs × Ent)} (hb : ∀ p ∈ l, named p.1 = true) : ∀ s ∈ nms l, s.size ≤ 32 := by
  intro s hs
  simp only [nms, List.mem_map] at hs
  obtain ⟨p, hp, rfl⟩ := hs
  have := hb p hp
  simp only [named, Bool.and_eq_true, decide_eq_true_eq] at this
  show p.1.toArray.size ≤ 32
  rw [List.size_toArray]; exact this.1.2

set_option maxHeartbeats 1600000 in
theorem names_any {own : Nat → Prop} {bd bm room : Nat} {l : List (Bs × Ent)} {fuse : Int} {down : Bool} (w : World) (h : Base w own bd bm room l fuse down) (hn : l.length ≤ 64) (hnm : ∀ p ∈ l, named p.1 = true) :
    Calls Try.prog 26 #[.pointer (some ⟨bd, 0, none⟩)] w fun e w' => ∃ v, e = .returned v ∧ w'.ownsRow w.heap.size 9 1 v (nms l).length (tcells (nms l)) ∧ Below w.heap.size w w' := by
  have hsz := nms_size hnm
  have hlen : (nms l).length ≤ 64 := by simpa [nms] using hn
  have HR := rising_any w h hn
  generalize nms l = ns at *
  go_enter Try.func26, Try.ntmps26
  go_wp2_with fail
  refine HR.mono ?_
  rintro e w1 ⟨v, rfl, hown, hb⟩
  obtain ⟨a, cap, rfl⟩ := own_slice hown
  have hz := hb.size
  clear HR
  go_wp2
  go_loopw [10] (fun i wr => ∃ k : Nat, k ≤ ns.length ∧ i = .int .i64 k ∧ wr.ownsRow w.heap.size 9 1 (.slice a ns.length cap) ns.length (tcells ns) ∧ Below w.heap.size w wr) (fun i _ => ns.length - (intOf i).toNat)
  case atStart => exact ⟨0, by omega, rfl, hown, hb⟩
  case round =>
    obtain ⟨k, hk, rfl, ho, hbel⟩ := hrel
    by_cases hlt : k < ns.length
    · obtain ⟨g, cap', e⟩ := ownsRow_form ho (by omega)
      cases e
      have hx : (tcells ns)[k]? = some (.string ns[k]) := by simp [tcells, List.getElem?_eq_getElem hlt]
      have hg := ho.lt g rfl
      have hcell : wr.cell? ⟨g, k, none⟩ = some (.string ns[k]) := by rw [ho.cellAt _ (by omega)]; exact hx
      have hs := hsz ns[k] (List.getElem_mem hlt)
      have HO := hide (fun (W : World) (hW : W.ownsRow w.heap.size 9 1 (.slice (some ⟨g, 0, none⟩) ns.length cap) ns.length (tcells ns)) => own_setSame hW hx)
      generalize ns[k] = x at *
      have i1 : (0 : Int) ≤ (k : Int) := by omega
      have i2 : (k : Int) < (ns.length : Int) := by omega
      have hC := clone_any x wr (by omega)
      go_wp2_with fail
      refine hC.mono ?_
      rintro e w2 ⟨rfl, hb2⟩
      have ho2 := own_keepF hb2 ho
      have hbel2 := hbel.trans (hb2.mono hbel.size)
      have hfz : w2.frozen? ⟨g, k, none⟩ = false := by
        rcases ho2.2 with ⟨h0, _⟩ | ⟨g', cap', cur, he, _, hg', _⟩
        · cases h0
        · cases he; exact unfrozen_of_block hg' k
      have hcell2 := (hb2.cell (p := ⟨g, k, none⟩) hg.2).trans hcell
      clear hC hb2
      go_wp2
      go_roundw
      case rel => exact ⟨k + 1, by omega, by go_num, HO.out _ ho2, hbel2.setCell (p := ⟨g, k, none⟩) hg.1 _⟩
      case measure => simp [intOf]; omega
    · go_wp2
      go_ret
      exact ⟨_, rfl, ho, hbel⟩

end Go.Proofs.Ytokcknfbanpjjaa.Dk
