/- NetPlays: are the letters the same? -/
import Derived.Test.YtmdpkkipjdpopaaRtFree
namespace Go.Proofs.Ytmdpkkipjdpopaa.Nk
open Go.RowKit Go.Joins Gk
attribute [local go_sem ↓] Go.wp_at_zero Go.wp_at_succ

/-- the copy, while its first k letters are written over -/
structure Copied (W wr : World) (g cap k : Nat) (ls : List Lt) (cur : Array Value) : Prop where
  block : wr.heap[g]? = some (.cells cur LetT (0, 0))
  size : cur.size = cap * 4
  room : ls.length ≤ cap
  each : ∀ i (h : i < ls.length), k ≤ i → ∀ j u, (lenc ls[i])[j]? = some u → cur[i * 4 + j]? = some u
  new : W.heap.size ≤ g
  below : Below W.heap.size W wr

theorem Copied.next {W wr : World} {g cap k : Nat} {ls : List Lt} {cur : Array Value} (h : Copied W wr g cap k ls cur) (v0 v1 v2 v3 : Value) (o1 o2 : Obj) :
    Copied W ((((((wr.setCell ⟨g, k * 4, none⟩ v0).setCell ⟨g, k * 4 + 1, none⟩ v1).setCell ⟨g, k * 4 + 2, none⟩ v2).setCell ⟨g, k * 4 + 3, none⟩ v3).alloc o1).alloc o2).drew g cap (k + 1) ls ((((cur.setIfInBounds (k * 4) v0).setIfInBounds (k * 4 + 1) v1).setIfInBounds (k * 4 + 2) v2).setIfInBounds (k * 4 + 3) v3) := by
  have hset : ∀ (A : World) (o : Nat) (v : Value), Below W.heap.size W A → Below W.heap.size W (A.setCell ⟨g, o, none⟩ v) := fun A o v hA =>
    hA.trans ((Only.of_set (own := fun b => W.heap.size ≤ b) A (a := ⟨g, o, none⟩) h.new v).below hA.size fun _ hb => hb)
  have b4 := hset _ (k * 4 + 3) v3 (hset _ (k * 4 + 2) v2 (hset _ (k * 4 + 1) v1 (hset _ (k * 4) v0 h.below)))
  have k4 := block_setCell (i := k * 4 + 3) (block_setCell (i := k * 4 + 2) (block_setCell (i := k * 4 + 1) (block_setCell (i := k * 4) h.block v0) v1) v2) v3
  generalize (((wr.setCell ⟨g, k * 4, none⟩ v0).setCell ⟨g, k * 4 + 1, none⟩ v1).setCell ⟨g, k * 4 + 2, none⟩ v2).setCell ⟨g, k * 4 + 3, none⟩ v3 = A at *
  have hgA := (Array.getElem?_eq_some_iff.1 k4).1
  have b5 := b4.alloc b4.size o1
  refine ⟨?_, by simp [h.size], h.room, fun i hi hki j u hj => ?_, h.new, (b5.alloc b5.size o2).drew⟩
  · exact (((below_alloc1 _ o2).block g (by simp; omega)).trans ((below_alloc1 A o1).block g hgA)).trans k4
  · rw [Array.getElem?_setIfInBounds_ne (by omega), Array.getElem?_setIfInBounds_ne (by omega), Array.getElem?_setIfInBounds_ne (by omega), Array.getElem?_setIfInBounds_ne (by omega)]
    exact h.each i hi (by omega) j u hj

/-- what the round reads -/
abbrev Sv (w : World) (br g gr k n cv : Nat) (x : Lt) (W : World) : Prop :=
  (W.cell? ⟨br, 1, none⟩ = some (.slice (some ⟨gr, 0, none⟩) n cv) ∧
  (W.cell? ⟨g, k * 4, none⟩ = some (.int .i64 x.id) ∧ W.cell? ⟨g, k * 4 + 1, none⟩ = some (.int .i64 x.fr) ∧ W.cell? ⟨g, k * 4 + 2, none⟩ = some (.int .i64 x.to) ∧ W.cell? ⟨g, k * 4 + 3, none⟩ = some (.string x.body)) ∧
  (W.cell? ⟨gr, k * 4, none⟩ = some (.int .i64 x.id) ∧ W.cell? ⟨gr, k * 4 + 1, none⟩ = some (.int .i64 x.fr) ∧ W.cell? ⟨gr, k * 4 + 2, none⟩ = some (.int .i64 x.to) ∧ W.cell? ⟨gr, k * 4 + 3, none⟩ = some (.string x.body))) ∧ Below w.heap.size w W

theorem Sv.of {w : World} {br g gr k n cv : Nat} {x : Lt} (h : Sv w br g gr k n cv x w) {W : World} (hb : Below w.heap.size w W) : Sv w br g gr k n cv x W := by
  have hc : ∀ (b o : Nat) (v : Value), w.cell? ⟨b, o, none⟩ = some v → W.cell? ⟨b, o, none⟩ = some v := fun b o v hv => by
    have hlt : b < w.heap.size := by
      refine Nat.lt_of_not_le fun hge => ?_
      have hn : w.heap[b]? = none := Array.getElem?_eq_none hge
      simp [World.cell?, hn] at hv
    exact (hb.cell (p := ⟨b, o, none⟩) hlt).trans hv
  obtain ⟨⟨h0, ⟨a0, a1, a2, a3⟩, b0, b1, b2, b3⟩, _⟩ := h
  exact ⟨⟨hc _ _ _ h0, ⟨hc _ _ _ a0, hc _ _ _ a1, hc _ _ _ a2, hc _ _ _ a3⟩, hc _ _ _ b0, hc _ _ _ b1, hc _ _ _ b2, hc _ _ _ b3⟩, hb⟩

theorem Sv.drew {w : World} {br g gr k n cv : Nat} {x : Lt} (h : Sv w br g gr k n cv x w) {A : World} (hA : Sv w br g gr k n cv x A) : Sv w br g gr k n cv x A.drew := h.of hA.2.drew
theorem Sv.alloc {w : World} {br g gr k n cv : Nat} {x : Lt} (h : Sv w br g gr k n cv x w) {A : World} (hA : Sv w br g gr k n cv x A) {o : Obj} : Sv w br g gr k n cv x (A.alloc o) := h.of (hA.2.alloc hA.2.size o)


set_option maxHeartbeats 6400000 in
set_option maxRecDepth 100000 in
theorem same_any {w W : World} {bn br : Nat} {S : Nst} (hd : Duo w W bn br S S) (hok : S.Ok) :
    Calls Try.prog 11 #[.pointer (some ⟨bn, 0, none⟩), .pointer (some ⟨br, 0, none⟩)] W fun e w' => e = .returned (.bool true) ∧ Below W.heap.size W w' := by
  have hml := hok.many
  have hL := letters_any W hd.net hok
  obtain ⟨v, u, gs, hr⟩ := hd.ref
  by_cases hl : S.ls.length = 0
  · obtain ⟨av, cv, rfl⟩ := hr.row.slice
    have hr1 := fun (w1 : World) (hb : Below W.heap.size W w1) => (hr.below hb).c1
    rw [hl] at hL hr1
    clear hr
    go_enter Try.func11, Try.ntmps11
    go_wp2_with fail
    refine hL.mono ?_
    rintro e w1 ⟨v1, rfl, hown, hb1⟩
    obtain ⟨a3, c3, rfl⟩ := own_slice hown
    have r1 := hr1 w1 hb1
    clear hown hr1 hL
    go_wp2
    go_loopw [6] (fun i wr => i = .int .i64 0 ∧ wr = w1) (fun _ _ => 0)
    case atStart => exact ⟨rfl, rfl⟩
    case round =>
      obtain ⟨rfl, rfl⟩ := hrel
      go_wp2
      go_ret
      exact ⟨rfl, hb1⟩
  · have hl0 : 0 < S.ls.length := by omega
    obtain ⟨gr, cv, rfl, hgr, -⟩ := hr.row.at lenc_len 0 hl0
    have HR := hide hr
    have hr1 := fun (w1 : World) (hb : Below W.heap.size W w1) => (hr.below hb).c1
    have hrl := hr.lt
    clear hr
    go_enter Try.func11, Try.ntmps11
    go_wp2_with fail
    refine hL.mono ?_
    rintro e w1 ⟨v1, rfl, hown, hb1⟩
    obtain ⟨g, cap, cur, rfl, hc1, hc2, hc3, hc4, hc5⟩ := own_form hown hl0
    have hgW : W.heap.size ≤ g := (hown.lt g rfl).1
    have HC : Hid (Copied W w1 g cap 0 S.ls cur) := ⟨hc1, hc4, hc2, fun i h _ j u hj => by
      have hj4 : j < 4 := by have := (List.getElem?_eq_some_iff.1 hj).1; rwa [lenc_len] at this
      have h1 := rc_at lenc_len S.ls i h j hj4
      rw [hj, ← hc5, List.getElem?_take, if_pos (by omega)] at h1
      simpa using h1, hgW, hb1⟩
    have r1 := hr1 w1 hb1
    clear hown hL hc1 hc2 hc3 hc4 hc5
    go_wp2
    go_loopw [6] (fun i wr => ∃ (k : Nat) (cur : Array Value), k ≤ S.ls.length ∧ i = .int .i64 k ∧ Hid (Copied W wr g cap k S.ls cur)) (fun i _ => S.ls.length - (intOf i).toNat)
    case atStart => exact ⟨0, cur, by omega, rfl, HC⟩
    case round =>
      clear HC r1
      obtain ⟨k, cur, hk, rfl, HC⟩ := hrel
      by_cases hlt : k < S.ls.length
      · have j1 : (k : Int) < (S.ls.length : Int) := by omega
        have j0 : (0 : Int) ≤ (k : Int) := by omega
        have hbel := HC.out.below
        obtain ⟨gr', cv', he, -, hcr⟩ := (HR.out.below hbel).row.at lenc_len k hlt
        cases he
        have hcl := HC.out.each k hlt (Nat.le_refl _)
        have hsz := hbel.size
        generalize S.ls[k] = x at *
        have hS : Sv wr br g gr k S.ls.length cv x wr := ⟨⟨hr1 wr hbel, ⟨by rw [cell_of_block HC.out.block]; exact hcl 0 _ rfl, by rw [cell_of_block HC.out.block]; exact hcl 1 _ rfl, by rw [cell_of_block HC.out.block]; exact hcl 2 _ rfl, by rw [cell_of_block HC.out.block]; exact hcl 3 _ rfl⟩, hcr 0 _ rfl, hcr 1 _ rfl, hcr 2 _ rfl, hcr 3 _ rfl⟩, Below.refl _ _⟩
        have HS := hide hS
        clear hcr hcl
        go_wp2_with fail
        go_region_held3 (Sv wr br g gr k S.ls.length cv x) (first | exact Sv.drew HS.out (by assumption) | exact Sv.alloc HS.out (by assumption) | assumption | exact HS.out.of (by repeat (first | exact Below.refl _ _ | refine Below.drew ?_ | refine Below.alloc ?_ (by simp <;> omega) _))) (first | fail)
        all_goals have hgl := (Array.getElem?_eq_some_iff.1 HC.out.block).1
        all_goals have hg1 : g ≠ wr.heap.size := by omega
        all_goals have hg2 : g ≠ wr.heap.size + 1 := by omega
        all_goals have z0 := unfrozen_of_block HC.out.block (k * 4)
        all_goals have z1 := unfrozen_of_block HC.out.block (k * 4 + 1)
        all_goals have z2 := unfrozen_of_block HC.out.block (k * 4 + 2)
        all_goals have z3 := unfrozen_of_block HC.out.block (k * 4 + 3)
        all_goals obtain ⟨⟨-, ⟨c0, c1, c2, c3⟩, -⟩, -⟩ := HS.out
        all_goals go_wp2
        all_goals exact ⟨⟨k + 1, _, by omega, by go_num, HC.out.next _ _ _ _ _ _⟩, by simp only [intOf]; omega⟩
      · have j1 : ¬ (k : Int) < (S.ls.length : Int) := by omega
        go_wp2
        go_ret
        exact ⟨rfl, HC.out.below⟩

end Go.Proofs.Ytmdpkkipjdpopaa.Nk
