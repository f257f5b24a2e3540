/- Walks over writer.go: put, turn, finished. -/
import Derived.Test.YtolgpdjimfodkaaSpEnds
namespace Go.Proofs.Ytolgpdjimfodkaa.Sp
open Go.RowKit Go.Joins Gk
attribute [local go_sem ↓] Go.wp_at_zero Go.wp_at_succ

abbrev WrT : TypeId := 60
theorem sp_info : (Try.prog.info? SpT).map (fun i => (i.zero, i.size, i.bytes)) = some (some (.agg #[.string ⟨#[]⟩, .string ⟨#[]⟩]), 2, 32) := by kernel_rfl

/-- a writer lies there and is X -/
structure WHeldV (w : World) (B bw : Nat) (v : Value) (X : Wr) : Prop where
  blk : w.heap[bw]? = some (.cells #[v, .bool X.kp, .string X.fr] WrT (0, 0))
  row : w.ownsRow B SpT 2 v X.out.length (rc senc X.out)
  low : B ≤ bw
def WHeld (w : World) (B bw : Nat) (X : Wr) : Prop := ∃ v, WHeldV w B bw v X
theorem WHeldV.lt {w : World} {B bw : Nat} {v : Value} {X : Wr} (h : WHeldV w B bw v X) : bw < w.heap.size := (Array.getElem?_eq_some_iff.1 h.blk).1
theorem WHeldV.ne {w : World} {B bw : Nat} {v : Value} {X : Wr} (h : WHeldV w B bw v X) {g : Nat} (hg : v.ownBlock = some g) : g ≠ bw := own_ne h.row h.blk (by decide) hg
theorem WHeldV.below {w w' : World} {B bw : Nat} {v : Value} {X : Wr} (h : WHeldV w B bw v X) (hb : Below w.heap.size w w') : WHeldV w' B bw v X :=
  ⟨(hb.block bw h.lt).trans h.blk, own_below h.row hb, h.low⟩
theorem WHeldV.c0 {w : World} {B bw : Nat} {v : Value} {X : Wr} (h : WHeldV w B bw v X) : w.cell? ⟨bw, 0, none⟩ = some v := by rw [cell_of_block h.blk]; rfl
theorem WHeldV.c1 {w : World} {B bw : Nat} {v : Value} {X : Wr} (h : WHeldV w B bw v X) : w.cell? ⟨bw, 1, none⟩ = some (.bool X.kp) := by rw [cell_of_block h.blk]; rfl
theorem WHeldV.c2 {w : World} {B bw : Nat} {v : Value} {X : Wr} (h : WHeldV w B bw v X) : w.cell? ⟨bw, 2, none⟩ = some (.string X.fr) := by rw [cell_of_block h.blk]; rfl
theorem WHeldV.fz {w : World} {B bw : Nat} {v : Value} {X : Wr} (h : WHeldV w B bw v X) (i : Nat) : w.frozen? ⟨bw, i, none⟩ = false := unfrozen_of_block h.blk i

theorem own_up {w : World} {B e size n : Nat} {v : Value} {l : List Value} (h : w.ownsRow 0 e size v n l) (hg : ∀ g, v.ownBlock = some g → B ≤ g) : w.ownsRow B e size v n l := by
  refine ⟨h.1, ?_⟩
  rcases h.2 with hn | ⟨g, cap, cur, rfl, h1, rest⟩
  · exact .inl hn
  · exact .inr ⟨g, cap, cur, rfl, hg g rfl, rest⟩

theorem lies_new (w : World) (y : Sp) : Lies (w.alloc (.cells (senc y).toArray SpT)) senc (some ⟨w.heap.size, 0, none⟩) [y] :=
  Or.inr ⟨w.heap.size, 0, rfl, by simp, fun j u hj => by rw [rc_one] at hj; rw [Nat.zero_add, cell_of_block (heap_alloc_new w _)]; simpa using hj⟩

/-- what a put leaves -/
theorem put_close {B bw : Nat} {v v' : Value} {X : Wr} {y : Sp} {w w2 w3 : World} (hbw' : Below w.heap.size w w2) (hB : B ≤ w.heap.size) (h2 : WHeldV w2 B bw v X) (hrow : Row w3 senc SpT 2 v' (X.out ++ [y])) (hg : w2.grownBy w3 v.ownBlock) (hat : ∀ g, v'.ownBlock = some g → v.ownBlock = some g ∨ w2.heap.size ≤ g) :
    WHeld (w3.setCell ⟨bw, 0, none⟩ v') B bw { X with out := X.out ++ [y] } ∧ Below B w (w3.setCell ⟨bw, 0, none⟩ v') ∧ Only (fun k => k = bw ∨ v.ownBlock = some k) w (w3.setCell ⟨bw, 0, none⟩ v') := by
  have hz := hbw'.size
  have hbw := hbw'.mono hB
  have hblk : w3.heap[bw]? = some (.cells #[v, .bool X.kp, .string X.fr] WrT (0, 0)) := (hg.block bw h2.lt fun e => h2.ne e.symm rfl).trans h2.blk
  have hne3 : ∀ g, v'.ownBlock = some g → g ≠ bw ∧ B ≤ g := fun g hg' => by
    rcases hat g hg' with h | h
    · exact ⟨h2.ne h, (h2.row.lt g h).1⟩
    · have := h2.lt
      exact ⟨by omega, by omega⟩
  refine ⟨⟨_, ⟨block_setCell hblk _, ?_, h2.low⟩⟩, (hbw.grown hg (by omega) fun k e => (h2.row.lt k e).1).setCell h2.low _, ((Only.of_below hbw').trans (Only.of_grown hg fun k e => Or.inr e)).trans (Only.of_set w3 (Or.inl rfl) _)⟩
  have hr := own_stay (w' := w3.setCell ⟨bw, 0, none⟩ v') hrow fun g hg' => Below.heap_setCell _ _ _ g (hne3 g hg').1
  exact own_up hr fun g hg' => (hne3 g hg').2

set_option maxHeartbeats 3200000 in
set_option maxRecDepth 100000 in
theorem put_any {B bw : Nat} {v : Value} {X : Wr} (w : World) (h : WHeldV w B bw v X) (to : ByteArray) (hf : X.fr.size ≤ 64) (ht : to.size ≤ 64) (hl : X.out.length ≤ 1000000) (hB : B ≤ w.heap.size) :
    Calls Try.prog 50 #[.pointer (some ⟨bw, 0, none⟩), .string to] w fun e w' => e = .returned (.tuple #[]) ∧ WHeld w' B bw { X with out := X.out ++ [⟨X.fr, to⟩] } ∧ Below B w w' ∧ Only (fun k => k = bw ∨ v.ownBlock = some k) w w' := by
  obtain ⟨av, cv, rfl⟩ := own_slice h.row
  have c0 := h.c0
  have c2 := h.c2
  have hlt := h.lt
  have hne : ∀ g, (Value.slice av X.out.length cv).ownBlock = some g → g ≠ bw := fun g hg => h.ne hg
  have hup : ∀ g, (Value.slice av X.out.length cv).ownBlock = some g → B ≤ g := fun g hg => (h.row.lt g hg).1
  have hlow := h.low
  have HH := hide h
  clear h
  go_enter Try.func50, Try.ntmps50
  go_wp2_with fail
  go_region_law (first
    | (go_simp; go_at_call 62; refine (clone_any X.fr _ (by omega)).mono ?_; rintro e w1 ⟨rfl, hb1⟩; have hh1 := hide (HH.out.below (w' := w1) ((Below.refl _ _).drew.trans hb1)); have k1 := hh1.out.c0)
    | (go_simp; go_at_call 62; refine (clone_any to _ (by omega)).mono ?_; rintro e w2 ⟨rfl, hb2⟩; have hh2 := hide (hh1.out.below (w' := w2) hb2); have k2 := hh2.out.c0; have z2 := hh2.out.fz 0; have hz2 := hh2.out.lt)
    | (refine step_append_row (enc := senc) (k := 2) (by rfl) (.tmp 8) (.tmp 17) 22 (by rfl) SpT (.agg #[.string ⟨#[]⟩, .string ⟨#[]⟩]) 32 Try.underlying22 sp_info rfl (by decide) senc_len senc_one (.slice av X.out.length cv) X.out (by rfl) (own_mono (hh2.out.below (below_alloc1 w2 _)).row (Nat.zero_le _)) (some ⟨w2.heap.size, 0, none⟩) [⟨X.fr, to⟩] 1 1 (by rfl) rfl (lies_new w2 ⟨X.fr, to⟩) (fun e => by cases e) (by simp; omega) (by simp; omega) ?_; intro ad3 cap3 w3 hrow3 hg3 hat3; have hb3 := hide (hg3.block bw (hh2.out.below (below_alloc1 w2 (.cells (senc ⟨X.fr, to⟩).toArray SpT))).lt (fun e => hne bw e.symm rfl)); have k3 := (World.cell?_of_block (a := ⟨bw, 0, none⟩) hb3.out).trans (hh2.out.below (below_alloc1 w2 (.cells (senc ⟨X.fr, to⟩).toArray SpT))).c0; have z3 := (World.frozen?_of_block (a := ⟨bw, 0, none⟩) hb3.out).trans ((hh2.out.below (below_alloc1 w2 (.cells (senc ⟨X.fr, to⟩).toArray SpT))).fz 0)))
  all_goals
    refine bodyPost_end (v := .tuple #[]) (by simp [results, Try.results50]) rfl ?_
    have h2 := hh2.out.below (below_alloc1 w2 (.cells #[.string X.fr, .string to] SpT))
    have hbw : Below w.heap.size w (w2.alloc (.cells #[.string X.fr, .string to] SpT)) := ((Below.refl _ w).drew.trans (hb1.trans (hb2.mono hb1.size))).alloc (by have := hb1.size; have := hb2.size; exact Nat.le_trans hb1.size hb2.size) _
    exact ⟨rfl, put_close hbw hB h2 hrow3 hg3 hat3⟩

end Go.Proofs.Ytolgpdjimfodkaa.Sp
