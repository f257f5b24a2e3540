/- Walks over points.go: add. -/
import Derived.Test.YtcmdglmcmifflaaDoorRgMet
import Derived.Test.YtcmdglmcmifflaaDoorGRow
namespace Go.Proofs.YtcmdglmcmifflaaDoor.Rg
open Go.RowKit Go.Joins Gk

abbrev PtsT : TypeId := 62
abbrev U64T : TypeId := 28
abbrev IntT : TypeId := 3
theorem u64_info : (Tryd.prog.info? U64T).map (fun i => (i.zero, i.size, i.bytes)) = some (some (.int .u64 0), 1, 8) := by kernel_rfl
theorem int_info : (Tryd.prog.info? IntT).map (fun i => (i.zero, i.size, i.bytes)) = some (some (.int .i64 0), 1, 8) := by kernel_rfl
/-- a point's number; its chain -/
def uenc (p : Pt) : List Value := [.int .u64 (hp p)]
def cenc (p : Pt) : List Value := [.int .i64 (p.1 : Int)]
theorem uenc_len (x : Pt) : (uenc x).length = 1 := rfl
theorem cenc_len (x : Pt) : (cenc x).length = 1 := rfl
theorem uenc_one (x : Pt) : ∀ u ∈ uenc x, u.oneCell' = true := by intro u hu; simp only [uenc, List.mem_singleton] at hu; subst hu; rfl
theorem cenc_one (x : Pt) : ∀ u ∈ cenc x, u.oneCell' = true := by intro u hu; simp only [cenc, List.mem_singleton] at hu; subst hu; rfl

/-- points lie there: numbers of la, chains of lc -/
structure PH (W : World) (B bp : Nat) (va vc : Value) (la lc : List Pt) : Prop where
  blk : W.heap[bp]? = some (.cells #[va, vc] PtsT (0, 0))
  ra : W.ownsRow B U64T 1 va la.length (rc uenc la)
  rc' : W.ownsRow B IntT 1 vc lc.length (rc cenc lc)
  low : B ≤ bp
section
variable {W : World} {B bp : Nat} {va vc : Value} {la lc : List Pt}
theorem PH.lt (h : PH W B bp va vc la lc) : bp < W.heap.size := (Array.getElem?_eq_some_iff.1 h.blk).1
theorem PH.below {W' : World} (h : PH W B bp va vc la lc) (hb : Below W.heap.size W W') : PH W' B bp va vc la lc := ⟨(hb.block bp h.lt).trans h.blk, own_below h.ra hb, own_below h.rc' hb, h.low⟩
theorem PH.nea (h : PH W B bp va vc la lc) {g : Nat} (hg : va.ownBlock = some g) : g ≠ bp := own_ne h.ra h.blk (by decide) hg
theorem PH.nec (h : PH W B bp va vc la lc) {g : Nat} (hg : vc.ownBlock = some g) : g ≠ bp := own_ne h.rc' h.blk (by decide) hg
theorem PH.nac (h : PH W B bp va vc la lc) {g : Nat} (hg : va.ownBlock = some g) (hc : vc.ownBlock = some g) : False := by
  rcases h.ra.2 with ⟨e2, _⟩ | ⟨g', _, cur, e2, _, hh, _⟩
  · rw [e2] at hg; simp [Value.ownBlock] at hg
  · rw [e2] at hg; simp only [Value.ownBlock, Option.some.injEq] at hg
    subst hg
    exact own_ne h.rc' hh (by decide) hc rfl
theorem PH.ca (h : PH W B bp va vc la lc) : W.cell? ⟨bp, 0, none⟩ = some va := by rw [cell_of_block h.blk]; rfl
theorem PH.cc (h : PH W B bp va vc la lc) : W.cell? ⟨bp, 1, none⟩ = some vc := by rw [cell_of_block h.blk]; rfl
theorem PH.fz (h : PH W B bp va vc la lc) (i : Nat) : W.frozen? ⟨bp, i, none⟩ = false := unfrozen_of_block h.blk i
theorem own_cells {w : World} {e size n : Nat} {v : Value} {xs : List Value} (h : w.ownsRow B e size v n xs) {j : Nat} {o : Obj} (hj : v.ownBlock = some j) (ho : w.heap[j]? = some o) : o.isCells = true := by
  rcases h.2 with ⟨e2, _⟩ | ⟨g', _, cur, e2, _, hh, _⟩
  · rw [e2] at hj; simp [Value.ownBlock] at hj
  · rw [e2] at hj; simp only [Value.ownBlock, Option.some.injEq] at hj
    subst hj
    rw [hh] at ho; cases ho; rfl

theorem half_a {va' : Value} {w2 : World} {lx : List Pt} {o : Obj} (h : PH W B bp va vc la lc) (hB : B ≤ W.heap.size) (hown : w2.ownsRow B U64T 1 va' lx.length (rc uenc lx)) (hg : (W.alloc o).grownBy w2 va.ownBlock) (hat : ∀ g, va'.ownBlock = some g → va.ownBlock = some g ∨ (W.alloc o).heap.size ≤ g) :
    PH (w2.setCell ⟨bp, 0, none⟩ va') B bp va' vc lx lc ∧ Below B W (w2.setCell ⟨bp, 0, none⟩ va') ∧ KeepsOthers W (w2.setCell ⟨bp, 0, none⟩ va') := by
  have h1 := h.below (below_alloc1 W o)
  have hblk : w2.heap[bp]? = some (.cells #[va, vc] PtsT (0, 0)) := (hg.block bp h1.lt fun e => h1.nea e.symm rfl).trans h1.blk
  have hz : (W.alloc o).heap.size = W.heap.size + 1 := by simp
  have hlt := h.lt
  refine ⟨⟨block_setCell hblk _, own_stay hown fun g hg' => Below.heap_setCell _ _ _ g ?_, own_stay (own_stay h1.rc' fun g hg' => hg.block g (h1.rc'.lt g hg').2 fun e => h1.nac e.symm hg') fun g hg' => Below.heap_setCell _ _ _ g (h1.nec hg'), h.low⟩, ((below_alloc1 W o).mono hB |>.grown hg (by omega) fun k e => (h1.ra.lt k e).1).setCell h.low _, ((KeepsOthers.alloc W o).trans (KeepsOthers.of_grownBy hg fun j o' e ho => own_cells h1.ra e ho)).trans (KeepsOthers.setCell _ _ _)⟩
  rcases hat g hg' with e | e
  · exact h1.nea e
  · show g ≠ bp; omega
theorem half_c {vc' : Value} {w2 : World} {lx : List Pt} {o : Obj} (h : PH W B bp va vc la lc) (hB : B ≤ W.heap.size) (hown : w2.ownsRow B IntT 1 vc' lx.length (rc cenc lx)) (hg : (W.alloc o).grownBy w2 vc.ownBlock) (hat : ∀ g, vc'.ownBlock = some g → vc.ownBlock = some g ∨ (W.alloc o).heap.size ≤ g) :
    PH (w2.setCell ⟨bp, 1, none⟩ vc') B bp va vc' la lx ∧ Below B W (w2.setCell ⟨bp, 1, none⟩ vc') ∧ KeepsOthers W (w2.setCell ⟨bp, 1, none⟩ vc') := by
  have h1 := h.below (below_alloc1 W o)
  have hblk : w2.heap[bp]? = some (.cells #[va, vc] PtsT (0, 0)) := (hg.block bp h1.lt fun e => h1.nec e.symm rfl).trans h1.blk
  have hz : (W.alloc o).heap.size = W.heap.size + 1 := by simp
  have hlt := h.lt
  refine ⟨⟨block_setCell hblk _, own_stay (own_stay h1.ra fun g hg' => hg.block g (h1.ra.lt g hg').2 fun e => h1.nac hg' e.symm) fun g hg' => Below.heap_setCell _ _ _ g (h1.nea hg'), own_stay hown fun g hg' => Below.heap_setCell _ _ _ g ?_, h.low⟩, ((below_alloc1 W o).mono hB |>.grown hg (by omega) fun k e => (h1.rc'.lt k e).1).setCell h.low _, ((KeepsOthers.alloc W o).trans (KeepsOthers.of_grownBy hg fun j o' e ho => own_cells h1.rc' e ho)).trans (KeepsOthers.setCell _ _ _)⟩
  rcases hat g hg' with e | e
  · exact h1.nec e
  · show g ≠ bp; omega
theorem PH.step_a {w2 : World} {o : Obj} (h : PH W B bp va vc la lc) (hg : (W.alloc o).grownBy w2 va.ownBlock) : w2.heap[bp]? = some (.cells #[va, vc] PtsT (0, 0)) :=
  (hg.block bp (h.below (below_alloc1 W o)).lt fun e => h.nea e.symm rfl).trans (h.below (below_alloc1 W o)).blk
theorem PH.step_c {w2 : World} {o : Obj} (h : PH W B bp va vc la lc) (hg : (W.alloc o).grownBy w2 vc.ownBlock) : w2.heap[bp]? = some (.cells #[va, vc] PtsT (0, 0)) :=
  (hg.block bp (h.below (below_alloc1 W o)).lt fun e => h.nec e.symm rfl).trans (h.below (below_alloc1 W o)).blk
theorem pair_0 {w : World} {b : Nat} {u v : Value} {T : TypeId} (h : w.heap[b]? = some (.cells #[u, v] T (0, 0))) : w.cell? ⟨b, 0, none⟩ = some u := by rw [cell_of_block h]; rfl
theorem pair_1 {w : World} {b : Nat} {u v : Value} {T : TypeId} (h : w.heap[b]? = some (.cells #[u, v] T (0, 0))) : w.cell? ⟨b, 1, none⟩ = some v := by rw [cell_of_block h]; rfl
end
/-- points lie there -/
def PHeld (W : World) (B bp : Nat) (l : List Pt) : Prop := ∃ va vc, PH W B bp va vc l l

set_option maxHeartbeats 3200000 in
set_option maxRecDepth 100000 in
theorem add_any {B bp : Nat} {l : List Pt} (x : Pt) (w : World) (h : PHeld w B bp l) (hB : B ≤ w.heap.size) (hl : l.length ≤ 1000000) :
    Calls Tryd.prog 51 #[.pointer (some ⟨bp, 0, none⟩), .int .u64 (hp x), .int .i64 (x.1 : Int)] w fun e w' => e = .returned (.tuple #[]) ∧ PHeld w' B bp (l ++ [x]) ∧ Below B w w' ∧ KeepsOthers w w' := by
  obtain ⟨va, vc, h⟩ := h
  obtain ⟨aa, ca, rfl⟩ := own_slice h.ra
  obtain ⟨ac, cc, rfl⟩ := own_slice h.rc'
  have c0 := h.ca
  have hlt := h.lt
  have HH := hide h
  clear h
  go_enter Tryd.func51, Tryd.ntmps51
  go_wp2_with (first
    | (at_builtin; refine wpList_push (enc := uenc) (k := 1) rfl (.tmp 10) (.tmp 12) 24 rfl U64T (.int .u64 0) 8 Tryd.underlying24 u64_info rfl (by decide) uenc_len uenc_one B _ l rfl (own_below HH.out.ra (below_alloc1 w _)) w.heap.size x rfl (heap_alloc_new w _) (by omega) (by omega) (by simp; omega) ?_; intro va' w2 hown2 hg2 hat2; obtain ⟨aa', ca', rfl⟩ := own_slice hown2; have hblk2 := HH.out.step_a hg2; have c2 := pair_0 hblk2; have d2 := pair_1 hblk2; have f2 := unfrozen_of_block hblk2 0; have HA := hide (half_a HH.out hB hown2 hg2 hat2); simp only [List.length_append, List.length_cons, List.length_nil, Nat.zero_add] at HA; clear hown2 hg2 hat2 hblk2 c0)
    | (at_builtin; have h3 := HA.out; obtain ⟨W3, hW3⟩ : ∃ W3, w2.setCell ⟨bp, 0, none⟩ (.slice aa' (l.length + 1) ca') = W3 := ⟨_, rfl⟩; have hz : w2.heap.size = W3.heap.size := (by rw [← hW3]; simp); rw [hW3] at h3 ⊢; rw [hz]; obtain ⟨h3, hb3, hk3⟩ := h3; have H3 := hide h3; have hB3 : B ≤ W3.heap.size := Nat.le_trans hB hb3.size; clear hW3 HA hz h3 c2 d2 f2; refine wpList_push (enc := cenc) (k := 1) rfl (.tmp 20) (.tmp 22) 22 rfl IntT (.int .i64 0) 8 Tryd.underlying22 int_info rfl (by decide) cenc_len cenc_one B _ l rfl (own_below H3.out.rc' (below_alloc1 W3 _)) W3.heap.size x rfl (heap_alloc_new W3 _) (by omega) (by omega) (by simp; omega) ?_; intro vc' w4 hown4 hg4 hat4; obtain ⟨ac', cc', rfl⟩ := own_slice hown4; have hblk4 := H3.out.step_c hg4; have c4 := pair_1 hblk4; have f4 := unfrozen_of_block hblk4 1; have HC := hide (half_c H3.out hB3 hown4 hg4 hat4); simp only [List.length_append, List.length_cons, List.length_nil, Nat.zero_add] at HC; clear hown4 hg4 hat4 hblk4))
  obtain ⟨h5, hb5, hk5⟩ := HC.out
  go_end0
  exact ⟨rfl, ⟨_, _, h5⟩, hb3.trans hb5, hk3.trans hk5⟩

end Go.Proofs.YtcmdglmcmifflaaDoor.Rg
