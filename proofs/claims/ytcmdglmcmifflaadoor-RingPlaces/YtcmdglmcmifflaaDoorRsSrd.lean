/- Walks over points.go: sorted. -/
import Derived.Test.YtcmdglmcmifflaaDoorRsSrt
namespace Go.Proofs.YtcmdglmcmifflaaDoor.Rs
open Go.RowKit Go.Joins Go.Sort Gk Rg

theorem make_places (n : Nat) (hn : n ≤ 100000) : ∃ M : Array Value, M.toList = List.replicate n (.int .i64 0) ∧ ∀ W : World, (Instr.makeSlice 22 (.int .i64 (n : Int)) (.int .i64 (n : Int))).run Tryd.prog W = .ok (.slice (some ⟨W.heap.size, 0, none⟩) n n) (W.alloc (.cells M IntT)) := by
  obtain ⟨i0, hi, hz0, hz1, hz2⟩ := info_parts int_info
  refine ⟨madeCells (Value.int .i64 0).cells n, ?_, fun W => ?_⟩
  · apply List.ext_getElem
    · simp [madeCells]
    · intro i h1 h2
      have e : (Value.int .i64 0).cells = #[.int .i64 0] := rfl
      simp [madeCells, e, Nat.mod_one]
  · have h := run_make (P := Tryd.prog) W 22 3 i0 (.int .i64 0) Tryd.underlying22 hi hz0 .i64 .i64 (n : Int) (n : Int) (by omega) (by omega) (by rw [hz2]; omega) (by omega)
    rw [h, hz1]; simp
/-- places, the first k of them numbered -/
def fillA (n k : Nat) : Array Value := Array.ofFn (n := n) fun i => if i.val < k then .int .i64 (i.val : Int) else .int .i64 0
theorem fillA_zero (n : Nat) {M : Array Value} (h : M.toList = List.replicate n (.int .i64 0)) : M = fillA n 0 := by
  apply Array.ext'
  rw [h]
  apply List.ext_getElem
  · simp [fillA]
  · intro i h1 h2; simp [fillA]
theorem fillA_size (n k : Nat) : (fillA n k).size = n := by simp [fillA]
theorem fillA_at (n k i : Nat) (h : i < (fillA n k).size) : (fillA n k)[i] = if i < k then .int .i64 (i : Int) else .int .i64 0 := by simp [fillA]
theorem fillA_set (n k : Nat) : (fillA n k).setIfInBounds k (.int .i64 (k : Int)) = fillA n (k + 1) := by
  apply Array.ext
  · simp [fillA]
  · intro i h1 h2
    rw [Array.getElem_setIfInBounds (by rw [fillA_size] at h2 ⊢; exact h2), fillA_at, fillA_at]
    by_cases e : k = i
    · subst e; simp
    · rw [if_neg e]
      by_cases h : i < k
      · rw [if_pos h, if_pos (by omega)]
      · rw [if_neg h, if_neg (by omega)]
def idA (N : Nat) : Array (Pl N) := Array.ofFn fun i => i
theorem idA_size (N : Nat) : (idA N).size = N + 1 := by simp [idA]
theorem idA_vals (N : Nat) : (idA N).toList.map (·.val) = List.range (N + 1) := by
  apply List.ext_getElem
  · simp [idA]
  · intro i h1 h2; simp only [idA, List.getElem_map, Array.getElem_toList, Array.getElem_ofFn, List.getElem_range]
theorem fillA_holds {N : Nat} {W : World} {bk : Nat} (h : W.heap[bk]? = some (.cells (fillA (N + 1) (N + 1)) IntT (0, 0))) : Holds ec W bk 0 (idA N) := by
  intro j hj
  rw [idA_size] at hj
  refine ⟨?_, unfrozen_of_block h _⟩
  rw [cell_of_block h, Nat.zero_add, getElem!_pos _ j (by rw [idA_size]; exact hj)]
  simp [fillA, idA, hj, ec]
theorem sortWorld_other {N : Nat} (w : World) (blk m : Nat) (d : Array (Pl N)) (os : Array Obj) (k : Nat) (hk : k ≠ blk) (hlt : k < w.heap.size) : (sortWorld ec w blk 0 m d os).heap[k]? = w.heap[k]? := by
  unfold sortWorld
  have h1 : (grow (putRow ec (Sort.ahead w m) blk 0 d) os).heap[k]? = (putRow ec (Sort.ahead w m) blk 0 d).heap[k]? := by
    simp only [grow]
    rw [Array.getElem?_append_left (by rw [size_putRow]; exact hlt)]
  rw [h1]
  unfold putRow mapBlock
  simp only [Sort.ahead]
  rw [Array.getElem?_modify, if_neg (by omega)]
theorem sortWorld_below {N : Nat} (w : World) (blk m : Nat) (d : Array (Pl N)) (os : Array Obj) (hb : blk < w.heap.size) : RowKit.Below blk w (sortWorld ec w blk 0 m d os) :=
  ⟨rfl, rfl, rfl, by unfold sortWorld; simp [grow, Sort.ahead], fun k hk => sortWorld_other w blk m d os k (by omega) (by omega)⟩

abbrev AddS (b ga gc x : Nat) (va vc : Value) (yh yc : Int) (W : World) : Prop :=
  W.cell? ⟨b, 0, none⟩ = some va ∧ W.cell? ⟨b, 1, none⟩ = some vc ∧ W.cell? ⟨ga, x, none⟩ = some (.int .u64 yh) ∧ W.cell? ⟨gc, x, none⟩ = some (.int .i64 yc)
theorem AddS.drew {b ga gc x : Nat} {va vc : Value} {yh yc : Int} {W : World} (h : AddS b ga gc x va vc yh yc W) : AddS b ga gc x va vc yh yc W.drew := h
theorem AddS.call {b ga gc x bq : Nat} {va vc : Value} {yh yc : Int} {W W' : World} (h : AddS b ga gc x va vc yh yc W) (h1 : b < bq) (h2 : ga < bq) (h3 : gc < bq) (hb : RowKit.Below bq W W') : AddS b ga gc x va vc yh yc W' :=
  ⟨(hb.cell (p := ⟨b, 0, none⟩) h1).trans h.1, (hb.cell (p := ⟨b, 1, none⟩) h1).trans h.2.1, (hb.cell (p := ⟨ga, x, none⟩) h2).trans h.2.2.1, (hb.cell (p := ⟨gc, x, none⟩) h3).trans h.2.2.2⟩
theorem PHeld.below {W W' : World} {B bp : Nat} {l : List Pt} (h : PHeld W B bp l) (hb : RowKit.Below W.heap.size W W') : PHeld W' B bp l := by
  obtain ⟨va, vc, h⟩ := h
  exact ⟨va, vc, h.below hb⟩

set_option maxHeartbeats 6400000 in
set_option maxRecDepth 100000 in
theorem sorted_any (ga ca gc cc N : Nat) (l : List Pt) (hN : l.length = N + 1) (hmax : l.length ≤ 100000) (hlex : l.Pairwise lex) (w : World)
    (ra : Row w uenc U64T 1 (.slice (some ⟨ga, 0, none⟩) l.length ca) l) (rc' : Row w cenc IntT 1 (.slice (some ⟨gc, 0, none⟩) l.length cc) l) :
    Calls Tryd.prog 52 #[.agg #[.slice (some ⟨ga, 0, none⟩) l.length ca, .slice (some ⟨gc, 0, none⟩) l.length cc]] w fun e w' => ∃ va vc l', e = .returned (.agg #[va, vc]) ∧ w'.ownsRow w.heap.size U64T 1 va l'.length (rc uenc l') ∧ w'.ownsRow w.heap.size IntT 1 vc l'.length (rc cenc l') ∧ RowKit.Below w.heap.size w w' ∧ l'.Perm l ∧ l'.Pairwise plt := by
  have mixed : Tryd.prog.follows .mixedOrders = true := by kernel_rfl
  obtain ⟨M, hM, hmk⟩ := make_places l.length hmax
  obtain rfl := fillA_zero _ hM
  clear hM
  have HM := hide hmk
  clear hmk
  have hz : l.length < 4611686018427387904 := by omega
  have hga : ga < w.heap.size := (ra.celled uenc_len 0 (by omega)).1
  have hgc : gc < w.heap.size := (rc'.celled cenc_len 0 (by omega)).1
  obtain ⟨n, hn⟩ : ∃ n, l.length = n := ⟨_, rfl⟩
  have HN := hide hn
  have HRA := hide ra
  have HRC := hide rc'
  clear ra rc'
  rw [hn] at HM hz hmax hN ⊢
  have HNN := hide hN
  clear hN
  clear hn
  have hmk := HM.out
  go_enter Tryd.func52, Tryd.ntmps52
  go_wp2
  clear hmk HM
  obtain ⟨b, hb⟩ : ∃ b, w.heap.size = b := ⟨_, rfl⟩
  have HB := hide hb
  obtain ⟨W3, hW3⟩ : ∃ W3, ((w.alloc (Obj.cells #[Value.slice (some { block := ga, off := 0 }) n ca, Value.slice (some { block := gc, off := 0 }) n cc] PtsT)).alloc (Obj.cells #[Value.slice none 0 0, Value.slice none 0 0] PtsT)).alloc (Obj.cells (fillA n 0) IntT) = W3 := ⟨_, rfl⟩
  have B3 : RowKit.Below b w W3 := by rw [← hW3, ← hb]; exact ((below_alloc2 _ _ _).alloc (by simp; omega) _)
  have hp3 : W3.heap[b]? = some (Obj.cells #[Value.slice (some { block := ga, off := 0 }) n ca, Value.slice (some { block := gc, off := 0 }) n cc] PtsT) := by
    rw [← hW3, ← hb]; exact (((below_alloc1 _ _).block _ (by simp; omega)).trans ((below_alloc1 _ _).block _ (by simp))).trans (heap_alloc_new w _)
  have hr3 : W3.heap[b + 1]? = some (Obj.cells #[Value.slice none 0 0, Value.slice none 0 0] PtsT) := by
    rw [← hW3, ← hb]; refine ((below_alloc1 _ _).block _ (by simp)).trans ?_
    have := heap_alloc_new (w.alloc (Obj.cells #[Value.slice (some { block := ga, off := 0 }) n ca, Value.slice (some { block := gc, off := 0 }) n cc] PtsT)) (Obj.cells #[Value.slice none 0 0, Value.slice none 0 0] PtsT)
    rwa [World.size_alloc] at this
  have hk3 : W3.heap[b + 1 + 1]? = some (Obj.cells (fillA n 0) IntT) := by
    rw [← hW3, ← hb]
    have := heap_alloc_new ((w.alloc (Obj.cells #[Value.slice (some { block := ga, off := 0 }) n ca, Value.slice (some { block := gc, off := 0 }) n cc] PtsT)).alloc (Obj.cells #[Value.slice none 0 0, Value.slice none 0 0] PtsT)) (Obj.cells (fillA n 0) IntT)
    rwa [World.size_alloc, World.size_alloc] at this
  rw [hW3, hb]
  rw [hb] at hga hgc
  clear hW3 hb
  go_loopw [14] (fun i wr => ∃ k : Nat, k ≤ n ∧ i = .int .i64 k ∧ wr.heap[b + 1 + 1]? = some (.cells (fillA n k) IntT (0, 0)) ∧ RowKit.Below (b + 1 + 1) W3 wr) (fun i _ => n - (intOf i).toNat)
  case atStart => exact ⟨0, Nat.zero_le _, rfl, hk3, RowKit.Below.refl _ _⟩
  case round =>
    obtain ⟨k, hk, rfl, hblk, hbel⟩ := hrel
    by_cases hlt : k < n
    · have c0 : ∃ u, wr.cell? ⟨b + 1 + 1, k, none⟩ = some u := by rw [cell_of_block hblk]; exact ⟨_, Array.getElem?_eq_getElem (by rw [fillA_size]; exact hlt)⟩
      obtain ⟨u, c0⟩ := c0
      have f0 := unfrozen_of_block hblk k
      have i1 : (k : Int) < (n : Int) := by omega
      go_wp2
      go_roundw
      case rel => exact ⟨k + 1, by omega, by go_num, by rw [block_setCell hblk, fillA_set], hbel.setCell (p := ⟨b + 1 + 1, k, none⟩) (Nat.le_refl _) _⟩
      case measure => simp [intOf]; omega
    · have i1 : ¬ (k : Int) < (n : Int) := by omega
      have hkn : k = n := by omega
      rw [hkn] at hblk
      clear hkn hk3
      have hp4 := (hbel.block b (by omega)).trans hp3
      have hr4 := (hbel.block (b + 1) (by omega)).trans hr3
      have c0 : wr.cell? ⟨b, 0, none⟩ = some (.slice (some ⟨ga, 0, none⟩) n ca) := by rw [cell_of_block hp4]; rfl
      have c1 : wr.cell? ⟨b, 1, none⟩ = some (.slice (some ⟨gc, 0, none⟩) n cc) := by rw [cell_of_block hp4]; rfl
      have hB4 : RowKit.Below b w wr := B3.trans (hbel.mono (by omega))
      have hB4' : RowKit.Below w.heap.size w wr := by rw [HB.out]; exact hB4
      have hbk : b + 1 + 1 < wr.heap.size := (Array.getElem?_eq_some_iff.1 hblk).1
      have hcx : ∀ i, i < l.length → wr.cell? ⟨ga, i, none⟩ = some (.int .u64 (hp (l.getD i (0, 0)))) := fun i hi => by
        have h1 := (HRA.out.celled uenc_len i hi).2 0 _ rfl
        rw [Nat.mul_one, Nat.add_zero] at h1
        rw [(hB4.cell (p := ⟨ga, i, none⟩) hga), h1]
        simp [List.getD_eq_getElem?_getD, hi]
      have hcl := cf_cl (N := N) (l := l) (HN.out.trans HNN.out) ga ca (.slice (some ⟨gc, 0, none⟩) n cc) (b + 1 + 1) (idA N).size wr (by omega) (Nat.lt_of_lt_of_le hga (Nat.le_trans (by omega) hbk)) hcx
      have hhold := fillA_holds (N := N) (W := wr) (bk := b + 1 + 1) (by rw [← HNN.out]; exact hblk)
      have hsort := sort_any _ (cf l N) (cf_swo l N) (b + 1 + 1) n (idA N) wr hcl hhold hbk (by rw [idA_size, ← HNN.out]; omega)
      rw [HN.out] at hsort
      have HSZ := hide (show (idA N).size = n by rw [idA_size, HNN.out])
      rw [HSZ.out] at hsort
      clear hcl hp3 hr3
      go_wp2_with fail
      refine hsort.mono ?_
      rintro e w5 ⟨rfl, d', m, os, hperm, hsrt, hw5⟩
      have HW5 := hide hw5
      have B5 : RowKit.Below (b + 1 + 1) wr w5 := by rw [hw5]; exact sortWorld_below wr _ m d' os hbk
      have hR1 : Row1 ec wr (b + 1 + 1) 0 (idA N) := ⟨ec_one, hhold, hbk⟩
      have hSW : SP wr (b + 1 + 1) d' w5 := ⟨m, os, hw5⟩
      have hds : d'.size = n := by have := hperm.1; rw [HSZ.out] at this; exact this
      have hpl : ∀ i (hi : i < d'.size), w5.cell? ⟨b + 1 + 1, i, none⟩ = some (.int .i64 (d'[i].val : Int)) := fun i hi => by
        have := SP.cell hSW hR1 (by rw [HSZ.out]; exact hds) i hi
        rwa [getElem!_pos d' i hi] at this
      rw [← HSZ.out] at hperm hsrt
      have HPS := hide (places_sorted l N (HN.out.trans HNN.out) hlex (idA N) d' (idA_vals N) hperm hsrt)
      clear hw5 hperm hsrt hhold hSW hR1 hsort c0 c1
      go_wp2
      have hq6 := heap_alloc_new w5 (.cells #[.slice none 0 0, .slice none 0 0] PtsT)
      have B6 := below_alloc1 w5 (.cells #[.slice none 0 0, .slice none 0 0] PtsT)
      have hP6 : PHeld (w5.alloc (.cells #[.slice none 0 0, .slice none 0 0] PtsT)) w5.heap.size w5.heap.size [] := ⟨_, _, ⟨hq6, World.ownsRow_nil _ _ _ _, World.ownsRow_nil _ _ _ _, Nat.le_refl _⟩⟩
      have hbq : b + 1 + 1 < w5.heap.size := Nat.lt_of_lt_of_le hbk B5.size
      obtain ⟨W6, hW6⟩ : ∃ W6, w5.alloc (.cells #[.slice none 0 0, .slice none 0 0] PtsT) = W6 := ⟨_, rfl⟩
      rw [hW6] at B6 hP6 ⊢
      obtain ⟨bq, hbq'⟩ : ∃ bq, w5.heap.size = bq := ⟨_, rfl⟩
      rw [hbq'] at B6 hP6 hbq ⊢
      have HBQ := hide hbq'
      have hb5 : b < w5.heap.size := by omega
      clear hW6 hbq' hq6
      have Bw6 : RowKit.Below b w W6 := (hB4.trans (B5.mono (by omega))).trans (B6.mono (by omega))
      have hp6 := (B6.block b (by omega)).trans ((B5.block b (by omega)).trans hp4)
      have hr6 := (B6.block (b + 1) (by omega)).trans ((B5.block (b + 1) (by omega)).trans hr4)
      have HPL := hide (fun i (hi : i < d'.size) => (B6.cell (p := ⟨b + 1 + 1, i, none⟩) hbq).trans (hpl i hi))
      have HCA := hide (fun i (hi : i < l.length) => (show W6.cell? ⟨ga, i, none⟩ = some (.int .u64 (hp (l.getD i (0, 0)))) by
        have h1 := (HRA.out.celled uenc_len i hi).2 0 _ rfl
        rw [Nat.mul_one, Nat.add_zero] at h1
        rw [(Bw6.cell (p := ⟨ga, i, none⟩) hga), h1]
        simp [List.getD_eq_getElem?_getD, hi]))
      have HCC := hide (fun i (hi : i < l.length) => (show W6.cell? ⟨gc, i, none⟩ = some (.int .i64 ((l.getD i (0, 0)).1 : Int)) by
        have h1 := (HRC.out.celled cenc_len i hi).2 0 _ rfl
        rw [Nat.mul_one, Nat.add_zero] at h1
        rw [(Bw6.cell (p := ⟨gc, i, none⟩) hgc), h1]
        simp [List.getD_eq_getElem?_getD, hi]))
      have HDS := hide hds
      clear hds hpl hcx B3 hB4 hB4' hp4 hr4 hbk hblk hbel HW5 B5
      generalize hlp : (d'.toList.map fun x => l.getD x.val (0, 0)) = lp at HPS
      have HLP := hide hlp
      have HLL := hide (show lp.length = n by rw [← hlp, ← HDS.out]; simp)
      clear hlp
      go_loopw [28] (fun i wr => ∃ q : Nat, q ≤ n ∧ i = .int .i64 q ∧ PHeld wr bq bq (lp.take q) ∧ RowKit.Below bq W6 wr) (fun i _ => n - (intOf i).toNat)
      case atStart => exact ⟨0, Nat.zero_le _, rfl, hP6, RowKit.Below.refl _ _⟩
      case round =>
        clear hP6
        obtain ⟨q, hq, rfl, hPH, hbel⟩ := hrel
        by_cases hlt : q < n
        · have i2 : (q : Int) < (n : Int) := by omega
          have hqd : q < d'.size := by rw [HDS.out]; exact hlt
          have hql : q < lp.length := by rw [HLL.out]; exact hlt
          have k0 := (hbel.cell (p := ⟨b + 1 + 1, q, none⟩) hbq).trans (HPL.out q hqd)
          have hx := d'[q].isLt
          have hy : l.getD d'[q].val (0, 0) = lp[q] := by
            have h1 : lp[q]? = some (l.getD d'[q].val (0, 0)) := by rw [← HLP.out]; simp [hqd]
            rw [List.getElem?_eq_getElem hql] at h1
            exact (Option.some.inj h1).symm
          have hxl : d'[q].val < l.length := by rw [HN.out, HNN.out]; exact hx
          have k1 := (hbel.cell (p := ⟨ga, d'[q].val, none⟩) (by show ga < bq; omega)).trans (HCA.out _ hxl)
          have k2 := (hbel.cell (p := ⟨gc, d'[q].val, none⟩) (by show gc < bq; omega)).trans (HCC.out _ hxl)
          rw [hy] at k1 k2
          have i3 : ((d'[q].val : Nat) : Int) < (n : Int) := by rw [HN.out] at hxl; omega
          generalize d'[q].val = x at k0 k1 k2 i3
          have hp7 := (hbel.block b (by omega)).trans hp6
          have c0 : wr.cell? ⟨b, 0, none⟩ = some (.slice (some ⟨ga, 0, none⟩) n ca) := by rw [cell_of_block hp7]; rfl
          have c1 : wr.cell? ⟨b, 1, none⟩ = some (.slice (some ⟨gc, 0, none⟩) n cc) := by rw [cell_of_block hp7]; rfl
          have HT := hide (List.take_succ_eq_append_getElem hql)
          generalize lp[q] = y at k1 k2 HT
          have hadd := fun W (h : PHeld W bq bq (lp.take q)) (hB : bq ≤ W.heap.size) => add_any y W h hB (by rw [List.length_take]; omega)
          have hsz : bq ≤ wr.heap.size := Nat.le_trans (Nat.le_of_lt (by have := hPH; obtain ⟨_, _, h⟩ := this; exact h.lt)) (Nat.le_refl _)
          generalize hp y = yh at k1 hadd
          generalize (y.1 : Int) = yc at k2 hadd
          clear hx hxl hy hqd hql hp7
          have hS : AddS b ga gc x (.slice (some ⟨ga, 0, none⟩) n ca) (.slice (some ⟨gc, 0, none⟩) n cc) yh yc wr := ⟨c0, c1, k1, k2⟩
          have hl1 : b < bq := by omega
          have hl2 : ga < bq := by omega
          have hl3 : gc < bq := by omega
          clear c0 c1 k1 k2
          go_wp2_with fail
          go_region_held3 (AddS b ga gc x (.slice (some ⟨ga, 0, none⟩) n ca) (.slice (some ⟨gc, 0, none⟩) n cc) yh yc) (first | exact AddS.call (by assumption) hl1 hl2 hl3 (by assumption) | exact AddS.drew (by assumption) | assumption)
            (first | (go_at_call 51; refine (hadd _ (PHeld.below hPH (RowKit.Below.refl _ _).drew) hsz).mono ?_; rintro e w7 ⟨rfl, hP7, hB7, _⟩))
          go_wp2
          go_roundw
          case rel => exact ⟨q + 1, by omega, by go_num, by rw [HT.out]; exact hP7, hbel.trans ((RowKit.Below.refl bq wr).drew.trans hB7)⟩
          case measure => simp [intOf]; omega
        · have i2 : ¬ (q : Int) < (n : Int) := by omega
          have hqn : q = n := by omega
          obtain ⟨va, vc, h7⟩ := hPH
          have HH := hide h7
          have c0 := h7.ca
          have c1 := h7.cc
          have hr7 := (hbel.block (b + 1) (by omega)).trans hr6
          have r0 : wr.cell? ⟨b + 1, 0, none⟩ = some (.slice none 0 0) := by rw [cell_of_block hr7]; rfl
          have r1 : wr.cell? ⟨b + 1, 1, none⟩ = some (.slice none 0 0) := by rw [cell_of_block hr7]; rfl
          have f0 := unfrozen_of_block hr7 0
          have f1 := unfrozen_of_block hr7 1
          obtain ⟨aa, cca, rfl⟩ := own_slice h7.ra
          obtain ⟨ac, ccc, rfl⟩ := own_slice h7.rc'
          have HLT := hide (show lp.take q = lp by rw [hqn, ← HLL.out, List.take_length])
          have HR7 := hide hr7
          rw [HLT.out] at HH c0 c1
          clear hqn h7 hr7
          go_wp2
          have hz := block_setCell (block_setCell HR7.out (i := 0) (.slice aa lp.length cca)) (i := 1) (.slice ac lp.length ccc)
          obtain ⟨w8, hw8⟩ : ∃ w8, (wr.setCell ⟨b + 1, 0, none⟩ (.slice aa lp.length cca)).setCell ⟨b + 1, 1, none⟩ (.slice ac lp.length ccc) = w8 := ⟨_, rfl⟩
          have hoth : ∀ g, bq ≤ g → w8.heap[g]? = wr.heap[g]? := fun g hg => by
            rw [← hw8, Below.heap_setCell _ _ _ g (by show g ≠ b + 1; omega), Below.heap_setCell _ _ _ g (by show g ≠ b + 1; omega)]
          have hB8 : RowKit.Below w.heap.size w w8 := by
            rw [← hw8]
            exact (((by rw [HB.out]; exact Bw6 : RowKit.Below w.heap.size w W6).trans (hbel.mono (by rw [HB.out]; omega))).setCell (p := ⟨b + 1, 0, none⟩) (by rw [HB.out]; show b ≤ b + 1; omega) _).setCell (p := ⟨b + 1, 1, none⟩) (by rw [HB.out]; show b ≤ b + 1; omega) _
          rw [hw8] at hz ⊢
          have e0 : w8.cell? ⟨b + 1, 0, none⟩ = some (.slice aa lp.length cca) := by rw [cell_of_block hz]; rfl
          have e1 : w8.cell? ⟨b + 1, 1, none⟩ = some (.slice ac lp.length ccc) := by rw [cell_of_block hz]; rfl
          refine bodyPost_ret (v := .agg #[.slice aa lp.length cca, .slice ac lp.length ccc]) (by simp [results, Tryd.results52, go_sem, e0, e1]) rfl ⟨_, _, rfl, lp, ?_, ?_, hB8, HPS.out.1, HPS.out.2⟩
          · exact own_mono (own_stay HH.out.ra fun g hg => hoth g (HH.out.ra.lt g hg).1) (by rw [HB.out]; omega)
          · exact own_mono (own_stay HH.out.rc' fun g hg => hoth g (HH.out.rc'.lt g hg).1) (by rw [HB.out]; omega)

end Go.Proofs.YtcmdglmcmifflaaDoor.Rs
