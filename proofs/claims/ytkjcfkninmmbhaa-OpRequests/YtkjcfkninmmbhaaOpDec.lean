/- Layer 8: the walk over Decode: what any bytes are as a request. -/
import Derived.Test.YtkjcfkninmmbhaaOpRq
import Derived.Test.YtkjcfkninmmbhaaOpEnc
namespace Go.Proofs.Ytkjcfkninmmbhaa.Oq
open Go.RowKit Go.Joins Go.Proofs.Ytkjcfkninmmbhaa.Gk

def zReq : Req := ⟨0, 0, []⟩
def rd0 (b : ByteArray) : Rd := ⟨(Go.Proofs.Ytkjcfkninmmbhaa.decode b).1, false⟩
/-- what Decode answers -/
def decReq (b : ByteArray) : Req × Nat :=
  if 262144 < b.size then (zReq, 2)
  else if (Go.Proofs.Ytkjcfkninmmbhaa.decode b).2.2 ≠ 0 then (zReq, 80)
  else if (rd0 b).req.2.done = false then (zReq, 80)
  else if (rd0 b).req.1.may = false then (zReq, 80)
  else ((rd0 b).req.1, 0)

theorem decF_most (s : ByteArray) : ∀ (f p : Nat) (l : List Fld), l.length ≤ 4096 → (decF s f p l).1.length ≤ 4096
  | 0, _, _, h => h
  | f + 1, p, l, h => by
    rw [decF]
    split
    · split
      · exact Nat.zero_le _
      · split
        · exact Nat.zero_le _
        · exact decF_most s f _ _ (by simp; omega)
    · exact h
theorem decode_most (s : ByteArray) : (Go.Proofs.Ytkjcfkninmmbhaa.decode s).1.length ≤ 4096 := by
  unfold Go.Proofs.Ytkjcfkninmmbhaa.decode
  split
  · exact Nat.zero_le _
  · exact decF_most s _ _ _ (Nat.zero_le _)
/-- a new reader -/
theorem RdH.new {w : World} {B : Nat} {v : Value} {l : List Fld} (h : w.ownsRow B 77 3 v l.length (fcells l)) (hl : l.length ≤ 4096) : RdH (w.alloc (.cells #[v, .bool false] 103)) w.heap.size ⟨l, false⟩ := by
  have h0 : Gk.Row w fenc 77 3 v l := Gk.own_mono h (Nat.zero_le _)
  rcases h.2 with ⟨rfl, hz⟩ | ⟨g, cap, cur, rfl, _, hg, hnc, _⟩
  · have : l = [] := List.eq_nil_of_length_eq_zero hz
    subst this
    exact ⟨none, 0, heap_alloc_new w _, Or.inl rfl, Nat.le_refl _, Nat.zero_le _, fun _ _ e _ => by cases e⟩
  · refine ⟨_, cap, heap_alloc_new w _, (h0.below (below1 w _)).lies, hnc, hl, fun b off e _ => ?_⟩
    cases e
    exact (Array.getElem?_eq_some_iff.1 hg).1
theorem One.below {br : Nat} {w w' : World} (h : One br w w') {B : Nat} (hB : B ≤ br) (hz : B ≤ w.heap.size) : Below B w w' := Only.below h hz (fun b e => by omega)
theorem Rd.req_len (S : Rd) : S.req.1.ops.length ≤ 32 := by
  show ((S.req0.count 32).2.ops S.reqN).1.length ≤ 32
  rw [Rd.ops_len]
  have := Rd.count_in S.req0 32 (by decide)
  unfold Rd.reqN
  omega

set_option maxRecDepth 100000 in
theorem Read_rd (a : Option Addr) (n c : Nat) (w : World) :
    Calls Try.prog 63 #[.slice a n c] w fun e w' => e = .returned (.pointer (some ⟨w.heap.size, 0, none⟩)) ∧ w' = w.alloc (.cells #[.slice a n c, .bool false] 103) := by
  go_enter Try.func63, Try.ntmps63
  go_wp2
  go_ret
  exact ⟨rfl, rfl⟩
set_option maxRecDepth 100000 in
/-- a new reader, as op has it -/
theorem readerOf_rd {w : World} {B : Nat} {a : Option Addr} {c : Nat} {l : List Fld} (h : w.ownsRow B 77 3 (.slice a l.length c) l.length (fcells l)) (hl : l.length ≤ 4096) :
    Calls Try.prog 33 #[.slice a l.length c] w fun e w' => ∃ br, e = .returned (.agg #[.pointer (some ⟨br, 0, none⟩)]) ∧ w.heap.size ≤ br ∧ RdH w' br ⟨l, false⟩ ∧ Below w.heap.size w w' := by
  obtain ⟨W, hW⟩ : ∃ W, W = w.alloc (.cells #[.pointer none] 60) := ⟨_, rfl⟩
  have hbW : Below w.heap.size w W := by rw [hW]; exact below1 _ _
  have hzW : W.heap.size = w.heap.size + 1 := by rw [hW]; simp
  have hh : W.heap[w.heap.size]? = some (.cells #[.pointer none] 60 (0, 0)) := by rw [hW]; exact heap_alloc_new _ _
  have hRd := Read_rd a l.length c W
  have hN := RdH.new (Gk.own_below h hbW) hl
  go_enter Try.func33, Try.ntmps33
  go_wp2_with fail
  rw [← hW]
  clear hW
  refine hRd.mono ?_
  rintro e w2 ⟨rfl, hw2⟩
  rw [← hw2] at hN
  have hcell : w2.heap[W.heap.size]? = some (.cells #[.slice a l.length c, .bool false] 103 (0, 0)) := by rw [hw2]; exact heap_alloc_new _ _
  have hb2 : Below W.heap.size W w2 := by rw [hw2]; exact below1 _ _
  have hh2 := (hb2.block _ (by omega)).trans hh
  have hbb := hbW.trans (hb2.mono (by omega))
  have z0 : w2.cell? ⟨w.heap.size, 0, none⟩ = some (.pointer none) := by rw [cell_of_block hh2]; rfl
  have y0 := unfrozen_of_block hh2 0
  clear hRd hw2 hb2 hh hh2
  go_wp2
  refine bodyPost_ret (v := .agg #[.pointer (some ⟨W.heap.size, 0, none⟩)]) (by simp [results, Try.results33, go_sem, z0]) rfl ⟨W.heap.size, rfl, by omega, ?_, ?_⟩
  · obtain ⟨a', c', hL⟩ := hN
    refine ⟨a', c', (Below.heap_setCell _ _ _ W.heap.size (by show W.heap.size ≠ w.heap.size; omega)).trans hL.heap, ?_, hL.room, hL.most, hL.apart⟩
    by_cases he : l = []
    · exact Or.inl he
    · refine hL.lies.later (fun b off ea _ => Below.heap_setCell _ _ _ b ?_) (by simp)
      have e1 := hL.heap.symm.trans hcell
      simp only [Option.some.injEq, Obj.cells.injEq, Array.mk.injEq, List.cons.injEq, Value.slice.injEq, and_true, true_and] at e1
      have e2 : a = some ⟨b, off, none⟩ := by rw [← ea]; exact e1.1.symm
      rcases h.2 with ⟨e3, h0⟩ | ⟨g, cap', cur, e3, _, hg, _⟩
      · exact absurd (List.eq_nil_of_length_eq_zero h0) he
      · simp only [Value.slice.injEq] at e3
        rw [e2] at e3
        simp only [Option.some.injEq, Addr.mk.injEq] at e3
        have := (Array.getElem?_eq_some_iff.1 hg).1
        show b ≠ w.heap.size
        omega
  · exact hbb.setCell (Nat.le_refl _) _

set_option maxRecDepth 100000 in
set_option maxHeartbeats 2000000 in
theorem Decode_op (b : ByteArray) (w : World) (hs : b.size ≤ 140737488351232) :
    Calls Try.prog 12 #[.string b] w fun e w' => ∃ a cap, e = .returned (.tuple #[(decReq b).1.v a cap, .int .i64 (decReq b).2]) ∧ Gk.Lies w' oenc a (decReq b).1.ops ∧ Below w.heap.size w w' := by
  by_cases hbig : 262144 < b.size
  · have HR : Hid (decReq b = (zReq, 2)) := by show _ = _; rw [decReq, if_pos hbig]
    go_enter Try.func12, Try.ntmps12
    go_wp2
    rw [HR.out]
    exact bodyPost_ret (v := .tuple #[.agg #[.int .i64 0, .int .i64 0, .slice none 0 0], .int .i64 2]) (by simp [results, Try.results12, go_sem]) rfl ⟨none, 0, rfl, Or.inl rfl, below1 _ _⟩
  · have hb' : b.size ≤ 262144 := by omega
    obtain ⟨W, hW⟩ : ∃ W, W = w.alloc (.cells #[.int .i64 0, .int .i64 0, .slice none 0 0] 24) := ⟨_, rfl⟩
    have hbW : Below w.heap.size w W := by rw [hW]; exact below1 _ _
    have hh : W.heap[w.heap.size]? = some (.cells #[.int .i64 0, .int .i64 0, .slice none 0 0] 24 (0, 0)) := by rw [hW]; exact heap_alloc_new _ _
    have hzW : w.heap.size < W.heap.size := by rw [hW]; simp
    go_enter Try.func12, Try.ntmps12
    go_wp2_with fail
    rw [← hW]
    clear hW
    refine (Decode_any b W hs).mono ?_
    rintro e w1 ⟨v, rfl, hown, hb1⟩
    have hh1 := (hb1.block _ hzW).trans hh
    have hbw1 := hbW.trans (hb1.mono (by omega))
    have hz1 := hb1.size
    have hmost := hide (decode_most b)
    clear hh hbW
    by_cases her : (Go.Proofs.Ytkjcfkninmmbhaa.decode b).2.2 ≠ 0
    · have HR : Hid (decReq b = (zReq, 80)) := by show _ = _; rw [decReq, if_neg hbig, if_pos her]
      generalize Go.Proofs.Ytkjcfkninmmbhaa.decode b = D at *
      obtain ⟨l, en, er⟩ := D
      have be : ((er : Int) != 0) = true := by rw [bne_iff_ne]; simp at her; omega
      have z0 : w1.cell? ⟨w.heap.size, 0, none⟩ = some (.int .i64 0) := by rw [cell_of_block hh1]; rfl
      have z1 : w1.cell? ⟨w.heap.size, 1, none⟩ = some (.int .i64 0) := by rw [cell_of_block hh1]; rfl
      have z2 : w1.cell? ⟨w.heap.size, 2, none⟩ = some (.slice none 0 0) := by rw [cell_of_block hh1]; rfl
      have y0 := unfrozen_of_block hh1 0
      have y1 := unfrozen_of_block hh1 1
      have y2 := unfrozen_of_block hh1 2
      have hltz : w.heap.size < w1.heap.size := by omega
      go_wp2
      rw [HR.out]
      refine bodyPost_ret (v := .tuple #[.agg #[.int .i64 0, .int .i64 0, .slice none 0 0], .int .i64 80]) (by simp [results, Try.results12, go_sem, z0, z1, z2, hltz]) rfl ⟨none, 0, rfl, Or.inl rfl, ?_⟩
      exact (((hbw1.setCell (Nat.le_refl _) _).setCell (Nat.le_refl _) _).setCell (Nat.le_refl _) _).alloc (by simp; omega) _
    · have her0 : (Go.Proofs.Ytkjcfkninmmbhaa.decode b).2.2 = 0 := by omega
      have HR : Hid (decReq b = if (rd0 b).req.2.done = false then (zReq, 80) else if (rd0 b).req.1.may = false then (zReq, 80) else ((rd0 b).req.1, 0)) := by show _ = _; rw [decReq, if_neg hbig, if_neg her]
      have hrl := hide (Rd.req_len (rd0 b))
      have hrd : Hid (rd0 b = ⟨(Go.Proofs.Ytkjcfkninmmbhaa.decode b).1, false⟩) := rfl
      generalize rd0 b = S at *
      generalize Go.Proofs.Ytkjcfkninmmbhaa.decode b = D at *
      obtain ⟨l, en, er⟩ := D
      simp only at her0 hmost hown hrd
      subst her0
      obtain ⟨av, cv, rfl⟩ := Gk.own_slice hown
      obtain ⟨X0, hX0⟩ : ∃ X0, X0 = w1.alloc (.cells #[.int .i64 en, .int .i64 0] 42) := ⟨_, rfl⟩
      have hb0 : Below w1.heap.size w1 X0 := by rw [hX0]; exact below1 _ _
      have hz0 : X0.heap.size = w1.heap.size + 1 := by rw [hX0]; simp
      have hRo := readerOf_rd (Gk.own_below hown hb0) hmost.out
      have hf1 : X0.cell? ⟨w1.heap.size, 1, none⟩ = some (.int .i64 0) := by rw [hX0]; simp
      have hltz : w.heap.size < w1.heap.size := by omega
      have hh0 := (hb0.block _ hltz).trans hh1
      have hbX0 := hbw1.trans (hb0.mono (by omega))
      clear hown hb0 hh1
      go_wp2_with fail
      rw [← hX0]
      clear hX0
      refine hRo.mono ?_
      rintro e x1 ⟨br, rfl, hbr, hRd1, hbx⟩
      rw [← hrd.out] at hRd1
      obtain ⟨X, hX⟩ : ∃ X, X = x1.alloc (.cells #[.pointer (some ⟨br, 0, none⟩)] 60) := ⟨_, rfl⟩
      have hbX : Below x1.heap.size x1 X := by rw [hX]; exact below1 _ _
      have hxB : X.heap[x1.heap.size]? = some (.cells #[.pointer (some ⟨br, 0, none⟩)] 60 (0, 0)) := by rw [hX]; exact heap_alloc_new _ _
      have hxz := hbx.size
      have hbl := hRd1.lt
      have hRd2 := hRd1.below hbX
      have hh2 := (hbX.block _ (by omega)).trans ((hbx.block _ (by omega)).trans hh0)
      have hbX2 := (hbX0.trans (hbx.mono (by omega))).trans (hbX.mono (by omega))
      have hXz : X.heap.size = x1.heap.size + 1 := by rw [hX]; simp
      have xc : X.cell? ⟨x1.heap.size, 0, none⟩ = some (.pointer (some ⟨br, 0, none⟩)) := by rw [cell_of_block hxB]; rfl
      clear hRo hh0 hbX0 hbx hbX hRd1
      go_wp2_with fail
      rw [← hX]
      clear hX
      refine (request_rd S br X hRd2).mono ?_
      rintro e w3 ⟨a, cap, rfl, hl3, hfar, h3, hO3⟩
      have hh3 := (hO3.block _ (show w.heap.size < X.heap.size by omega) (by omega)).trans hh2
      have hx3 := (hO3.block _ (show x1.heap.size < X.heap.size by omega) (by omega)).trans hxB
      have hb3 := hbX2.trans (One.below hO3 (show w.heap.size ≤ br by omega) (by omega))
      have hz3 := hO3.size
      have xc3 : (w3.alloc (.cells #[.int .i64 S.req.1.client, .int .i64 S.req.1.seq, .slice a S.req.1.ops.length cap] 24)).cell? ⟨x1.heap.size, 0, none⟩ = some (.pointer (some ⟨br, 0, none⟩)) := by
        rw [cell_of_block (((below1 w3 _).block _ (by omega)).trans hx3)]; rfl
      generalize S.req = Q at *
      obtain ⟨r, S'⟩ := Q
      simp only at HR hrl hl3 h3 hfar
      have hfar' : Hid (∀ b off, a = some ⟨b, off, none⟩ → r.ops ≠ [] → w.heap.size ≠ b) := fun b off ea he => by have := hfar b off ea he; omega
      clear hfar
      have h3' := hide (h3.below (below1 w3 (.cells #[.int .i64 r.client, .int .i64 r.seq, .slice a r.ops.length cap] 24)))
      clear hO3 hh2 h3 hRd2 hrd xc hxB hx3
      go_wp2_with fail
      refine (isDone_rd S' _ _ h3'.out).mono ?_
      rintro e w4 ⟨rfl, rfl⟩
      have z0 : w3.cell? ⟨w.heap.size, 0, none⟩ = some (.int .i64 0) := by rw [cell_of_block hh3]; rfl
      have z1 : w3.cell? ⟨w.heap.size, 1, none⟩ = some (.int .i64 0) := by rw [cell_of_block hh3]; rfl
      have z2 : w3.cell? ⟨w.heap.size, 2, none⟩ = some (.slice none 0 0) := by rw [cell_of_block hh3]; rfl
      have y0 := unfrozen_of_block hh3 0
      have y1 := unfrozen_of_block hh3 1
      have y2 := unfrozen_of_block hh3 2
      have hlt3 : w.heap.size < w3.heap.size := by omega
      cases hd : S'.done
      · rw [hd, if_pos rfl] at HR
        go_wp2
        rw [HR.out]
        refine bodyPost_ret (v := .tuple #[.agg #[.int .i64 0, .int .i64 0, .slice none 0 0], .int .i64 80]) (by simp [results, Try.results12, go_sem, z0, z1, z2, hlt3]) rfl ⟨none, 0, rfl, Or.inl rfl, ?_⟩
        exact (((hb3.setCell (Nat.le_refl _) _).setCell (Nat.le_refl _) _).setCell (Nat.le_refl _) _).alloc (by simp; omega) _
      · rw [hd, if_neg (by decide)] at HR
        obtain ⟨Y, hY⟩ : ∃ Y, Y = w3.alloc (.cells #[.int .i64 r.client, .int .i64 r.seq, .slice a r.ops.length cap] 24) := ⟨_, rfl⟩
        have hbY : Below w3.heap.size w3 Y := by rw [hY]; exact below1 _ _
        have hhY := (hbY.block _ hlt3).trans hh3
        have hb4 := hb3.trans (hbY.mono (by omega))
        have q0 : Y.cell? ⟨w3.heap.size, 0, none⟩ = some (.int .i64 r.client) := by rw [hY]; simp
        have q1 : Y.cell? ⟨w3.heap.size, 1, none⟩ = some (.int .i64 r.seq) := by rw [hY]; simp
        have q2 : Y.cell? ⟨w3.heap.size, 2, none⟩ = some (.slice a r.ops.length cap) := by rw [hY]; simp
        have hzY : w3.heap.size < Y.heap.size := by rw [hY]; simp
        have hlY := hl3.below hbY
        go_wp2_with fail
        rw [← hY]
        clear hY z0 z1 z2 y0 y1 y2 h3' hl3
        refine (requestMayBe_op r a cap Y hlY (by have := hrl.out; omega)).mono ?_
        rintro e w5 ⟨rfl, hb5⟩
        have hhZ := (hb5.block _ (show w.heap.size < Y.heap.size by omega)).trans hhY
        have z0 : w5.cell? ⟨w.heap.size, 0, none⟩ = some (.int .i64 0) := by rw [cell_of_block hhZ]; rfl
        have z1 : w5.cell? ⟨w.heap.size, 1, none⟩ = some (.int .i64 0) := by rw [cell_of_block hhZ]; rfl
        have z2 : w5.cell? ⟨w.heap.size, 2, none⟩ = some (.slice none 0 0) := by rw [cell_of_block hhZ]; rfl
        have y0 := unfrozen_of_block hhZ 0
        have y1 := unfrozen_of_block hhZ 1
        have y2 := unfrozen_of_block hhZ 2
        have p0 := (hb5.cell (p := ⟨w3.heap.size, 0, none⟩) hzY).trans q0
        have p1 := (hb5.cell (p := ⟨w3.heap.size, 1, none⟩) hzY).trans q1
        have p2 := (hb5.cell (p := ⟨w3.heap.size, 2, none⟩) hzY).trans q2
        have hb6 := hb4.trans (hb5.mono (by omega))
        have hl5 := hlY.below hb5
        have hlt5 : w.heap.size < w5.heap.size := by have := hb5.size; omega
        clear q0 q1 q2 hlY hb4 hb5 hhY
        cases hm : r.may
        · rw [hm, if_pos rfl] at HR
          go_wp2
          rw [HR.out]
          refine bodyPost_ret (v := .tuple #[.agg #[.int .i64 0, .int .i64 0, .slice none 0 0], .int .i64 80]) (by simp [results, Try.results12, go_sem, z0, z1, z2]) rfl ⟨none, 0, rfl, Or.inl rfl, ?_⟩
          exact ((hb6.setCell (Nat.le_refl _) _).setCell (Nat.le_refl _) _).setCell (Nat.le_refl _) _
        · rw [hm, if_neg (by decide)] at HR
          go_wp2
          rw [HR.out]
          refine bodyPost_ret (v := .tuple #[.agg #[.int .i64 r.client, .int .i64 r.seq, .slice a r.ops.length cap], .int .i64 0]) (by simp [results, Try.results12, go_sem, z0, z1, z2]) rfl ⟨a, cap, rfl, ?_, ?_⟩
          · by_cases he : r.ops = []
            · exact Or.inl he
            · refine hl5.later (fun b off ea _ => ?_) (by simp)
              have hbk := hfar'.out b off ea he
              exact (Below.heap_setCell _ _ _ b (Ne.symm hbk)).trans ((Below.heap_setCell _ _ _ b (Ne.symm hbk)).trans (Below.heap_setCell _ _ _ b (Ne.symm hbk)))
          · exact ((hb6.setCell (Nat.le_refl _) _).setCell (Nat.le_refl _) _).setCell (Nat.le_refl _) _

end Go.Proofs.Ytkjcfkninmmbhaa.Oq
