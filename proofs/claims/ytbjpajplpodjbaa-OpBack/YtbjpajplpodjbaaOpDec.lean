/- Layer 8: the walk over Decode: what any bytes are as a request. -/
import Derived.Test.YtbjpajplpodjbaaOpRq
import Derived.Test.YtbjpajplpodjbaaOpEnc
namespace Go.Proofs.Ytbjpajplpodjbaa.Oq
open Go.RowKit Go.Joins Go.Proofs.Ytbjpajplpodjbaa.Gk

def zReq : Req := ⟨0, 0, []⟩
def rd0 (b : ByteArray) : Rd := ⟨(Go.Proofs.Ytbjpajplpodjbaa.decode b).1, false⟩
/-- what Decode answers -/
def decReq (b : ByteArray) : Req × Nat :=
  if 262144 < b.size then (zReq, 2)
  else if (Go.Proofs.Ytbjpajplpodjbaa.decode b).2.2 ≠ 0 then (zReq, 80)
  else if (rd0 b).req.2.done = false then (zReq, 80)
  else if (rd0 b).req.1.may = false then (zReq, 80)
  else ((rd0 b).req.1, 0)

theorem decF_most (s : ByteArray) : ∀ (f p : Nat) (l : List Fld), l.length ≤ 4096 → (decF s f p l).1.length ≤ 4096
  | 0, _, _, h => h
  | f + 1, p, l, h => by
    rw [decF]
    split
    · split
      · exact Nat.zero_le _
      · split
        · exact Nat.zero_le _
        · exact decF_most s f _ _ (by simp; omega)
    · exact h
theorem decode_most (s : ByteArray) : (Go.Proofs.Ytbjpajplpodjbaa.decode s).1.length ≤ 4096 := by
  unfold Go.Proofs.Ytbjpajplpodjbaa.decode
  split
  · exact Nat.zero_le _
  · exact decF_most s _ _ _ (Nat.zero_le _)
/-- a new reader -/
theorem RdH.new {w : World} {B : Nat} {v : Value} {l : List Fld} (h : w.ownsRow B 78 3 v l.length (fcells l)) (hl : l.length ≤ 4096) : RdH (w.alloc (.cells #[v, .bool false] 62)) w.heap.size ⟨l, false⟩ := by
  have h0 : Gk.Row w fenc 78 3 v l := Gk.own_mono h (Nat.zero_le _)
  rcases h.2 with ⟨rfl, hz⟩ | ⟨g, cap, cur, rfl, _, hg, hnc, _⟩
  · have : l = [] := List.eq_nil_of_length_eq_zero hz
    subst this
    exact ⟨none, 0, heap_alloc_new w _, Or.inl rfl, Nat.le_refl _, Nat.zero_le _, fun _ _ e _ => by cases e⟩
  · refine ⟨_, cap, heap_alloc_new w _, (h0.below (below1 w _)).lies, hnc, hl, fun b off e _ => ?_⟩
    cases e
    exact (Array.getElem?_eq_some_iff.1 hg).1
theorem One.below {br : Nat} {w w' : World} (h : One br w w') {B : Nat} (hB : B ≤ br) (hz : B ≤ w.heap.size) : Below B w w' := Only.below h hz (fun b e => by omega)
theorem Rd.req_len (S : Rd) : S.req.1.ops.length ≤ 32 := by
  show ((S.req0.count 32).2.ops S.reqN).1.length ≤ 32
  rw [Rd.ops_len]
  have := Rd.count_in S.req0 32 (by decide)
  unfold Rd.reqN
  omega

set_option maxRecDepth 100000 in
set_option maxHeartbeats 2000000 in
theorem Decode_op (b : ByteArray) (w : World) (hs : b.size ≤ 140737488351232) :
    Calls Try.prog 14 #[.string b] w fun e w' => ∃ a cap, e = .returned (.tuple #[(decReq b).1.v a cap, .int .i64 (decReq b).2]) ∧ Gk.Lies w' oenc a (decReq b).1.ops ∧ Below w.heap.size w w' := by
  by_cases hbig : 262144 < b.size
  · have HR : Hid (decReq b = (zReq, 2)) := by show _ = _; rw [decReq, if_pos hbig]
    go_enter Try.func14, Try.ntmps14
    go_wp2
    rw [HR.out]
    exact bodyPost_ret (v := .tuple #[.agg #[.int .i64 0, .int .i64 0, .slice none 0 0], .int .i64 2]) (by simp [results, Try.results14, go_sem]) rfl ⟨none, 0, rfl, Or.inl rfl, below1 _ _⟩
  · have hb' : b.size ≤ 262144 := by omega
    obtain ⟨W, hW⟩ : ∃ W, W = w.alloc (.cells #[.int .i64 0, .int .i64 0, .slice none 0 0] 24) := ⟨_, rfl⟩
    have hbW : Below w.heap.size w W := by rw [hW]; exact below1 _ _
    have hh : W.heap[w.heap.size]? = some (.cells #[.int .i64 0, .int .i64 0, .slice none 0 0] 24 (0, 0)) := by rw [hW]; exact heap_alloc_new _ _
    have hzW : w.heap.size < W.heap.size := by rw [hW]; simp
    go_enter Try.func14, Try.ntmps14
    go_wp2_with fail
    rw [← hW]
    clear hW
    refine (Decode_any b W hs).mono ?_
    rintro e w1 ⟨v, rfl, hown, hb1⟩
    have hh1 := (hb1.block _ hzW).trans hh
    have hbw1 := hbW.trans (hb1.mono (by omega))
    have hz1 := hb1.size
    have hmost := hide (decode_most b)
    clear hh hbW
    by_cases her : (Go.Proofs.Ytbjpajplpodjbaa.decode b).2.2 ≠ 0
    · have HR : Hid (decReq b = (zReq, 80)) := by show _ = _; rw [decReq, if_neg hbig, if_pos her]
      generalize Go.Proofs.Ytbjpajplpodjbaa.decode b = D at *
      obtain ⟨l, en, er⟩ := D
      have be : ((er : Int) != 0) = true := by rw [bne_iff_ne]; simp at her; omega
      have z0 : w1.cell? ⟨w.heap.size, 0, none⟩ = some (.int .i64 0) := by rw [cell_of_block hh1]; rfl
      have z1 : w1.cell? ⟨w.heap.size, 1, none⟩ = some (.int .i64 0) := by rw [cell_of_block hh1]; rfl
      have z2 : w1.cell? ⟨w.heap.size, 2, none⟩ = some (.slice none 0 0) := by rw [cell_of_block hh1]; rfl
      have y0 := unfrozen_of_block hh1 0
      have y1 := unfrozen_of_block hh1 1
      have y2 := unfrozen_of_block hh1 2
      have hltz : w.heap.size < w1.heap.size := by omega
      go_wp2
      rw [HR.out]
      refine bodyPost_ret (v := .tuple #[.agg #[.int .i64 0, .int .i64 0, .slice none 0 0], .int .i64 80]) (by simp [results, Try.results14, go_sem, z0, z1, z2, hltz]) rfl ⟨none, 0, rfl, Or.inl rfl, ?_⟩
      exact (((hbw1.setCell (Nat.le_refl _) _).setCell (Nat.le_refl _) _).setCell (Nat.le_refl _) _).alloc (by simp; omega) _
    · have her0 : (Go.Proofs.Ytbjpajplpodjbaa.decode b).2.2 = 0 := by omega
      have HR : Hid (decReq b = if (rd0 b).req.2.done = false then (zReq, 80) else if (rd0 b).req.1.may = false then (zReq, 80) else ((rd0 b).req.1, 0)) := by show _ = _; rw [decReq, if_neg hbig, if_neg her]
      have hrl := hide (Rd.req_len (rd0 b))
      have hrd : Hid (rd0 b = ⟨(Go.Proofs.Ytbjpajplpodjbaa.decode b).1, false⟩) := rfl
      generalize rd0 b = S at *
      generalize Go.Proofs.Ytbjpajplpodjbaa.decode b = D at *
      obtain ⟨l, en, er⟩ := D
      simp only at her0 hmost hown hrd
      subst her0
      obtain ⟨av, cv, rfl⟩ := Gk.own_slice hown
      obtain ⟨X, hX⟩ : ∃ X, X = (w1.alloc (.cells #[.int .i64 en, .int .i64 0] 42)).alloc (.cells #[.slice av l.length cv, .bool false] 62) := ⟨_, rfl⟩
      have hbX : Below w1.heap.size w1 X := by rw [hX]; exact below2 _ _ _
      have hzX : X.heap.size = w1.heap.size + 2 := by rw [hX]; simp
      have hRd : Hid (RdH X (w1.heap.size + 1) S) := by
        show RdH _ _ _
        rw [hX, hrd.out]
        have := RdH.new (hown.alloc (.cells #[.int .i64 en, .int .i64 0] 42)) hmost.out
        simpa using this
      have hltz : w.heap.size < w1.heap.size := by omega
      have hh2 := (hbX.block _ hltz).trans hh1
      have hbX2 := hbw1.trans (hbX.mono (by omega))
      clear hown hbX hh1
      go_wp2_with fail
      rw [← hX]
      clear hX
      refine (request_rd S (w1.heap.size + 1) X hRd.out).mono ?_
      rintro e w3 ⟨a, cap, rfl, hl3, hfar, h3, hO3⟩
      have hh3 := (hO3.block _ (show w.heap.size < X.heap.size by omega) (by omega)).trans hh2
      have hb3 := hbX2.trans (One.below hO3 (show w.heap.size ≤ w1.heap.size + 1 by omega) (by omega))
      have hz3 := hO3.size
      generalize S.req = Q at *
      obtain ⟨r, S'⟩ := Q
      simp only at HR hrl hl3 h3 hfar
      have hfar' : Hid (∀ b off, a = some ⟨b, off, none⟩ → r.ops ≠ [] → w.heap.size ≠ b) := fun b off ea he => by have := hfar b off ea he; omega
      clear hfar
      have h3' := hide (h3.below (below1 w3 (.cells #[.int .i64 r.client, .int .i64 r.seq, .slice a r.ops.length cap] 24)))
      clear hO3 hh2 h3 hRd hrd
      go_wp2_with fail
      refine (isDone_rd S' _ _ h3'.out).mono ?_
      rintro e w4 ⟨rfl, rfl⟩
      have z0 : w3.cell? ⟨w.heap.size, 0, none⟩ = some (.int .i64 0) := by rw [cell_of_block hh3]; rfl
      have z1 : w3.cell? ⟨w.heap.size, 1, none⟩ = some (.int .i64 0) := by rw [cell_of_block hh3]; rfl
      have z2 : w3.cell? ⟨w.heap.size, 2, none⟩ = some (.slice none 0 0) := by rw [cell_of_block hh3]; rfl
      have y0 := unfrozen_of_block hh3 0
      have y1 := unfrozen_of_block hh3 1
      have y2 := unfrozen_of_block hh3 2
      have hlt3 : w.heap.size < w3.heap.size := by omega
      cases hd : S'.done
      · rw [hd, if_pos rfl] at HR
        go_wp2
        rw [HR.out]
        refine bodyPost_ret (v := .tuple #[.agg #[.int .i64 0, .int .i64 0, .slice none 0 0], .int .i64 80]) (by simp [results, Try.results14, go_sem, z0, z1, z2, hlt3]) rfl ⟨none, 0, rfl, Or.inl rfl, ?_⟩
        exact (((hb3.setCell (Nat.le_refl _) _).setCell (Nat.le_refl _) _).setCell (Nat.le_refl _) _).alloc (by simp; omega) _
      · rw [hd, if_neg (by decide)] at HR
        obtain ⟨Y, hY⟩ : ∃ Y, Y = w3.alloc (.cells #[.int .i64 r.client, .int .i64 r.seq, .slice a r.ops.length cap] 24) := ⟨_, rfl⟩
        have hbY : Below w3.heap.size w3 Y := by rw [hY]; exact below1 _ _
        have hhY := (hbY.block _ hlt3).trans hh3
        have hb4 := hb3.trans (hbY.mono (by omega))
        have q0 : Y.cell? ⟨w3.heap.size, 0, none⟩ = some (.int .i64 r.client) := by rw [hY]; simp
        have q1 : Y.cell? ⟨w3.heap.size, 1, none⟩ = some (.int .i64 r.seq) := by rw [hY]; simp
        have q2 : Y.cell? ⟨w3.heap.size, 2, none⟩ = some (.slice a r.ops.length cap) := by rw [hY]; simp
        have hzY : w3.heap.size < Y.heap.size := by rw [hY]; simp
        have hlY := hl3.below hbY
        go_wp2_with fail
        rw [← hY]
        clear hY z0 z1 z2 y0 y1 y2 h3' hl3
        refine (requestMayBe_op r a cap Y hlY (by have := hrl.out; omega)).mono ?_
        rintro e w5 ⟨rfl, hb5⟩
        have hhZ := (hb5.block _ (show w.heap.size < Y.heap.size by omega)).trans hhY
        have z0 : w5.cell? ⟨w.heap.size, 0, none⟩ = some (.int .i64 0) := by rw [cell_of_block hhZ]; rfl
        have z1 : w5.cell? ⟨w.heap.size, 1, none⟩ = some (.int .i64 0) := by rw [cell_of_block hhZ]; rfl
        have z2 : w5.cell? ⟨w.heap.size, 2, none⟩ = some (.slice none 0 0) := by rw [cell_of_block hhZ]; rfl
        have y0 := unfrozen_of_block hhZ 0
        have y1 := unfrozen_of_block hhZ 1
        have y2 := unfrozen_of_block hhZ 2
        have p0 := (hb5.cell (p := ⟨w3.heap.size, 0, none⟩) hzY).trans q0
        have p1 := (hb5.cell (p := ⟨w3.heap.size, 1, none⟩) hzY).trans q1
        have p2 := (hb5.cell (p := ⟨w3.heap.size, 2, none⟩) hzY).trans q2
        have hb6 := hb4.trans (hb5.mono (by omega))
        have hl5 := hlY.below hb5
        have hlt5 : w.heap.size < w5.heap.size := by have := hb5.size; omega
        clear q0 q1 q2 hlY hb4 hb5 hhY
        cases hm : r.may
        · rw [hm, if_pos rfl] at HR
          go_wp2
          rw [HR.out]
          refine bodyPost_ret (v := .tuple #[.agg #[.int .i64 0, .int .i64 0, .slice none 0 0], .int .i64 80]) (by simp [results, Try.results14, go_sem, z0, z1, z2]) rfl ⟨none, 0, rfl, Or.inl rfl, ?_⟩
          exact ((hb6.setCell (Nat.le_refl _) _).setCell (Nat.le_refl _) _).setCell (Nat.le_refl _) _
        · rw [hm, if_neg (by decide)] at HR
          go_wp2
          rw [HR.out]
          refine bodyPost_ret (v := .tuple #[.agg #[.int .i64 r.client, .int .i64 r.seq, .slice a r.ops.length cap], .int .i64 0]) (by simp [results, Try.results14, go_sem, z0, z1, z2]) rfl ⟨a, cap, rfl, ?_, ?_⟩
          · by_cases he : r.ops = []
            · exact Or.inl he
            · refine hl5.later (fun b off ea _ => ?_) (by simp)
              have hbk := hfar'.out b off ea he
              exact (Below.heap_setCell _ _ _ b (Ne.symm hbk)).trans ((Below.heap_setCell _ _ _ b (Ne.symm hbk)).trans (Below.heap_setCell _ _ _ b (Ne.symm hbk)))
          · exact ((hb6.setCell (Nat.le_refl _) _).setCell (Nat.le_refl _) _).setCell (Nat.le_refl _) _

end Go.Proofs.Ytbjpajplpodjbaa.Oq
