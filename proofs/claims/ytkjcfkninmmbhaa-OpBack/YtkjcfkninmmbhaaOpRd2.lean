/- Layer 8: the walk over DecodeReply: what any bytes are as a reply. -/
import Derived.Test.YtkjcfkninmmbhaaOpRe
import Derived.Test.YtkjcfkninmmbhaaOpRpE
import Derived.Test.YtkjcfkninmmbhaaOpDec
namespace Go.Proofs.Ytkjcfkninmmbhaa.Oq
open Go.RowKit Go.Joins Go.Proofs.Ytkjcfkninmmbhaa.Gk

def noRp : Rp := ⟨0, 0, [], 0, 0⟩
/-- what DecodeReply answers -/
def decRep (b : ByteArray) : Rp × Nat :=
  if (Go.Proofs.Ytkjcfkninmmbhaa.decode b).2.2 = 2 then (noRp, 2)
  else if (Go.Proofs.Ytkjcfkninmmbhaa.decode b).2.2 ≠ 0 then (noRp, 80)
  else if (rd0 b).rep.2.done = false then (noRp, 80)
  else if (rd0 b).rep.1.may = false then (noRp, 80)
  else ((rd0 b).rep.1, 0)
theorem Rd.rep_len (S : Rd) : S.rep.1.results.length ≤ 32 ∧ ∀ x ∈ S.rep.1.results, x.rows.length ≤ 100 := by
  constructor
  · show ((S.rep0.count 32).2.ress S.repN).1.length ≤ 32
    rw [Rd.ress_len]
    have := Rd.cnt_in S.rep0 32 (by decide)
    unfold Rd.repN
    omega
  · exact Rd.ress_rows _ _

set_option maxRecDepth 100000 in
set_option maxHeartbeats 4000000 in
theorem DecodeReply_op (b : ByteArray) (w : World) (hs : b.size ≤ 140737488351232) :
    Calls Try.prog 20 #[.string b] w fun e w' => ∃ a cap l, l.map RsA.r = (decRep b).1.results ∧ e = .returned (.tuple #[rpV (decRep b).1.client (decRep b).1.seq (decRep b).1.at_ (decRep b).1.code a l.length cap, .int .i64 (decRep b).2]) ∧ ResL w' a l ∧ Below w.heap.size w w' := by
  obtain ⟨W, hW⟩ : ∃ W, W = w.alloc (.cells #[.int .i64 0, .int .i64 0, .slice none 0 0, .int .i64 0, .int .i64 0] 44) := ⟨_, rfl⟩
  have hbW : Below w.heap.size w W := by rw [hW]; exact below1 _ _
  have hh : W.heap[w.heap.size]? = some (.cells #[.int .i64 0, .int .i64 0, .slice none 0 0, .int .i64 0, .int .i64 0] 44 (0, 0)) := by rw [hW]; exact heap_alloc_new _ _
  have hzW : w.heap.size < W.heap.size := by rw [hW]; simp
  go_enter Try.func20, Try.ntmps20
  go_wp2_with fail
  rw [← hW]
  clear hW
  refine (Decode_any b W hs).mono ?_
  rintro e w1 ⟨v, rfl, hown, hb1⟩
  obtain ⟨av, cv, rfl⟩ := Gk.own_slice hown
  have hh1 := (hb1.block _ hzW).trans hh
  have hbw1 := hbW.trans (hb1.mono (by omega))
  have hz1 := hb1.size
  have hmost := hide (decode_most b)
  have hltz : w.heap.size < w1.heap.size := by omega
  clear hh hbW
  by_cases her : (Go.Proofs.Ytkjcfkninmmbhaa.decode b).2.2 ≠ 0
  · have HR : Hid (decRep b = (noRp, if (Go.Proofs.Ytkjcfkninmmbhaa.decode b).2.2 = 2 then 2 else 80)) := by
      show _ = _; unfold decRep; split
      · rfl
      · first | rfl | rw [if_pos her]
    generalize Go.Proofs.Ytkjcfkninmmbhaa.decode b = D at *
    obtain ⟨l, en, er⟩ := D
    simp only at HR her
    have z0 : w1.cell? ⟨w.heap.size, 0, none⟩ = some (.int .i64 0) := by rw [cell_of_block hh1]; rfl
    have z1 : w1.cell? ⟨w.heap.size, 1, none⟩ = some (.int .i64 0) := by rw [cell_of_block hh1]; rfl
    have z2 : w1.cell? ⟨w.heap.size, 2, none⟩ = some (.slice none 0 0) := by rw [cell_of_block hh1]; rfl
    have z3 : w1.cell? ⟨w.heap.size, 3, none⟩ = some (.int .i64 0) := by rw [cell_of_block hh1]; rfl
    have z4 : w1.cell? ⟨w.heap.size, 4, none⟩ = some (.int .i64 0) := by rw [cell_of_block hh1]; rfl
    have y0 := unfrozen_of_block hh1 0
    have y1 := unfrozen_of_block hh1 1
    have y2 := unfrozen_of_block hh1 2
    have y3 := unfrozen_of_block hh1 3
    have y4 := unfrozen_of_block hh1 4
    by_cases he2 : er = 2
    · subst he2
      rw [if_pos rfl] at HR
      go_wp2
      rw [HR.out]
      refine bodyPost_ret (v := .tuple #[.agg #[.int .i64 0, .int .i64 0, .slice none 0 0, .int .i64 0, .int .i64 0], .int .i64 2]) (by simp [results, Try.results20, go_sem, z0, z1, z2, z3, z4, hltz]) rfl ⟨none, 0, [], rfl, rfl, ⟨Or.inl rfl, fun _ hx => absurd hx List.not_mem_nil⟩, ?_⟩
      exact (((((hbw1.setCell (Nat.le_refl _) _).setCell (Nat.le_refl _) _).setCell (Nat.le_refl _) _).setCell (Nat.le_refl _) _).setCell (Nat.le_refl _) _).alloc (by simp; omega) _
    · rw [if_neg he2] at HR
      have be : ((er : Int) != 0) = true := by rw [bne_iff_ne]; omega
      have be2 : ((er : Int) == 2) = false := by rw [beq_eq_false_iff_ne]; omega
      go_wp2
      rw [HR.out]
      refine bodyPost_ret (v := .tuple #[.agg #[.int .i64 0, .int .i64 0, .slice none 0 0, .int .i64 0, .int .i64 0], .int .i64 80]) (by simp [results, Try.results20, go_sem, z0, z1, z2, z3, z4, hltz]) rfl ⟨none, 0, [], rfl, rfl, ⟨Or.inl rfl, fun _ hx => absurd hx List.not_mem_nil⟩, ?_⟩
      exact (((((hbw1.setCell (Nat.le_refl _) _).setCell (Nat.le_refl _) _).setCell (Nat.le_refl _) _).setCell (Nat.le_refl _) _).setCell (Nat.le_refl _) _).alloc (by simp; omega) _
  · have her0 : (Go.Proofs.Ytkjcfkninmmbhaa.decode b).2.2 = 0 := by omega
    have HR : Hid (decRep b = if (rd0 b).rep.2.done = false then (noRp, 80) else if (rd0 b).rep.1.may = false then (noRp, 80) else ((rd0 b).rep.1, 0)) := by show _ = _; rw [decRep, if_neg (by omega), if_neg her]
    have hrl := hide (Rd.rep_len (rd0 b))
    have hrd : Hid (rd0 b = ⟨(Go.Proofs.Ytkjcfkninmmbhaa.decode b).1, false⟩) := rfl
    generalize rd0 b = S at *
    generalize Go.Proofs.Ytkjcfkninmmbhaa.decode b = D at *
    obtain ⟨l, en, er⟩ := D
    simp only at her0 hmost hown hrd
    subst her0
    obtain ⟨X0, hX0⟩ : ∃ X0, X0 = w1.alloc (.cells #[.int .i64 en, .int .i64 0] 42) := ⟨_, rfl⟩
    have hb0 : Below w1.heap.size w1 X0 := by rw [hX0]; exact below1 _ _
    have hz0 : X0.heap.size = w1.heap.size + 1 := by rw [hX0]; simp
    have hRo := readerOf_rd (Gk.own_below hown hb0) hmost.out
    have hf1 : X0.cell? ⟨w1.heap.size, 1, none⟩ = some (.int .i64 0) := by rw [hX0]; simp
    have hh0 := (hb0.block _ hltz).trans hh1
    have hbX0 := hbw1.trans (hb0.mono (by omega))
    clear hown hb0 hh1
    go_wp2_with fail
    rw [← hX0]
    clear hX0
    refine hRo.mono ?_
    rintro e x1 ⟨br, rfl, hbr, hRd1, hbx⟩
    rw [← hrd.out] at hRd1
    obtain ⟨X, hX⟩ : ∃ X, X = x1.alloc (.cells #[.pointer (some ⟨br, 0, none⟩)] 60) := ⟨_, rfl⟩
    have hbX : Below x1.heap.size x1 X := by rw [hX]; exact below1 _ _
    have hxB : X.heap[x1.heap.size]? = some (.cells #[.pointer (some ⟨br, 0, none⟩)] 60 (0, 0)) := by rw [hX]; exact heap_alloc_new _ _
    have hxz := hbx.size
    have hbl := hRd1.lt
    have hRd2 := hRd1.below hbX
    have hh2 := (hbX.block _ (by omega)).trans ((hbx.block _ (by omega)).trans hh0)
    have hbX2 := (hbX0.trans (hbx.mono (by omega))).trans (hbX.mono (by omega))
    have hXz : X.heap.size = x1.heap.size + 1 := by rw [hX]; simp
    have xc : X.cell? ⟨x1.heap.size, 0, none⟩ = some (.pointer (some ⟨br, 0, none⟩)) := by rw [cell_of_block hxB]; rfl
    clear hRo hh0 hbX0 hbx hbX hRd1
    go_wp2_with fail
    rw [← hX]
    clear hX
    refine (reply_rd S br X hRd2).mono ?_
    rintro e w3 ⟨a, cap, L, hmap, rfl, hl3, hfar, hfar2, h3, hO3⟩
    have hh3 := (hO3.block _ (show w.heap.size < X.heap.size by omega) (by omega)).trans hh2
    have hx3 := (hO3.block _ (show x1.heap.size < X.heap.size by omega) (by omega)).trans hxB
    have hb3 := hbX2.trans (One.below hO3 (show w.heap.size ≤ br by omega) (by omega))
    have hz3 := hO3.size
    have xc3 : (w3.alloc (.cells #[.int .i64 S.rep.1.client, .int .i64 S.rep.1.seq, .slice a L.length cap, .int .i64 S.rep.1.at_, .int .i64 S.rep.1.code] 44)).cell? ⟨x1.heap.size, 0, none⟩ = some (.pointer (some ⟨br, 0, none⟩)) := by
      rw [cell_of_block (((below1 w3 _).block _ (by omega)).trans hx3)]; rfl
    generalize S.rep = Q at *
    obtain ⟨r, S'⟩ := Q
    simp only at HR hrl hl3 h3 hfar hfar2 hmap
    have hfar' : Hid (∀ b off, a = some ⟨b, off, none⟩ → L ≠ [] → w.heap.size ≠ b) := fun b off ea he => by have := hfar b off ea he; omega
    have hfar2' : Hid (∀ x ∈ L, ∀ b off, x.a = some ⟨b, off, none⟩ → x.r.rows ≠ [] → w.heap.size ≠ b) := fun x hx b off ea he => by have := hfar2 x hx b off ea he; omega
    clear hfar hfar2
    have hLn : L.length ≤ 32 := by have := hrl.out.1; rw [← hmap, List.length_map] at this; exact this
    have hLr : Hid (∀ x ∈ L, x.r.rows.length ≤ 9223372036854775807) := fun x hx => by have := hrl.out.2 x.r (by rw [← hmap]; exact List.mem_map.2 ⟨x, hx, rfl⟩); omega
    have h3' := hide (h3.below (below1 w3 (.cells #[.int .i64 r.client, .int .i64 r.seq, .slice a L.length cap, .int .i64 r.at_, .int .i64 r.code] 44)))
    have hmap' := hide hmap
    clear hO3 hh2 h3 hRd2 hrd hmap hrl xc hxB hx3
    go_wp2_with fail
    refine (isDone_rd S' _ _ h3'.out).mono ?_
    rintro e w4 ⟨rfl, rfl⟩
    have z0 : w3.cell? ⟨w.heap.size, 0, none⟩ = some (.int .i64 0) := by rw [cell_of_block hh3]; rfl
    have z1 : w3.cell? ⟨w.heap.size, 1, none⟩ = some (.int .i64 0) := by rw [cell_of_block hh3]; rfl
    have z2 : w3.cell? ⟨w.heap.size, 2, none⟩ = some (.slice none 0 0) := by rw [cell_of_block hh3]; rfl
    have z3 : w3.cell? ⟨w.heap.size, 3, none⟩ = some (.int .i64 0) := by rw [cell_of_block hh3]; rfl
    have z4 : w3.cell? ⟨w.heap.size, 4, none⟩ = some (.int .i64 0) := by rw [cell_of_block hh3]; rfl
    have y0 := unfrozen_of_block hh3 0
    have y1 := unfrozen_of_block hh3 1
    have y2 := unfrozen_of_block hh3 2
    have y3 := unfrozen_of_block hh3 3
    have y4 := unfrozen_of_block hh3 4
    have hlt3 : w.heap.size < w3.heap.size := by omega
    cases hd : S'.done
    · rw [hd, if_pos rfl] at HR
      go_wp2
      rw [HR.out]
      refine bodyPost_ret (v := .tuple #[.agg #[.int .i64 0, .int .i64 0, .slice none 0 0, .int .i64 0, .int .i64 0], .int .i64 80]) (by simp [results, Try.results20, go_sem, z0, z1, z2, z3, z4, hlt3]) rfl ⟨none, 0, [], rfl, rfl, ⟨Or.inl rfl, fun _ hx => absurd hx List.not_mem_nil⟩, ?_⟩
      exact (((((hb3.setCell (Nat.le_refl _) _).setCell (Nat.le_refl _) _).setCell (Nat.le_refl _) _).setCell (Nat.le_refl _) _).setCell (Nat.le_refl _) _).alloc (by simp; omega) _
    · rw [hd, if_neg (by decide)] at HR
      obtain ⟨Y, hY⟩ : ∃ Y, Y = w3.alloc (.cells #[.int .i64 r.client, .int .i64 r.seq, .slice a L.length cap, .int .i64 r.at_, .int .i64 r.code] 44) := ⟨_, rfl⟩
      have hbY : Below w3.heap.size w3 Y := by rw [hY]; exact below1 _ _
      have hhY := (hbY.block _ hlt3).trans hh3
      have hb4 := hb3.trans (hbY.mono (by omega))
      have q0 : Y.cell? ⟨w3.heap.size, 0, none⟩ = some (.int .i64 r.client) := by rw [hY]; simp
      have q1 : Y.cell? ⟨w3.heap.size, 1, none⟩ = some (.int .i64 r.seq) := by rw [hY]; simp
      have q2 : Y.cell? ⟨w3.heap.size, 2, none⟩ = some (.slice a L.length cap) := by rw [hY]; simp
      have q3 : Y.cell? ⟨w3.heap.size, 3, none⟩ = some (.int .i64 r.at_) := by rw [hY]; simp
      have q4 : Y.cell? ⟨w3.heap.size, 4, none⟩ = some (.int .i64 r.code) := by rw [hY]; simp
      have hzY : w3.heap.size < Y.heap.size := by rw [hY]; simp
      have hlY := hl3.below hbY
      have hRM := replyMayBe_op r.client r.seq r.at_ r.code L a cap Y hlY (by omega) hLr.out
      rw [show (⟨r.client, r.seq, L.map RsA.r, r.at_, r.code⟩ : Rp) = r by rw [hmap'.out]] at hRM
      go_wp2_with fail
      rw [← hY]
      clear hY z0 z1 z2 z3 z4 y0 y1 y2 y3 y4 h3' hl3
      refine hRM.mono ?_
      rintro e w5 ⟨rfl, hb5⟩
      have hhZ := (hb5.block _ (show w.heap.size < Y.heap.size by omega)).trans hhY
      have z0 : w5.cell? ⟨w.heap.size, 0, none⟩ = some (.int .i64 0) := by rw [cell_of_block hhZ]; rfl
      have z1 : w5.cell? ⟨w.heap.size, 1, none⟩ = some (.int .i64 0) := by rw [cell_of_block hhZ]; rfl
      have z2 : w5.cell? ⟨w.heap.size, 2, none⟩ = some (.slice none 0 0) := by rw [cell_of_block hhZ]; rfl
      have z3 : w5.cell? ⟨w.heap.size, 3, none⟩ = some (.int .i64 0) := by rw [cell_of_block hhZ]; rfl
      have z4 : w5.cell? ⟨w.heap.size, 4, none⟩ = some (.int .i64 0) := by rw [cell_of_block hhZ]; rfl
      have y0 := unfrozen_of_block hhZ 0
      have y1 := unfrozen_of_block hhZ 1
      have y2 := unfrozen_of_block hhZ 2
      have y3 := unfrozen_of_block hhZ 3
      have y4 := unfrozen_of_block hhZ 4
      have p0 := (hb5.cell (p := ⟨w3.heap.size, 0, none⟩) hzY).trans q0
      have p1 := (hb5.cell (p := ⟨w3.heap.size, 1, none⟩) hzY).trans q1
      have p2 := (hb5.cell (p := ⟨w3.heap.size, 2, none⟩) hzY).trans q2
      have p3 := (hb5.cell (p := ⟨w3.heap.size, 3, none⟩) hzY).trans q3
      have p4 := (hb5.cell (p := ⟨w3.heap.size, 4, none⟩) hzY).trans q4
      have hb6 := hb4.trans (hb5.mono (by omega))
      have hl5 := hlY.below hb5
      have hlt5 : w.heap.size < w5.heap.size := by have := hb5.size; omega
      clear q0 q1 q2 q3 q4 hlY hb4 hb5 hhY hRM
      cases hm : r.may
      · rw [hm, if_pos rfl] at HR
        go_wp2
        rw [HR.out]
        refine bodyPost_ret (v := .tuple #[.agg #[.int .i64 0, .int .i64 0, .slice none 0 0, .int .i64 0, .int .i64 0], .int .i64 80]) (by simp [results, Try.results20, go_sem, z0, z1, z2, z3, z4]) rfl ⟨none, 0, [], rfl, rfl, ⟨Or.inl rfl, fun _ hx => absurd hx List.not_mem_nil⟩, ?_⟩
        exact ((((hb6.setCell (Nat.le_refl _) _).setCell (Nat.le_refl _) _).setCell (Nat.le_refl _) _).setCell (Nat.le_refl _) _).setCell (Nat.le_refl _) _
      · rw [hm, if_neg (by decide)] at HR
        go_wp2
        rw [HR.out]
        refine bodyPost_ret (v := .tuple #[.agg #[.int .i64 r.client, .int .i64 r.seq, .slice a L.length cap, .int .i64 r.at_, .int .i64 r.code], .int .i64 0]) (by simp [results, Try.results20, go_sem, z0, z1, z2, z3, z4]) rfl ⟨a, cap, L, hmap'.out, rfl, ⟨?_, fun x hx => ?_⟩, ?_⟩
        · by_cases he : L = []
          · exact Or.inl he
          · exact hl5.lies.later (fun b off ea _ => (Below.heap_setCell _ _ _ b (Ne.symm (hfar'.out b off ea he))).trans ((Below.heap_setCell _ _ _ b (Ne.symm (hfar'.out b off ea he))).trans ((Below.heap_setCell _ _ _ b (Ne.symm (hfar'.out b off ea he))).trans ((Below.heap_setCell _ _ _ b (Ne.symm (hfar'.out b off ea he))).trans (Below.heap_setCell _ _ _ b (Ne.symm (hfar'.out b off ea he))))))) (by simp)
        · by_cases he : x.r.rows = []
          · exact Or.inl he
          · exact (hl5.rows x hx).later (fun b off ea _ => (Below.heap_setCell _ _ _ b (Ne.symm (hfar2'.out x hx b off ea he))).trans ((Below.heap_setCell _ _ _ b (Ne.symm (hfar2'.out x hx b off ea he))).trans ((Below.heap_setCell _ _ _ b (Ne.symm (hfar2'.out x hx b off ea he))).trans ((Below.heap_setCell _ _ _ b (Ne.symm (hfar2'.out x hx b off ea he))).trans (Below.heap_setCell _ _ _ b (Ne.symm (hfar2'.out x hx b off ea he))))))) (by simp)
        · exact ((((hb6.setCell (Nat.le_refl _) _).setCell (Nat.le_refl _) _).setCell (Nat.le_refl _) _).setCell (Nat.le_refl _) _).setCell (Nat.le_refl _) _

end Go.Proofs.Ytkjcfkninmmbhaa.Oq
