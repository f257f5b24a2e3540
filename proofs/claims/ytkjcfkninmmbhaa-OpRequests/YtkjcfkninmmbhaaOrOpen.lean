/- Layer 8, the document's own answer: what any bytes are as a request. -/
import Derived.Test.YtkjcfkninmmbhaaOrNum
import Derived.Test.YtkjcfkninmmbhaaOrEnc
import Derived.Test.YtkjcfkninmmbhaaRefDecode
namespace Go.Proofs.Ytkjcfkninmmbhaa.Oq
open Go.RowKit Go.Joins Go.Proofs.Ytkjcfkninmmbhaa.Gk

theorem Rd.rnum_nonneg (S : Rd) : 0 ≤ S.rnum.1 := by
  cases e : S.rest with
  | nil => rw [Rd.rnum_nil e]; exact Int.le_refl _
  | cons f r =>
    rw [Rd.rnum_cons e]
    split
    · next h => exact (within_iff.1 h.2).1
    · exact Int.le_refl _
theorem Rd.rnum_most (S : Rd) : S.rnum.1 ≤ 1099511627776 := by
  cases e : S.rest with
  | nil => rw [Rd.rnum_nil e]; decide
  | cons f r =>
    rw [Rd.rnum_cons e]
    split
    · next h => exact (within_iff.1 h.2).2
    · show (0 : Int) ≤ 1099511627776
      decide
theorem Rd.rnum_less {S : Rd} (h : S.rnum.2.wrong = false) : S.rnum.2.rest.length + 1 = S.rest.length := by
  cases e : S.rest with
  | nil => rw [Rd.rnum_nil e] at h; cases h
  | cons f r =>
    rw [Rd.rnum_cons e] at h ⊢
    by_cases ht : f.text = false ∧ within f.n 0 1099511627776 = true
    · rw [if_pos ht]; rfl
    · rw [if_neg ht] at h; cases h
theorem Rd.txt_less {S : Rd} (h : S.txt.2.wrong = false) : S.txt.2.rest.length + 1 = S.rest.length := by
  cases e : S.rest with
  | nil => rw [Rd.txt_nil e] at h; cases h
  | cons f r =>
    rw [Rd.txt_cons e] at h ⊢
    by_cases ht : f.text = true
    · rw [if_pos ht]; rfl
    · rw [if_neg ht] at h; cases h
theorem Rd.ropn_less {S : Rd} (h : S.ropn.2.wrong = false) : S.ropn.2.rest.length + 6 = S.rest.length := by
  have h4 := (Rd.rnum_ok (S := S.rop4) h).1
  have h3 := (Rd.rnum_ok (S := S.rop3) h4).1
  have h2 := (Rd.rnum_ok (S := S.rop2) h3).1
  have h1 := Rd.txt_ok (S := S.rop1) h2
  have h0 := Rd.txt_ok (S := S.rnum.2) h1
  have l5 : S.rop4.rnum.2.rest.length + 1 = S.rop4.rest.length := Rd.rnum_less (S := S.rop4) h
  have l4 : S.rop4.rest.length + 1 = S.rop3.rest.length := Rd.rnum_less (S := S.rop3) h4
  have l3 : S.rop3.rest.length + 1 = S.rop2.rest.length := Rd.rnum_less (S := S.rop2) h3
  have l2 : S.rop2.rest.length + 1 = S.rop1.rest.length := Rd.txt_less (S := S.rop1) h2
  have l1 : S.rop1.rest.length + 1 = S.rnum.2.rest.length := Rd.txt_less (S := S.rnum.2) h1
  have l0 : S.rnum.2.rest.length + 1 = S.rest.length := Rd.rnum_less (S := S) h0
  show S.rop4.rnum.2.rest.length + 6 = S.rest.length
  omega
theorem Rd.rops_less (S : Rd) : ∀ n, (S.rops n).2.wrong = false → (S.rops n).2.rest.length + 6 * n = S.rest.length
  | 0, _ => rfl
  | n + 1, h => by
    have h1 := (Rd.ropn_ok (S := (S.rops n).2) h).1
    have := Rd.rops_less S n h1
    have l : (S.rops (n + 1)).2.rest.length + 6 = (S.rops n).2.rest.length := Rd.ropn_less (S := (S.rops n).2) h
    omega
theorem RfH.len {w : World} {br : Nat} {S : Rd} (h : RfH w br S) : S.rest.length ≤ 4096 := by
  obtain ⟨a, c, l, p, h⟩ := h
  rw [h.rest, List.length_drop]
  have := h.most
  omega
theorem RfH.c2 {w : World} {br : Nat} {S : Rd} (h : RfH w br S) : w.cell? ⟨br, 2, none⟩ = some (.bool S.wrong) := by
  obtain ⟨a, c, l, p, h⟩ := h
  rw [cell_of_block h.heap]; rfl
/-- a new reader of the document's -/
theorem RfH.new {w : World} {B : Nat} {v : Value} {l : List Fld} (h : w.ownsRow B 77 3 v l.length (fcells l)) (hl : l.length ≤ 4096) : RfH (w.alloc (.cells #[v, .int .i64 0, .bool false] 68)) w.heap.size ⟨l, false⟩ := by
  have h0 : Gk.Row w fenc 77 3 v l := Gk.own_mono h (Nat.zero_le _)
  rcases h.2 with ⟨rfl, hz⟩ | ⟨g, cap, cur, rfl, _, hg, hnc, _⟩
  · have : l = [] := List.eq_nil_of_length_eq_zero hz
    subst this
    exact ⟨none, 0, [], 0, heap_alloc_new w _, Or.inl rfl, rfl, Nat.le_refl _, Nat.zero_le _, fun _ _ e _ => by cases e⟩
  · refine ⟨_, cap, l, 0, heap_alloc_new w _, (h0.below (below1 w _)).lies, rfl, Nat.zero_le _, hl, fun b off e _ => ?_⟩
    cases e
    exact (Array.getElem?_eq_some_iff.1 hg).1

set_option maxRecDepth 100000 in
set_option maxHeartbeats 800000 in
theorem open_ref_long (b : ByteArray) (w : World) (hbig : 262144 < b.size) :
    Calls Try.prog 37 #[.string b] w fun e w' => e = .returned (.tuple #[.pointer none, .int .i64 2]) ∧ Below w.heap.size w w' := by
  go_enter Try.func37, Try.ntmps37
  go_wp2
  go_ret2
  exact ⟨rfl, Below.refl _ _⟩

set_option maxRecDepth 100000 in
set_option maxHeartbeats 800000 in
theorem open_ref_bad (b : ByteArray) (w : World) (hs : b.size ≤ 140737488351232) (hbig : ¬ 262144 < b.size) (her : (Go.Proofs.Ytkjcfkninmmbhaa.decode b).2.2 ≠ 0) :
    Calls Try.prog 37 #[.string b] w fun e w' => e = .returned (.tuple #[.pointer none, .int .i64 80]) ∧ Below w.heap.size w w' := by
  go_enter Try.func37, Try.ntmps37
  go_wp2_with fail
  refine (rDecode_any b w hs).mono ?_
  rintro e w1 ⟨v, rfl, hown, hb1⟩
  obtain ⟨av, cv, rfl⟩ := Gk.own_slice hown
  generalize Go.Proofs.Ytkjcfkninmmbhaa.decode b = D at *
  obtain ⟨l, en, er⟩ := D
  have be : ((er : Int) != 0) = true := by rw [bne_iff_ne]; simp at her; omega
  clear hown
  go_wp2
  go_ret2
  exact ⟨rfl, hb1.alloc (by have := hb1.size; omega) _⟩

set_option maxRecDepth 100000 in
set_option maxHeartbeats 800000 in
theorem open_ref_ok (b : ByteArray) (w : World) (hs : b.size ≤ 140737488351232) (hbig : ¬ 262144 < b.size) (her : (Go.Proofs.Ytkjcfkninmmbhaa.decode b).2.2 = 0) :
    Calls Try.prog 37 #[.string b] w fun e w' => ∃ br, e = .returned (.tuple #[.pointer (some ⟨br, 0, none⟩), .int .i64 0]) ∧ RfH w' br (rd0 b) ∧ w.heap.size ≤ br ∧ Below w.heap.size w w' := by
  have hrd : Hid (rd0 b = ⟨(Go.Proofs.Ytkjcfkninmmbhaa.decode b).1, false⟩) := rfl
  have hmost := hide (decode_most b)
  generalize rd0 b = S at *
  go_enter Try.func37, Try.ntmps37
  go_wp2_with fail
  refine (rDecode_any b w hs).mono ?_
  rintro e w1 ⟨v, rfl, hown, hb1⟩
  obtain ⟨av, cv, rfl⟩ := Gk.own_slice hown
  generalize Go.Proofs.Ytkjcfkninmmbhaa.decode b = D at *
  obtain ⟨l, en, er⟩ := D
  simp only at her hmost hown hrd
  subst her
  have hz := hb1.size
  have hN := hide (RfH.new (hown.alloc (.cells #[.int .i64 en, .int .i64 0] 42)) hmost.out)
  clear hown
  go_wp2
  go_ret2
  refine ⟨w1.heap.size + 1, rfl, ?_, by omega, (hb1.alloc hz _).alloc (by simp; omega) _⟩
  rw [hrd.out]
  have := hN.out
  simpa using this

/-- what is read so far -/
structure RqG (w : World) (br H1 : Nat) (c s : Int) (L : List Opn) (S : Rd) (v : Value) (W : World) : Prop where
  rd : RfH W br S
  box : W.heap[H1]? = some (.cells #[.int .i64 c, .int .i64 s, v] 24 (0, 0))
  row : W.ownsRow (H1 + 1) 29 6 v L.length (rc oenc L)
  one : One br w W
  h1 : w.heap.size ≤ H1
  hb : br < w.heap.size
theorem RqG.below {w W W' : World} {br H1 : Nat} {c s : Int} {L : List Opn} {S : Rd} {v : Value} (h : RqG w br H1 c s L S v W) (hb : Below W.heap.size W W') : RqG w br H1 c s L S v W' :=
  ⟨h.rd.below hb, (hb.block H1 (Array.getElem?_eq_some_iff.1 h.box).1).trans h.box, Gk.own_below h.row hb, h.one.trans (One.of_below hb), h.h1, h.hb⟩
/-- behind a call of the reader -/
theorem RqG.call {w W W' : World} {br H1 : Nat} {c s : Int} {L : List Opn} {S S' : Rd} {v : Value} (h : RqG w br H1 c s L S v W) (hO : One br W W') (hr : RfH W' br S') : RqG w br H1 c s L S' v W' := by
  have l1 := (Array.getElem?_eq_some_iff.1 h.box).1
  have e1 := h.h1
  have eb := h.hb
  exact ⟨hr, (hO.block H1 l1 (by omega)).trans h.box, Gk.own_stay h.row (fun g hg => hO.block g (h.row.lt g hg).2 (by have := (h.row.lt g hg).1; omega)), h.one.trans hO, h.h1, h.hb⟩
theorem RqG.c2 {w W : World} {br H1 : Nat} {c s : Int} {L : List Opn} {S : Rd} {v : Value} (h : RqG w br H1 c s L S v W) : W.cell? ⟨H1, 2, none⟩ = some v := by rw [cell_of_block h.box]; rfl
theorem RqG.f2 {w W : World} {br H1 : Nat} {c s : Int} {L : List Opn} {S : Rd} {v : Value} (h : RqG w br H1 c s L S v W) : W.frozen? ⟨H1, 2, none⟩ = false := unfrozen_of_block h.box 2
theorem RqG.lt {w W : World} {br H1 : Nat} {c s : Int} {L : List Opn} {S : Rd} {v : Value} (h : RqG w br H1 c s L S v W) : H1 < W.heap.size := (Array.getElem?_eq_some_iff.1 h.box).1
theorem RqG.away {w W : World} {br H1 : Nat} {c s : Int} {L : List Opn} {S : Rd} {v : Value} (h : RqG w br H1 c s L S v W) (k : Nat) (hk : k ≤ H1) : some k ≠ v.ownBlock := fun e => by have := (h.row.lt k e.symm).1; omega
/-- the list is put back, one longer -/
theorem RqG.put {w W W' : World} {br H1 : Nat} {c s : Int} {L L' : List Opn} {S : Rd} {v v' : Value} (h : RqG w br H1 c s L S v W) (hg : W.grownBy W' v.ownBlock) (hr : W'.ownsRow (H1 + 1) 29 6 v' L'.length (rc oenc L')) : RqG w br H1 c s L' S v' (W'.setCell ⟨H1, 2, none⟩ v') := by
  have l1 := h.lt
  have e1 := h.h1
  have eb := h.hb
  have hz := hg.size
  have hk : ∀ k, k ≤ H1 → W'.heap[k]? = W.heap[k]? := fun k hk => hg.block k (by omega) (h.away k hk)
  have hs : ∀ k, k ≠ H1 → (W'.setCell ⟨H1, 2, none⟩ v').heap[k]? = W'.heap[k]? := fun k hk => Below.heap_setCell W' _ _ k hk
  refine ⟨h.rd.over (by simpa using hz) (fun k hkb => (hs k (by omega)).trans (hk k (by omega))), by rw [block_setCell ((hk H1 (Nat.le_refl _)).trans h.box)]; rfl,
    Gk.own_stay hr (fun g hg' => hs g (by have := (hr.lt g hg').1; omega)), ?_, h.h1, h.hb⟩
  refine One.setNew ⟨hg.os.trans h.one.os, hg.tape.trans h.one.tape, hg.output.trans h.one.output, Nat.le_trans h.one.size hg.size, fun k hk' hn => (hk k (by omega)).trans (h.one.block k hk' hn)⟩ H1 2 (by omega) _

end Go.Proofs.Ytkjcfkninmmbhaa.Oq
