/- Layer 8, the document's own answer: the walk over Decode. -/
import Derived.Test.YtkjcfkninmmbhaaOrOpen
import Derived.Test.YtkjcfkninmmbhaaGRow
import Derived.Test.YtkjcfkninmmbhaaGQuiet
namespace Go.Proofs.Ytkjcfkninmmbhaa.Oq
open Go.RowKit Go.Joins Go.Proofs.Ytkjcfkninmmbhaa.Gk

/-- what is not read by the program is refused -/
theorem decReq_no {b : ByteArray} (hbig : ¬ 262144 < b.size) (her : (Go.Proofs.Ytkjcfkninmmbhaa.decode b).2.2 = 0) (h : ¬ (rd0 b).reads) : decReq b = (zReq, 80) := by
  unfold decReq
  rw [if_neg hbig, if_neg (by omega)]
  by_cases hd : (rd0 b).req.2.done = false
  · rw [if_pos hd]
  · rw [if_neg hd]
    by_cases hm : (rd0 b).req.1.may = false
    · rw [if_pos hm]
    · exact absurd ⟨by simpa using hd, by simpa using hm⟩ h
theorem decReq_yes {b : ByteArray} (hbig : ¬ 262144 < b.size) (her : (Go.Proofs.Ytkjcfkninmmbhaa.decode b).2.2 = 0) (h : (rd0 b).reads) : decReq b = ((rd0 b).req.1, 0) := by
  unfold decReq
  rw [if_neg hbig, if_neg (by omega), if_neg (by simp [h.1]), if_neg (by simp [h.2])]
/-- the document's reader has met a field that may not be there -/
theorem not_reads_bad {S : Rd} {k : Nat} (hk : (k : Int) ≤ S.rmany) (h : (S.rreq0.rnum.2.rops k).2.wrong = true) : ¬ S.reads := by
  intro hr
  obtain ⟨e1, e2, e3, e4, e5, e6⟩ := Rd.reads_doc hr
  have er : S.rreq0 = S.req0 := by unfold Rd.rreq0 Rd.req0; rw [e1, e2]
  have := (e6 k (by omega)).2
  rw [← e5, ← er, h] at this
  cases this
/-- all was read, and there is more, or it may not be -/
theorem not_reads_end {S : Rd} {k : Nat} (hk : S.rmany = (k : Int)) (hw : (S.rreq0.rnum.2.rops k).2.wrong = false) (h : (S.rreq0.rnum.2.rops k).2.rest.length ≠ 0 ∨ Req.may ⟨S.rnum.1, S.rnum.2.rnum.1, (S.rreq0.rnum.2.rops k).1⟩ = false) : ¬ S.reads := by
  intro hr
  obtain ⟨_, _, _, e4, _, _⟩ := Rd.reads_doc hr
  have hl := Rd.req_len S
  have hN : S.req.1.ops.length = S.reqN := Rd.ops_len _ _
  have hd := Rd.doc_reads hk hw (by omega)
  obtain ⟨h1, h2⟩ := hr
  rw [hd] at h1 h2
  rcases h with h | h
  · unfold Rd.done at h1
    rw [Bool.and_eq_true, beq_iff_eq] at h1
    exact h h1.2
  · simp only at h2
    rw [h] at h2
    cases h2
theorem reads_end {S : Rd} {k : Nat} (hk : S.rmany = (k : Int)) (hw : (S.rreq0.rnum.2.rops k).2.wrong = false) (hr : (S.rreq0.rnum.2.rops k).2.rest.length = 0) (hm : Req.may ⟨S.rnum.1, S.rnum.2.rnum.1, (S.rreq0.rnum.2.rops k).1⟩ = true) : S.reads ∧ S.req.1 = ⟨S.rnum.1, S.rnum.2.rnum.1, (S.rreq0.rnum.2.rops k).1⟩ := by
  have hl := Req.may_len hm
  simp only [Rd.rops_len] at hl
  have hd := Rd.doc_reads hk hw hl
  refine ⟨⟨?_, by rw [hd]; exact hm⟩, by rw [hd]⟩
  rw [hd]
  simp [Rd.done, hw, hr]

/-- the reader's cells and the request's, and what lies below -/
abbrev DS (wr : World) (br H1 : Nat) (r0 r1 r2 q0 q1 q2 : Value) (W : World) : Prop :=
  (W.cell? ⟨br, 0, none⟩ = some r0 ∧ W.cell? ⟨br, 1, none⟩ = some r1 ∧ W.cell? ⟨br, 2, none⟩ = some r2 ∧ W.cell? ⟨H1, 0, none⟩ = some q0 ∧ W.cell? ⟨H1, 1, none⟩ = some q1 ∧ W.cell? ⟨H1, 2, none⟩ = some q2) ∧ br < wr.heap.size ∧ H1 < wr.heap.size ∧ Below wr.heap.size wr W
theorem DS.call {wr : World} {br H1 : Nat} {r0 r1 r2 q0 q1 q2 : Value} {a b : World} (hb : Below a.heap.size a b) (h : DS wr br H1 r0 r1 r2 q0 q1 q2 a) : DS wr br H1 r0 r1 r2 q0 q1 q2 b := by
  obtain ⟨⟨c0, c1, c2, c3, c4, c5⟩, l0, l1, hbel⟩ := h
  have hz := hbel.size
  have hc : ∀ j, b.cell? ⟨br, j, none⟩ = a.cell? ⟨br, j, none⟩ := fun j => hb.cell (p := ⟨br, j, none⟩) (by show br < _; omega)
  have hd : ∀ j, b.cell? ⟨H1, j, none⟩ = a.cell? ⟨H1, j, none⟩ := fun j => hb.cell (p := ⟨H1, j, none⟩) (by show H1 < _; omega)
  exact ⟨⟨(hc 0).trans c0, (hc 1).trans c1, (hc 2).trans c2, (hd 0).trans c3, (hd 1).trans c4, (hd 2).trans c5⟩, l0, l1, hbel.trans (hb.mono hz)⟩
theorem DS.drew {wr : World} {br H1 : Nat} {r0 r1 r2 q0 q1 q2 : Value} {a : World} (h : DS wr br H1 r0 r1 r2 q0 q1 q2 a) : DS wr br H1 r0 r1 r2 q0 q1 q2 a.drew := h.call ((Below.refl _ _).drew)

set_option maxRecDepth 100000 in
set_option maxHeartbeats 8000000 in
theorem Decode_ref (b : ByteArray) (w : World) (hs : b.size ≤ 140737488351232) :
    Calls Try.prog 13 #[.string b] w fun e w' => ∃ a cap, e = .returned (.tuple #[(decReq b).1.v a cap, .int .i64 (decReq b).2]) ∧ Gk.Lies w' oenc a (decReq b).1.ops ∧ Below w.heap.size w w' := by
  obtain ⟨W, hW⟩ : ∃ W, W = w.alloc (.cells #[.int .i64 0, .int .i64 0, .slice none 0 0] 24) := ⟨_, rfl⟩
  have hbW : Below w.heap.size w W := by rw [hW]; exact below1 _ _
  have hh : W.heap[w.heap.size]? = some (.cells #[.int .i64 0, .int .i64 0, .slice none 0 0] 24 (0, 0)) := by rw [hW]; exact heap_alloc_new _ _
  have hzW : w.heap.size < W.heap.size := by rw [hW]; simp
  by_cases hbig : 262144 < b.size
  · have HR : Hid (decReq b = (zReq, 2)) := by show _ = _; rw [decReq, if_pos hbig]
    go_enter Try.func13, Try.ntmps13
    go_wp2_with fail
    rw [← hW]
    clear hW
    refine (open_ref_long b W hbig).mono ?_
    rintro e w1 ⟨rfl, hb1⟩
    have hh1 := (hb1.block _ hzW).trans hh
    have z0 : w1.cell? ⟨w.heap.size, 0, none⟩ = some (.int .i64 0) := by rw [cell_of_block hh1]; rfl
    have z1 : w1.cell? ⟨w.heap.size, 1, none⟩ = some (.int .i64 0) := by rw [cell_of_block hh1]; rfl
    have z2 : w1.cell? ⟨w.heap.size, 2, none⟩ = some (.slice none 0 0) := by rw [cell_of_block hh1]; rfl
    have y0 := unfrozen_of_block hh1 0
    have y1 := unfrozen_of_block hh1 1
    have y2 := unfrozen_of_block hh1 2
    have hb2 := hbW.trans (hb1.mono (by omega))
    go_wp2
    rw [HR.out]
    refine bodyPost_ret (v := .tuple #[.agg #[.int .i64 0, .int .i64 0, .slice none 0 0], .int .i64 2]) (by simp [results, Try.results13, go_sem, z0, z1, z2]) rfl ⟨none, 0, rfl, Or.inl rfl, ?_⟩
    exact ((hb2.setCell (Nat.le_refl _) _).setCell (Nat.le_refl _) _).setCell (Nat.le_refl _) _
  by_cases her : (Go.Proofs.Ytkjcfkninmmbhaa.decode b).2.2 ≠ 0
  · have HR : Hid (decReq b = (zReq, 80)) := by show _ = _; rw [decReq, if_neg hbig, if_pos her]
    go_enter Try.func13, Try.ntmps13
    go_wp2_with fail
    rw [← hW]
    clear hW
    refine (open_ref_bad b W hs hbig her).mono ?_
    rintro e w1 ⟨rfl, hb1⟩
    have hh1 := (hb1.block _ hzW).trans hh
    have z0 : w1.cell? ⟨w.heap.size, 0, none⟩ = some (.int .i64 0) := by rw [cell_of_block hh1]; rfl
    have z1 : w1.cell? ⟨w.heap.size, 1, none⟩ = some (.int .i64 0) := by rw [cell_of_block hh1]; rfl
    have z2 : w1.cell? ⟨w.heap.size, 2, none⟩ = some (.slice none 0 0) := by rw [cell_of_block hh1]; rfl
    have y0 := unfrozen_of_block hh1 0
    have y1 := unfrozen_of_block hh1 1
    have y2 := unfrozen_of_block hh1 2
    have hb2 := hbW.trans (hb1.mono (by omega))
    go_wp2
    rw [HR.out]
    refine bodyPost_ret (v := .tuple #[.agg #[.int .i64 0, .int .i64 0, .slice none 0 0], .int .i64 80]) (by simp [results, Try.results13, go_sem, z0, z1, z2]) rfl ⟨none, 0, rfl, Or.inl rfl, ?_⟩
    exact ((hb2.setCell (Nat.le_refl _) _).setCell (Nat.le_refl _) _).setCell (Nat.le_refl _) _
  · have her0 : (Go.Proofs.Ytkjcfkninmmbhaa.decode b).2.2 = 0 := by omega
    have HNO := hide (@decReq_no b hbig her0)
    have HYES := hide (@decReq_yes b hbig her0)
    have hop := open_ref_ok b W hs hbig her0
    have hcnt0 := hide (Rd.rnum_nonneg (rd0 b).rreq0)
    generalize rd0 b = S at *
    go_enter Try.func13, Try.ntmps13
    go_wp2_with fail
    rw [← hW]
    clear hW
    refine hop.mono ?_
    rintro e w1 ⟨br, rfl, hrf, hbr, hb1⟩
    have hh1 := (hb1.block _ hzW).trans hh
    have hb2 := hbW.trans (hb1.mono (by omega))
    have hlt := hrf.lt
    clear hop hh hbig
    go_wp2_with fail
    refine (num_rf S br w1 hrf).mono ?_
    rintro e w2 ⟨rfl, h2, hO2⟩
    go_wp2_with fail
    refine (num_rf _ br w2 h2).mono ?_
    rintro e w3 ⟨rfl, h3, hO3⟩
    have hO := hide (hO2.trans hO3)
    have hz3 := hO.out.size
    have hSa : Hid (RqG w1 br w3.heap.size S.rnum.1 S.rnum.2.rnum.1 [] S.rreq0 (.slice none 0 0) (w3.alloc (.cells #[.int .i64 S.rnum.1, .int .i64 S.rnum.2.rnum.1, .slice none 0 0] 24))) :=
      ⟨h3.below (below1 _ _), heap_alloc_new _ _, World.ownsRow_nil _ _ _ _, hO.out.trans (One.of_below (below1 _ _)), hz3, hlt⟩
    clear hO2 hO3 h2 h3 hO hrf
    go_wp2_with fail
    have hrd := hSa.out.rd
    refine (num_rf _ br _ hrd).mono ?_
    rintro e w4 ⟨rfl, h4, hO4⟩
    have hSb : Hid (RqG w1 br w3.heap.size S.rnum.1 S.rnum.2.rnum.1 [] S.rreq0.rnum.2 (.slice none 0 0) w4) := hSa.out.call hO4 h4
    clear hrd hSa hO4 h4
    obtain ⟨n, hn⟩ : ∃ n : Nat, S.rmany = (n : Int) := ⟨S.rmany.toNat, by have : 0 ≤ S.rmany := hcnt0.out; omega⟩
    have hnm : n ≤ 1099511627776 := by have : S.rmany ≤ 1099511627776 := Rd.rnum_most _; omega
    have hni : S.rreq0.rnum.1 = (n : Int) := hn
    have hn' := hide hn
    rw [hni]
    obtain ⟨cc, hcc⟩ : ∃ cc, cc = S.rnum.1 := ⟨_, rfl⟩
    obtain ⟨ss, hss⟩ : ∃ ss, ss = S.rnum.2.rnum.1 := ⟨_, rfl⟩
    obtain ⟨S3, hS3e⟩ : ∃ S3, S3 = S.rreq0.rnum.2 := ⟨_, rfl⟩
    rw [← hcc, ← hss, ← hS3e] at hSb
    rw [← hcc, ← hss]
    have hcc' := hide hcc
    have hss' := hide hss
    have hS3e' := hide hS3e
    have hS3l := hSb.out.rd.len
    clear hcc hss hS3e hn hni hcnt0
    go_wp2
    go_loopw [8] (fun i wr => ∃ (k : Nat) (a : Option Addr) (cap : Nat), k ≤ n ∧ i = .int .i64 k ∧ Hid (RqG w1 br w3.heap.size cc ss (S3.rops k).1 (S3.rops k).2 (.slice a k cap) wr)) (fun i _ => n - (intOf i).toNat)
    case atStart => exact ⟨0, none, 0, by omega, rfl, hSb⟩
    case round =>
      clear hSb
      obtain ⟨k, a, cap, hk, rfl, hS⟩ := hrel
      have c2 := hS.out.c2
      have hltH := hS.out.lt
      have b2 := hS.out.rd.c2
      cases hbad : (S3.rops k).2.wrong
      · rw [hbad] at b2
        by_cases hlk : k < n
        · have hless := Rd.rops_less S3 k hbad
          have hLl := hide (Rd.rops_len S3 k)
          have HN : Hid ((S3.rops (k + 1)) = ((S3.rops k).1 ++ [(S3.rops k).2.ropn.1], (S3.rops k).2.ropn.2)) := rfl
          have hk7 : k ≤ 4096 := by omega
          clear hless
          generalize S3.rops k = SL at *
          obtain ⟨L, Sk⟩ := SL
          simp only at hS hLl HN hbad b2
          obtain rfl : L.length = k := hLl.out
          clear hLl
          go_wp2_with fail
          refine (num_rf Sk br wr hS.out.rd).mono ?_
          rintro e v1 ⟨rfl, g1, hP1⟩
          go_wp2_with fail
          refine (text_rf _ br v1 g1).mono ?_
          rintro e v2 ⟨rfl, g2, hP2⟩
          go_wp2_with fail
          refine (text_rf _ br v2 g2).mono ?_
          rintro e v3 ⟨rfl, g3, hP3⟩
          go_wp2_with fail
          refine (num_rf _ br v3 g3).mono ?_
          rintro e v4 ⟨rfl, g4, hP4⟩
          go_wp2_with fail
          refine (num_rf _ br v4 g4).mono ?_
          rintro e v5 ⟨rfl, g5, hP5⟩
          go_wp2_with fail
          refine (num_rf _ br v5 g5).mono ?_
          rintro e v6 ⟨rfl, g6, hP6⟩
          have hS6 : Hid (RqG w1 br w3.heap.size cc ss L Sk.ropn.2 (.slice a L.length cap) v6) := hS.out.call (((((hP1.trans hP2).trans hP3).trans hP4).trans hP5).trans hP6) g6
          have HX : Hid (Sk.ropn.1 = ⟨Sk.rnum.1, Sk.rnum.2.txt.1, Sk.rnum.2.txt.2.txt.1, Sk.rnum.2.txt.2.txt.2.rnum.1, Sk.rnum.2.txt.2.txt.2.rnum.2.rnum.1, Sk.rnum.2.txt.2.txt.2.rnum.2.rnum.2.rnum.1⟩) := rfl
          generalize Sk.rnum.2.txt.2.txt.2.rnum.2.rnum.2.rnum.1 = x6 at *
          generalize Sk.rnum.2.txt.2.txt.2.rnum.2.rnum.1 = x5 at *
          generalize Sk.rnum.2.txt.2.txt.2.rnum.1 = x4 at *
          generalize Sk.rnum.2.txt.2.txt.1 = x3 at *
          generalize Sk.rnum.2.txt.1 = x2 at *
          generalize Sk.rnum.1 = x1 at *
          generalize Sk.ropn.1 = x at *
          generalize Sk.ropn.2 = Sn at *
          clear g1 g2 g3 g4 g5 g6 hP1 hP2 hP3 hP4 hP5 hP6 hS c2 b2 hbad
          have k2 := hS6.out.c2
          have hz6 := hS6.out.lt
          have hRb := hide (hS6.out.below (below2 v6 (.cells #[.int .i64 x1, .string x2, .string x3, .int .i64 x4, .int .i64 x5, .int .i64 x6] 29) (.cells #[.int .i64 x1, .string x2, .string x3, .int .i64 x4, .int .i64 x5, .int .i64 x6] 29)))
          go_wp2_with (at_builtin; refine wpList_push (enc := oenc) rfl (.tmp 52) (.tmp 54) 22 rfl 29 _ 64 Try.underlying22 op_inf rfl (by decide) oenc_len oenc_one (w3.heap.size + 1) _ L rfl hRb.out.row (v6.heap.size + 1) ⟨x1, x2, x3, x4, x5, x6⟩ rfl ?p1 (by omega) (by omega) (by have := hRb.out.lt; omega) ?_)
          case p1 => simpa [oenc] using heap_alloc_new (v6.alloc (.cells #[.int .i64 x1, .string x2, .string x3, .int .i64 x4, .int .i64 x5, .int .i64 x6] 29)) (.cells #[.int .i64 x1, .string x2, .string x3, .int .i64 x4, .int .i64 x5, .int .i64 x6] 29)
          intro v7 w7 hrow7 hg7 hat7
          obtain ⟨a7, c7, rfl⟩ := Gk.own_slice hrow7
          have hb7 := hg7.block w3.heap.size hRb.out.lt (hRb.out.away _ (Nat.le_refl _))
          have k7 := (World.cell?_of_block (a := ⟨w3.heap.size, 2, none⟩) hb7).trans hRb.out.c2
          have z7 := (World.frozen?_of_block (a := ⟨w3.heap.size, 2, none⟩) hb7).trans hRb.out.f2
          have hlen1 : (L ++ [(⟨x1, x2, x3, x4, x5, x6⟩ : Opn)]).length = L.length + 1 := by simp
          rw [← hlen1] at hrow7
          have hS8 := hide (hRb.out.put (v' := .slice a7 (L.length + 1) c7) (L' := L ++ [⟨x1, x2, x3, x4, x5, x6⟩]) hg7 (by rw [hlen1] at hrow7 ⊢; exact hrow7))
          clear hlen1
          clear hb7 hg7 hat7 hrow7 hRb hS6 k2
          go_wp2
          go_roundw
          case rel =>
            refine ⟨L.length + 1, a7, c7, by omega, by go_num, hide ?_⟩
            rw [HN.out, HX.out]
            exact hS8.out
          case measure => simp [intOf]; omega
        · obtain rfl : k = n := by omega
          obtain ⟨aR, cR, lR, pR, hR⟩ := hS.out.rd
          have r0 : wr.cell? ⟨br, 0, none⟩ = some (.slice aR lR.length cR) := by rw [cell_of_block hR.heap]; rfl
          have r1 : wr.cell? ⟨br, 1, none⟩ = some (.int .i64 pR) := by rw [cell_of_block hR.heap]; rfl
          have hrest : Hid ((S3.rops k).2.rest.length = lR.length - pR) := by show _ = _; rw [hR.rest, List.length_drop]
          have hpR := hR.le
          have hmR := hR.most
          have hltr : w.heap.size < wr.heap.size := by have := hS.out.one.size; omega
          have hhr := (hS.out.one.block _ (show w.heap.size < w1.heap.size by omega) (by omega)).trans hh1
          have hbr' : Below w.heap.size w wr := hb2.trans (One.below hS.out.one (show w.heap.size ≤ br by omega) (by omega))
          have hnlt : ¬ (k : Int) < (k : Int) := by omega
          clear hR
          by_cases hend : pR = lR.length
          · have bn : ((lR.length : Int) != (lR.length : Int)) = false := by simp
            subst hend
            have q0 : wr.cell? ⟨w3.heap.size, 0, none⟩ = some (.int .i64 cc) := by rw [cell_of_block hS.out.box]; rfl
            have q1 : wr.cell? ⟨w3.heap.size, 1, none⟩ = some (.int .i64 ss) := by rw [cell_of_block hS.out.box]; rfl
            have hrow : Gk.Row wr oenc 29 6 (.slice a k cap) (S3.rops k).1 := Gk.own_mono hS.out.row (Nat.zero_le _)
            have hlO := hrow.lies
            have hlen := hide (Rd.rops_len S3 k)
            have hMA := MayAll_ref ⟨cc, ss, (S3.rops k).1⟩ a cap
            have hblk : Hid (∀ b off, a = some ⟨b, off, none⟩ → (S3.rops k).1 ≠ [] → w.heap.size ≠ b) := by
              intro b off ea he
              have := (hS.out.row.lt b ?_).1
              · have := hS.out.h1; omega
              rcases hS.out.row.2 with ⟨e1, h0⟩ | ⟨g, cap', cur, e1, _⟩
              · exact absurd (List.eq_nil_of_length_eq_zero h0) he
              · simp only [Value.slice.injEq] at e1
                rw [ea] at e1 ⊢
                have := e1.1
                simp only [Option.some.injEq, Addr.mk.injEq] at this
                rw [this.1, this.2.1]
                rfl
            have hrest0 : (S3.rops k).2.rest.length = 0 := by rw [hrest.out]; omega
            have HRY : Hid (Req.may ⟨cc, ss, (S3.rops k).1⟩ = true → decReq b = (⟨cc, ss, (S3.rops k).1⟩, 0)) := by
              intro hm
              have hre := reads_end (S := S) hn'.out (by rw [← hS3e'.out]; exact hbad) (by rw [← hS3e'.out]; exact hrest0) (by rw [← hS3e'.out, ← hcc'.out, ← hss'.out]; exact hm)
              rw [HYES.out hre.1, hre.2, ← hS3e'.out, ← hcc'.out, ← hss'.out]
            have HRN : Hid (Req.may ⟨cc, ss, (S3.rops k).1⟩ = false → decReq b = (zReq, 80)) := by
              intro hm
              exact HNO.out (not_reads_end hn'.out (by rw [← hS3e'.out]; exact hbad) (Or.inr (by rw [← hS3e'.out, ← hcc'.out, ← hss'.out]; exact hm)))
            clear HNO HYES hrest hrest0 hrow
            generalize (S3.rops k).1 = L at *
            have hlen' := hlen.out
            rw [Req.v] at hMA
            simp only [hlen'] at hMA
            have hMA' := fun W (hl : Gk.Lies W oenc a L) => hMA W hl (by omega)
            have hDS : DS wr br w3.heap.size (.slice aR lR.length cR) (.int .i64 lR.length) (.bool false) (.int .i64 cc) (.int .i64 ss) (.slice a k cap) wr := ⟨⟨r0, r1, b2, q0, q1, c2⟩, by have := hS.out.one.size; omega, hltH, Below.refl _ _⟩
            have hbelS : ∀ W, DS wr br w3.heap.size (.slice aR lR.length cR) (.int .i64 lR.length) (.bool false) (.int .i64 cc) (.int .i64 ss) (.slice a k cap) W → Below wr.heap.size wr W := fun W h => h.2.2.2
            clear hlen' hMA hS
            cases hm : Req.may ⟨cc, ss, L⟩
            · have HR := hide (HRN.out hm)
              rw [hm] at hMA'
              clear HRN HRY
              go_wp2
              go_region_held3 (DS wr br w3.heap.size (.slice aR lR.length cR) (.int .i64 lR.length) (.bool false) (.int .i64 cc) (.int .i64 ss) (.slice a k cap)) (first | with_reducible exact DS.drew (by assumption) | with_reducible exact DS.call (by assumption) (by assumption) | with_reducible assumption)
                (first | (go_at_call 29; refine (hMA' _ (hlO.below (hbelS _ (by assumption)))).mono ?_; rintro e w6 ⟨rfl, hb6⟩))
              all_goals
                have hf : DS wr br w3.heap.size (.slice aR lR.length cR) (.int .i64 lR.length) (.bool false) (.int .i64 cc) (.int .i64 ss) (.slice a k cap) w6 := by assumption
                have hbf := hf.2.2.2
                have hh6 := (hbf.block _ hltr).trans hhr
                have z0 : w6.cell? ⟨w.heap.size, 0, none⟩ = some (.int .i64 0) := by rw [cell_of_block hh6]; rfl
                have z1 : w6.cell? ⟨w.heap.size, 1, none⟩ = some (.int .i64 0) := by rw [cell_of_block hh6]; rfl
                have z2 : w6.cell? ⟨w.heap.size, 2, none⟩ = some (.slice none 0 0) := by rw [cell_of_block hh6]; rfl
                have y0 := unfrozen_of_block hh6 0
                have y1 := unfrozen_of_block hh6 1
                have y2 := unfrozen_of_block hh6 2
                have hb9 := hbr'.trans (hbf.mono hbr'.size)
                clear hf
                go_wp2
                rw [HR.out]
                refine bodyPost_ret (v := .tuple #[.agg #[.int .i64 0, .int .i64 0, .slice none 0 0], .int .i64 80]) (by simp [results, Try.results13, go_sem, z0, z1, z2]) rfl ⟨none, 0, rfl, Or.inl rfl, ?_⟩
                exact ((hb9.setCell (Nat.le_refl _) _).setCell (Nat.le_refl _) _).setCell (Nat.le_refl _) _
            · have HR := hide (HRY.out hm)
              rw [hm] at hMA'
              clear HRN HRY
              go_wp2
              go_region_held3 (DS wr br w3.heap.size (.slice aR lR.length cR) (.int .i64 lR.length) (.bool false) (.int .i64 cc) (.int .i64 ss) (.slice a k cap)) (first | with_reducible exact DS.drew (by assumption) | with_reducible exact DS.call (by assumption) (by assumption) | with_reducible assumption)
                (first | (go_at_call 29; refine (hMA' _ (hlO.below (hbelS _ (by assumption)))).mono ?_; rintro e w6 ⟨rfl, hb6⟩))
              all_goals
                have hf : DS wr br w3.heap.size (.slice aR lR.length cR) (.int .i64 lR.length) (.bool false) (.int .i64 cc) (.int .i64 ss) (.slice a k cap) w6 := by assumption
                obtain ⟨⟨_, _, _, t0, t1, t2⟩, _, _, hbf⟩ := hf
                have hh6 := (hbf.block _ hltr).trans hhr
                have z0 : w6.cell? ⟨w.heap.size, 0, none⟩ = some (.int .i64 0) := by rw [cell_of_block hh6]; rfl
                have z1 : w6.cell? ⟨w.heap.size, 1, none⟩ = some (.int .i64 0) := by rw [cell_of_block hh6]; rfl
                have z2 : w6.cell? ⟨w.heap.size, 2, none⟩ = some (.slice none 0 0) := by rw [cell_of_block hh6]; rfl
                have y0 := unfrozen_of_block hh6 0
                have y1 := unfrozen_of_block hh6 1
                have y2 := unfrozen_of_block hh6 2
                have hb9 := hbr'.trans (hbf.mono hbr'.size)
                have hl6 := hlO.below hbf
                go_wp2
                rw [HR.out]
                refine bodyPost_ret (v := .tuple #[.agg #[.int .i64 cc, .int .i64 ss, .slice a k cap], .int .i64 0]) (by simp [results, Try.results13, go_sem, z0, z1, z2]) rfl ⟨a, cap, by show _ = Ending.returned (.tuple #[.agg #[.int .i64 cc, .int .i64 ss, .slice a L.length cap], .int .i64 0]); rw [hlen.out], ?_, ?_⟩
                · by_cases he : L = []
                  · exact Or.inl he
                  · refine hl6.later (fun b off ea _ => ?_) (by simp)
                    have hbk := hblk.out b off ea he
                    exact (Below.heap_setCell _ _ _ b (Ne.symm hbk)).trans ((Below.heap_setCell _ _ _ b (Ne.symm hbk)).trans (Below.heap_setCell _ _ _ b (Ne.symm hbk)))
                · exact ((hb9.setCell (Nat.le_refl _) _).setCell (Nat.le_refl _) _).setCell (Nat.le_refl _) _
          · have bn : ((pR : Int) != (lR.length : Int)) = true := by rw [bne_iff_ne]; omega
            have HR : Hid (decReq b = (zReq, 80)) := HNO.out (not_reads_end hn'.out (by rw [← hS3e'.out]; exact hbad) (Or.inl (by rw [← hS3e'.out, hrest.out]; omega)))
            go_wp2
            refine wp_region_quiet_lit (by kernel_rfl) (by kernel_rfl) ?_
            refine QW.out ?_
            repeat (refine QW.step (fun K hK => ?_); go_simp; refine hK _ ?_; clear hK K)
            refine QW.nil ?_
            rintro w9 ⟨nq, rfl⟩
            have hbd := below_draws wr.heap.size wr nq
            have hhd := (hbd.block _ hltr).trans hhr
            have z0 : (wr.drewN nq).cell? ⟨w.heap.size, 0, none⟩ = some (.int .i64 0) := by rw [cell_of_block hhd]; rfl
            have z1 : (wr.drewN nq).cell? ⟨w.heap.size, 1, none⟩ = some (.int .i64 0) := by rw [cell_of_block hhd]; rfl
            have z2 : (wr.drewN nq).cell? ⟨w.heap.size, 2, none⟩ = some (.slice none 0 0) := by rw [cell_of_block hhd]; rfl
            have y0 := unfrozen_of_block hhd 0
            have y1 := unfrozen_of_block hhd 1
            have y2 := unfrozen_of_block hhd 2
            have hb9 := hbr'.trans (hbd.mono hbr'.size)
            go_wp2
            rw [HR.out]
            refine bodyPost_ret (v := .tuple #[.agg #[.int .i64 0, .int .i64 0, .slice none 0 0], .int .i64 80]) (by simp [results, Try.results13, go_sem, z0, z1, z2]) rfl ⟨none, 0, rfl, Or.inl rfl, ?_⟩
            exact ((hb9.setCell (Nat.le_refl _) _).setCell (Nat.le_refl _) _).setCell (Nat.le_refl _) _
      · rw [hbad] at b2
        have hltr : w.heap.size < wr.heap.size := by have := hS.out.one.size; omega
        have hhr := (hS.out.one.block _ (show w.heap.size < w1.heap.size by omega) (by omega)).trans hh1
        have hbr' : Below w.heap.size w wr := hb2.trans (One.below hS.out.one (show w.heap.size ≤ br by omega) (by omega))
        have HR : Hid (decReq b = (zReq, 80)) := HNO.out (not_reads_bad (k := k) (by rw [hn'.out]; omega) (by rw [← hS3e'.out]; exact hbad))
        by_cases hlk : k < n
        · go_wp2
          refine wp_region_quiet_lit (by kernel_rfl) (by kernel_rfl) ?_
          refine QW.out ?_
          repeat (refine QW.step (fun K hK => ?_); go_simp; refine hK _ ?_; clear hK K)
          refine QW.nil ?_
          rintro w9 ⟨nq, rfl⟩
          have hbd := below_draws wr.heap.size wr nq
          have hhd := (hbd.block _ hltr).trans hhr
          have z0 : (wr.drewN nq).cell? ⟨w.heap.size, 0, none⟩ = some (.int .i64 0) := by rw [cell_of_block hhd]; rfl
          have z1 : (wr.drewN nq).cell? ⟨w.heap.size, 1, none⟩ = some (.int .i64 0) := by rw [cell_of_block hhd]; rfl
          have z2 : (wr.drewN nq).cell? ⟨w.heap.size, 2, none⟩ = some (.slice none 0 0) := by rw [cell_of_block hhd]; rfl
          have y0 := unfrozen_of_block hhd 0
          have y1 := unfrozen_of_block hhd 1
          have y2 := unfrozen_of_block hhd 2
          have hb9 := hbr'.trans (hbd.mono hbr'.size)
          go_wp2
          rw [HR.out]
          refine bodyPost_ret (v := .tuple #[.agg #[.int .i64 0, .int .i64 0, .slice none 0 0], .int .i64 80]) (by simp [results, Try.results13, go_sem, z0, z1, z2]) rfl ⟨none, 0, rfl, Or.inl rfl, ?_⟩
          exact ((hb9.setCell (Nat.le_refl _) _).setCell (Nat.le_refl _) _).setCell (Nat.le_refl _) _
        · go_wp2
          refine wp_region_quiet_lit (by kernel_rfl) (by kernel_rfl) ?_
          refine QW.out ?_
          repeat (refine QW.step (fun K hK => ?_); go_simp; refine hK _ ?_; clear hK K)
          refine QW.nil ?_
          rintro w9 ⟨nq, rfl⟩
          have hbd := below_draws wr.heap.size wr nq
          have hhd := (hbd.block _ hltr).trans hhr
          have z0 : (wr.drewN nq).cell? ⟨w.heap.size, 0, none⟩ = some (.int .i64 0) := by rw [cell_of_block hhd]; rfl
          have z1 : (wr.drewN nq).cell? ⟨w.heap.size, 1, none⟩ = some (.int .i64 0) := by rw [cell_of_block hhd]; rfl
          have z2 : (wr.drewN nq).cell? ⟨w.heap.size, 2, none⟩ = some (.slice none 0 0) := by rw [cell_of_block hhd]; rfl
          have y0 := unfrozen_of_block hhd 0
          have y1 := unfrozen_of_block hhd 1
          have y2 := unfrozen_of_block hhd 2
          have hb9 := hbr'.trans (hbd.mono hbr'.size)
          go_wp2
          rw [HR.out]
          refine bodyPost_ret (v := .tuple #[.agg #[.int .i64 0, .int .i64 0, .slice none 0 0], .int .i64 80]) (by simp [results, Try.results13, go_sem, z0, z1, z2]) rfl ⟨none, 0, rfl, Or.inl rfl, ?_⟩
          exact ((hb9.setCell (Nat.le_refl _) _).setCell (Nat.le_refl _) _).setCell (Nat.le_refl _) _

end Go.Proofs.Ytkjcfkninmmbhaa.Oq
