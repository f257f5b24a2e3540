/- Layer 8: OpRequests: the law's walk. -/
import Derived.Test.YtkjcfkninmmbhaaOpWr
import Derived.Test.YtkjcfkninmmbhaaOpBook
import Derived.Test.YtkjcfkninmmbhaaOrDec
namespace Go.Proofs.Ytkjcfkninmmbhaa.Oq
open Go.RowKit Go.Joins Go.Proofs.Ytkjcfkninmmbhaa.Gk

/-- the request's list and one of its operations -/
abbrev LqS (X : World) (H0 e o : Nat) (v : Value) (x : Opn) (W : World) : Prop :=
  (W.cell? ⟨H0, 2, none⟩ = some (v) ∧ W.cell? ⟨e, o, none⟩ = some (.int .i64 x.kind) ∧ W.cell? ⟨e, o + 1, none⟩ = some (.string x.key) ∧ W.cell? ⟨e, o + 2, none⟩ = some (.string x.val) ∧ W.cell? ⟨e, o + 3, none⟩ = some (.int .i64 x.stamp) ∧ W.cell? ⟨e, o + 4, none⟩ = some (.int .i64 x.test) ∧ W.cell? ⟨e, o + 5, none⟩ = some (.int .i64 x.most)) ∧ (H0 < X.heap.size ∧ e < X.heap.size) ∧ Below X.heap.size X W
theorem LqS.call {X : World} {H0 e o : Nat} {v : Value} {x : Opn} {a b : World} (hb : Below a.heap.size a b) (h : LqS X H0 e o v x a) : LqS X H0 e o v x b := by
  obtain ⟨⟨c0, c1, c2, c3, c4, c5, c6⟩, ⟨l0, l1⟩, hbel⟩ := h
  have hz := hbel.size
  have hc : ∀ (g j : Nat), g < X.heap.size → b.cell? ⟨g, j, none⟩ = a.cell? ⟨g, j, none⟩ := fun g j hg => hb.cell (p := ⟨g, j, none⟩) (by show g < _; omega)
  exact ⟨⟨(hc _ _ l0).trans c0, (hc _ _ l1).trans c1, (hc _ _ l1).trans c2, (hc _ _ l1).trans c3, (hc _ _ l1).trans c4, (hc _ _ l1).trans c5, (hc _ _ l1).trans c6⟩, ⟨l0, l1⟩, hbel.trans (hb.mono hz)⟩
theorem LqS.drew {X : World} {H0 e o : Nat} {v : Value} {x : Opn} {a : World} (h : LqS X H0 e o v x a) : LqS X H0 e o v x a.drew := h.call ((Below.refl _ _).drew)
/-- four requests -/
abbrev EqS (X : World) (H0 H1 H2 H3 : Nat) (r0 r1 r2 s0 s1 s2 t0 t1 t2 u0 u1 u2 : Value) (W : World) : Prop :=
  (W.cell? ⟨H0, 0, none⟩ = some (r0) ∧ W.cell? ⟨H0, 1, none⟩ = some (r1) ∧ W.cell? ⟨H0, 2, none⟩ = some (r2) ∧ W.cell? ⟨H1, 0, none⟩ = some (s0) ∧ W.cell? ⟨H1, 1, none⟩ = some (s1) ∧ W.cell? ⟨H1, 2, none⟩ = some (s2) ∧ W.cell? ⟨H2, 0, none⟩ = some (t0) ∧ W.cell? ⟨H2, 1, none⟩ = some (t1) ∧ W.cell? ⟨H2, 2, none⟩ = some (t2) ∧ W.cell? ⟨H3, 0, none⟩ = some (u0) ∧ W.cell? ⟨H3, 1, none⟩ = some (u1) ∧ W.cell? ⟨H3, 2, none⟩ = some (u2)) ∧ (H0 < X.heap.size ∧ H1 < X.heap.size ∧ H2 < X.heap.size ∧ H3 < X.heap.size) ∧ Below X.heap.size X W
theorem EqS.call {X : World} {H0 H1 H2 H3 : Nat} {r0 r1 r2 s0 s1 s2 t0 t1 t2 u0 u1 u2 : Value} {a b : World} (hb : Below a.heap.size a b) (h : EqS X H0 H1 H2 H3 r0 r1 r2 s0 s1 s2 t0 t1 t2 u0 u1 u2 a) : EqS X H0 H1 H2 H3 r0 r1 r2 s0 s1 s2 t0 t1 t2 u0 u1 u2 b := by
  obtain ⟨⟨c0, c1, c2, c3, c4, c5, c6, c7, c8, c9, c10, c11⟩, ⟨l0, l1, l2, l3⟩, hbel⟩ := h
  have hz := hbel.size
  have hc : ∀ (g j : Nat), g < X.heap.size → b.cell? ⟨g, j, none⟩ = a.cell? ⟨g, j, none⟩ := fun g j hg => hb.cell (p := ⟨g, j, none⟩) (by show g < _; omega)
  exact ⟨⟨(hc _ _ l0).trans c0, (hc _ _ l0).trans c1, (hc _ _ l0).trans c2, (hc _ _ l1).trans c3, (hc _ _ l1).trans c4, (hc _ _ l1).trans c5, (hc _ _ l2).trans c6, (hc _ _ l2).trans c7, (hc _ _ l2).trans c8, (hc _ _ l3).trans c9, (hc _ _ l3).trans c10, (hc _ _ l3).trans c11⟩, ⟨l0, l1, l2, l3⟩, hbel.trans (hb.mono hz)⟩
theorem EqS.drew {X : World} {H0 H1 H2 H3 : Nat} {r0 r1 r2 s0 s1 s2 t0 t1 t2 u0 u1 u2 : Value} {a : World} (h : EqS X H0 H1 H2 H3 r0 r1 r2 s0 s1 s2 t0 t1 t2 u0 u1 u2 a) : EqS X H0 H1 H2 H3 r0 r1 r2 s0 s1 s2 t0 t1 t2 u0 u1 u2 a.drew := h.call ((Below.refl _ _).drew)
theorem EqS.bel {X : World} {H0 H1 H2 H3 : Nat} {r0 r1 r2 s0 s1 s2 t0 t1 t2 u0 u1 u2 : Value} {W : World} (h : EqS X H0 H1 H2 H3 r0 r1 r2 s0 s1 s2 t0 t1 t2 u0 u1 u2 W) : Below X.heap.size X W := h.2.2

set_option maxRecDepth 100000 in
set_option maxHeartbeats 8000000 in
theorem requests_law (r : Req) (a : Option Addr) (cap : Nat) (b : ByteArray) (w : World) (hat : OpsAt w a cap r.ops) (hn : r.ops.length * 64 ≤ 140737488351232) (hs : b.size ≤ 140737488351232) :
    Calls Try.prog 3 #[r.v a cap, .string b] w fun e w' => e = .returned (.bool true) ∧ Below w.heap.size w w' := by
  have hl := hat.lies
  have hnil := hat.nil
  have hsz : ∀ x ∈ r.ops, x.key.size ≤ 140737488351232 ∧ x.val.size ≤ 140737488351232 := fun x hx => ⟨(hat.each x hx).key, (hat.each x hx).val⟩
  have hrn : r.ops.length ≤ 4611686018427387903 := by omega
  obtain ⟨W, hW⟩ : ∃ W, W = (w.alloc (.cells #[.int .i64 r.client, .int .i64 r.seq, .slice a r.ops.length cap] 24)).alloc (.cells #[.int .i64 r.client, .int .i64 r.seq, .slice a r.ops.length cap] 24) := ⟨_, rfl⟩
  have hbW : Below w.heap.size w W := by rw [hW]; exact below2 _ _ _
  have hzW : W.heap.size = w.heap.size + 2 := by rw [hW]; simp
  have hA : W.heap[w.heap.size]? = some (.cells #[.int .i64 r.client, .int .i64 r.seq, .slice a r.ops.length cap] 24 (0, 0)) := by
    rw [hW]; exact ((below1 _ _).block _ (by simp)).trans (heap_alloc_new _ _)
  have hB : W.heap[w.heap.size + 1]? = some (.cells #[.int .i64 r.client, .int .i64 r.seq, .slice a r.ops.length cap] 24 (0, 0)) := by
    rw [hW]; have := heap_alloc_new (w.alloc (.cells #[.int .i64 r.client, .int .i64 r.seq, .slice a r.ops.length cap] 24)) (.cells #[.int .i64 r.client, .int .i64 r.seq, .slice a r.ops.length cap] 24); simpa using this
  go_enter Try.func3, Try.ntmps3
  go_wp2_with fail
  rw [← hW]
  clear hW
  refine (lendOps_any a cap r.ops W (hl.below hbW) hnil hn).mono ?_
  rintro e w1 ⟨g, c, rfl, hlent, hb1⟩
  have hA1 := (hb1.block _ (show w.heap.size < W.heap.size by omega)).trans hA
  have hB1 := (hb1.block _ (show w.heap.size + 1 < W.heap.size by omega)).trans hB
  have hz1 := hb1.size
  have x2 : w1.cell? ⟨w.heap.size + 1, 2, none⟩ = some (.slice a r.ops.length cap) := by rw [cell_of_block hB1]; rfl
  have f2 := unfrozen_of_block hB1 2
  obtain ⟨X, hX⟩ : ∃ X, X = w1.setCell ⟨w.heap.size + 1, 2, none⟩ (.slice (some ⟨g, 0, none⟩) r.ops.length c) := ⟨_, rfl⟩
  have hAX : X.heap[w.heap.size]? = some (.cells #[.int .i64 r.client, .int .i64 r.seq, .slice a r.ops.length cap] 24 (0, 0)) := by
    rw [hX]; exact (Below.heap_setCell w1 _ _ _ (by show w.heap.size ≠ w.heap.size + 1; omega)).trans hA1
  have hBX : X.heap[w.heap.size + 1]? = some (.cells #[.int .i64 r.client, .int .i64 r.seq, .slice (some ⟨g, 0, none⟩) r.ops.length c] 24 (0, 0)) := by
    rw [hX, block_setCell hB1]; rfl
  have hlentX : Hid (X.ownsRow W.heap.size 29 6 (.slice (some ⟨g, 0, none⟩) (r.ops.length + 1) c) (r.ops.length + 1) (rc oenc (r.ops ++ [markO]))) := by
    show World.ownsRow _ _ _ _ _ _ _
    rw [hX]
    exact Gk.own_stay hlent (fun k hk => Below.heap_setCell w1 _ _ k (by have := (hlent.lt k hk).1; show k ≠ w.heap.size + 1; omega))
  have hbX : Below w.heap.size w X := by rw [hX]; exact (hbW.trans (hb1.mono (by omega))).setCell (by show w.heap.size ≤ w.heap.size + 1; omega) _
  have hzX : w.heap.size + 1 < X.heap.size := (Array.getElem?_eq_some_iff.1 hBX).1
  have hlX := hl.below hbX
  have hlL := lentO_lies hlentX.out rfl
  clear hA hB hA1 hB1 hlent hb1 hl hbW
  go_wp2
  rw [← hX]
  clear hX x2 f2
  go_loopw [6] (fun i wr => ∃ k : Nat, k ≤ r.ops.length ∧ i = .int .i64 k ∧ Below X.heap.size X wr) (fun i _ => r.ops.length - (intOf i).toNat)
  case atStart => exact ⟨0, by omega, rfl, Below.refl _ _⟩
  case round =>
    obtain ⟨k, hk, rfl, hbel⟩ := hrel
    have hwr := hbel.size
    have hAr := (hbel.block _ (show w.heap.size < X.heap.size by omega)).trans hAX
    have q2 : wr.cell? ⟨w.heap.size, 2, none⟩ = some (.slice a r.ops.length cap) := by rw [cell_of_block hAr]; rfl
    by_cases hlt : k < r.ops.length
    · obtain ⟨bb, off, rfl, hbb, _⟩ := hlX.at (k := 6) oenc_len k hlt
      obtain ⟨b', off', e1, _, hc⟩ := (hlX.below hbel).at (k := 6) oenc_len k hlt
      cases e1
      have c0 := hc 0 _ rfl
      have c1 := hc 1 _ rfl
      have c2 := hc 2 _ rfl
      have c3 := hc 3 _ rfl
      have c4 := hc 4 _ rfl
      have c5 := hc 5 _ rfl
      rw [Nat.add_zero] at c0
      clear hc
      generalize r.ops[k] = x at *
      have i1 : (0 : Int) ≤ (k : Int) := by omega
      have i2 : (k : Int) < (r.ops.length : Int) := by omega
      have n1 : (chkI x.may != chkI x.may) = false := by simp
      have n2 : (x.writes != x.writes) = false := by simp
      have hS : LqS X w.heap.size bb (off + k * 6) (.slice (some ⟨bb, off, none⟩) r.ops.length cap) x wr := ⟨⟨q2, c0, c1, c2, c3, c4, c5⟩, ⟨by omega, hbb⟩, hbel⟩
      clear q2 c0 c1 c2 c3 c4 c5 hAr
      go_wp2
      go_region_held3 (LqS X w.heap.size bb (off + k * 6) (.slice (some ⟨bb, off, none⟩) r.ops.length cap) x) (first | with_reducible exact LqS.drew (by assumption) | with_reducible exact LqS.call (by assumption) (by assumption) | with_reducible assumption)
        (first | (go_at_call 6; refine (Check_op x _).mono ?_; rintro e w3 ⟨rfl, hb3⟩) | (go_at_call 7; refine (Check_ref x _).mono ?_; rintro e w3 ⟨rfl, hb3⟩) | (go_at_call 8; refine (Writes_op x _).mono ?_; rintro e w3 ⟨rfl, hb3⟩) | (go_at_call 9; refine (Writes_ref x _).mono ?_; rintro e w3 ⟨rfl, hb3⟩))
      have hf : LqS X w.heap.size bb (off + k * 6) (.slice (some ⟨bb, off, none⟩) r.ops.length cap) x w3 := by assumption
      have hbf := hf.2.2
      clear hf hS
      go_wp2
      go_roundw
      case rel => exact ⟨k + 1, by omega, by go_num, hbf⟩
      case measure => simp [intOf]; omega
    · have hBr := (hbel.block _ (show w.heap.size + 1 < X.heap.size by omega)).trans hBX
      have p0 : wr.cell? ⟨w.heap.size + 1, 0, none⟩ = some (.int .i64 r.client) := by rw [cell_of_block hBr]; rfl
      have p1 : wr.cell? ⟨w.heap.size + 1, 1, none⟩ = some (.int .i64 r.seq) := by rw [cell_of_block hBr]; rfl
      have p2 : wr.cell? ⟨w.heap.size + 1, 2, none⟩ = some (.slice (some ⟨g, 0, none⟩) r.ops.length c) := by rw [cell_of_block hBr]; rfl
      go_wp2_with fail
      refine (Encode_op r (some ⟨g, 0, none⟩) c wr (hlL.below hbel) (by omega) hsz).mono ?_
      rintro e w2 ⟨rfl, hb2⟩
      have hbe2 := hbel.trans (hb2.mono hwr)
      have hA2 := (hbe2.block _ (show w.heap.size < X.heap.size by omega)).trans hAX
      have q0 : w2.cell? ⟨w.heap.size, 0, none⟩ = some (.int .i64 r.client) := by rw [cell_of_block hA2]; rfl
      have q1 : w2.cell? ⟨w.heap.size, 1, none⟩ = some (.int .i64 r.seq) := by rw [cell_of_block hA2]; rfl
      have q2 : w2.cell? ⟨w.heap.size, 2, none⟩ = some (.slice a r.ops.length cap) := by rw [cell_of_block hA2]; rfl
      rw [Req.encodeV]
      clear p0 p1 p2 hBr hAr
      go_wp2_with fail
      refine (Encode_ref r a cap w2 (hlX.below hbe2) (by omega)).mono ?_
      rintro e w3 ⟨rfl, hb3⟩
      have hbe3 := hbe2.trans (hb3.mono hbe2.size)
      rw [Req.encodeV]
      clear q0 q1 q2 hA2
      go_wp2_with fail
      refine (Decode_op b w3 hs).mono ?_
      rintro e w4 ⟨a4, c4, rfl, hl4, hb4⟩
      have hbe4 := hbe3.trans (hb4.mono hbe3.size)
      go_wp2_with fail
      refine (Decode_ref b _ hs).mono ?_
      rintro e w5 ⟨a5, c5, rfl, hl5, hb5⟩
      obtain ⟨q, ec⟩ : ∃ q : Req × Nat, q = decReq b := ⟨_, rfl⟩
      rw [← ec] at hl4 hl5 hb5 ⊢
      have hb4' : Below w4.heap.size w4 w5 := (below1 w4 _).trans (hb5.mono (by simp))
      obtain ⟨Z, hZ⟩ : ∃ Z, Z = w5.alloc (.cells #[.int .i64 q.1.client, .int .i64 q.1.seq, .slice a5 q.1.ops.length c5] 24) := ⟨_, rfl⟩
      have hb5Z : Below w5.heap.size w5 Z := by rw [hZ]; exact below1 _ _
      have hb4Z : Below w4.heap.size w4 Z := hb4'.trans (hb5Z.mono hb4'.size)
      have hXZ : Below X.heap.size X Z := hbe4.trans (hb4Z.mono hbe4.size)
      have hz45 := hb4'.size
      have hzZ : w5.heap.size < Z.heap.size := by rw [hZ]; simp
      have hbx : Z.heap[w4.heap.size]? = some (.cells #[.int .i64 q.1.client, .int .i64 q.1.seq, .slice a4 q.1.ops.length c4] 24 (0, 0)) := by
        refine (hb5Z.block _ ?_).trans ((hb5.block _ (by simp)).trans (heap_alloc_new w4 _))
        have := hb5.size
        simp at this
        omega
      have hby : Z.heap[w5.heap.size]? = some (.cells #[.int .i64 q.1.client, .int .i64 q.1.seq, .slice a5 q.1.ops.length c5] 24 (0, 0)) := by rw [hZ]; exact heap_alloc_new _ _
      have hAZ := (hXZ.block _ (show w.heap.size < X.heap.size by omega)).trans hAX
      have hBZ := (hXZ.block _ (show w.heap.size + 1 < X.heap.size by omega)).trans hBX
      have hl4Z := hl4.below hb4Z
      have hl5Z := hl5.below hb5Z
      have hlXZ := hlX.below hXZ
      have hlLZ := hlL.below hXZ
      have hltZ := hide (Gk.own_below hlentX.out hXZ)
      have hwZ : Below w.heap.size w Z := hbX.trans (hXZ.mono hbX.size)
      have hS : EqS Z w.heap.size (w.heap.size + 1) w4.heap.size w5.heap.size (.int .i64 r.client) (.int .i64 r.seq) (.slice a r.ops.length cap) (.int .i64 r.client) (.int .i64 r.seq) (.slice (some ⟨g, 0, none⟩) r.ops.length c)
          (.int .i64 q.1.client) (.int .i64 q.1.seq) (.slice a4 q.1.ops.length c4) (.int .i64 q.1.client) (.int .i64 q.1.seq) (.slice a5 q.1.ops.length c5) Z := by
        refine ⟨⟨?_, ?_, ?_, ?_, ?_, ?_, ?_, ?_, ?_, ?_, ?_, ?_⟩, ⟨(Array.getElem?_eq_some_iff.1 hAZ).1, (Array.getElem?_eq_some_iff.1 hBZ).1, (Array.getElem?_eq_some_iff.1 hbx).1, hzZ⟩, Below.refl _ _⟩
        · rw [cell_of_block hAZ]; rfl
        · rw [cell_of_block hAZ]; rfl
        · rw [cell_of_block hAZ]; rfl
        · rw [cell_of_block hBZ]; rfl
        · rw [cell_of_block hBZ]; rfl
        · rw [cell_of_block hBZ]; rfl
        · rw [cell_of_block hbx]; rfl
        · rw [cell_of_block hbx]; rfl
        · rw [cell_of_block hbx]; rfl
        · rw [cell_of_block hby]; rfl
        · rw [cell_of_block hby]; rfl
        · rw [cell_of_block hby]; rfl
      have hql : q.1.ops.length ≤ 32 := by
        rw [ec]; unfold decReq
        split
        · exact Nat.zero_le _
        split
        · exact Nat.zero_le _
        split
        · exact Nat.zero_le _
        split
        · exact Nat.zero_le _
        · exact Rd.req_len _
      have C1 := fun W (hb : Below Z.heap.size Z W) => CheckAll_op r (some ⟨g, 0, none⟩) c W (hlLZ.below hb) (by omega)
      have C2 := fun W (hb : Below Z.heap.size Z W) => CheckAll_ref r a cap W (hlXZ.below hb) (by omega)
      have C3 := fun W (hb : Below Z.heap.size Z W) => sameRequest_any q.1 a4 a5 c4 c5 W (hl4Z.below hb) (hl5Z.below hb) (by omega)
      have C4 := fun W (hb : Below Z.heap.size Z W) => keptOps_any g c a cap r.ops W (Gk.own_below hltZ.out hb) (hlXZ.below hb) hrn
      rw [Req.v] at C3
      clear hAX hBX hlentX hbX hzX hlX hlL hbel hwr hb2 hbe2 hb3 hbe3 hl4 hb4 hbe4 hl5 hb5 hb4' hb5Z hb4Z hXZ hz45 hzZ hbx hby hAZ hBZ hl4Z hl5Z hlXZ hlLZ hltZ hat hsz hnil ec hql
      go_wp2
      rw [← hZ]
      clear hZ
      have m1 : (chkI r.may == chkI r.may) = true := by simp
      generalize chkI r.may = m at *
      obtain ⟨q, e5⟩ := q
      generalize r.encode = E at *
      obtain ⟨E1, E2⟩ := E
      simp only at C3 hS
      go_region_held3 (EqS Z w.heap.size (w.heap.size + 1) w4.heap.size w5.heap.size (.int .i64 r.client) (.int .i64 r.seq) (.slice a r.ops.length cap) (.int .i64 r.client) (.int .i64 r.seq) (.slice (some ⟨g, 0, none⟩) r.ops.length c)
          (.int .i64 q.client) (.int .i64 q.seq) (.slice a4 q.ops.length c4) (.int .i64 q.client) (.int .i64 q.seq) (.slice a5 q.ops.length c5)) (first | with_reducible exact EqS.drew (by assumption) | with_reducible exact EqS.call (by assumption) (by assumption) | with_reducible assumption)
        (first | (go_at_call 14; refine (names_any _).mono ?_; rintro e w6 ⟨rfl, rfl⟩) | (go_at_call 15; with_reducible refine (C1 _ (EqS.bel (by assumption))).mono ?_; rintro e w6 ⟨rfl, hb6⟩) | (go_at_call 16; with_reducible refine (C2 _ (EqS.bel (by assumption))).mono ?_; rintro e w6 ⟨rfl, hb6⟩) | (go_at_call 17; with_reducible refine (C3 _ (EqS.bel (by assumption))).mono ?_; rintro e w6 ⟨rfl, hb6⟩) | (go_at_call 18; with_reducible refine (C4 _ (EqS.bel (by assumption))).mono ?_; rintro e w6 ⟨rfl, hb6⟩) | (go_at_call 19; refine (works_op _).mono ?_; rintro e w6 ⟨rfl, hb6⟩))
      have hbf : Below Z.heap.size Z w6 := EqS.bel (by assumption)
      have hb9 := hwZ.trans (hbf.mono hwZ.size)
      clear hS C1 C2 C3 C4
      go_wp2
      go_ret
      exact ⟨rfl, hb9⟩

end Go.Proofs.Ytkjcfkninmmbhaa.Oq
