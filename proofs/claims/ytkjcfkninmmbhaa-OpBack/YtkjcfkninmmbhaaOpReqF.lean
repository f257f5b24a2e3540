/- Layer 8: the fields of a request: the walk over requestFields. -/
import Derived.Test.YtkjcfkninmmbhaaOpFld
namespace Go.Proofs.Ytkjcfkninmmbhaa.Oq
open Go.RowKit Go.Joins Go.Proofs.Ytkjcfkninmmbhaa.Gk

/-- a request's box: its three cells, and what lies below -/
abbrev RS (B H : Nat) (w : World) (c s o : Value) (W : World) : Prop :=
  (W.cell? ⟨H, 0, none⟩ = some c ∧ W.cell? ⟨H, 1, none⟩ = some s ∧ W.cell? ⟨H, 2, none⟩ = some o) ∧ B ≤ H ∧ H < W.heap.size ∧ Below B w W
theorem RS.call {B H : Nat} {w : World} {c s o : Value} {a b : World} (hb : Below a.heap.size a b) (h : RS B H w c s o a) : RS B H w c s o b := by
  obtain ⟨⟨c0, c1, c2⟩, hB, hlt, hbel⟩ := h
  have hc : ∀ j, b.cell? ⟨H, j, none⟩ = a.cell? ⟨H, j, none⟩ := fun j => hb.cell (p := ⟨H, j, none⟩) hlt
  exact ⟨⟨(hc 0).trans c0, (hc 1).trans c1, (hc 2).trans c2⟩, hB, Nat.lt_of_lt_of_le hlt hb.size, hbel.trans (hb.mono (by omega))⟩
theorem RS.drew {B H : Nat} {w : World} {c s o : Value} {a : World} (h : RS B H w c s o a) : RS B H w c s o a.drew := h.call ((Below.refl _ _).drew)
theorem RS.alloc {B H : Nat} {w : World} {c s o : Value} {a : World} (h : RS B H w c s o a) (x : Obj) : RS B H w c s o (a.alloc x) := h.call ((Below.refl _ _).alloc (Nat.le_refl _) x)

set_option maxRecDepth 100000 in
set_option maxHeartbeats 4000000 in
theorem requestFields_op (r : Req) (a : Option Addr) (cap : Nat) (w : World) (hl : Gk.Lies w oenc a r.ops) (hn : r.ops.length ≤ 32) :
    Calls Try.prog 28 #[.agg #[.int .i64 r.client, .int .i64 r.seq, .slice a r.ops.length cap]] w fun e w' => ∃ v, e = .returned v ∧
      w'.ownsRow w.heap.size 77 3 v r.fields.length (fcells r.fields) ∧ Below w.heap.size w w' := by
  obtain ⟨W, hW⟩ : ∃ W, W = w.alloc (.cells #[.int .i64 r.client, .int .i64 r.seq, .slice a r.ops.length cap] 24) := ⟨_, rfl⟩
  have hS : RS w.heap.size w.heap.size w (.int .i64 r.client) (.int .i64 r.seq) (.slice a r.ops.length cap) W := by
    rw [hW]; exact ⟨⟨by simp, by simp, by simp⟩, Nat.le_refl _, by simp, (Below.refl _ _).alloc (Nat.le_refl _) _⟩
  go_enter Try.func28, Try.ntmps28
  go_wp2
  rw [← hW]
  clear hW
  go_region_held3 (RS w.heap.size w.heap.size w (.int .i64 r.client) (.int .i64 r.seq) (.slice a r.ops.length cap)) (first | with_reducible exact RS.drew (by assumption) | with_reducible exact RS.call (by assumption) (by assumption) | with_reducible exact RS.alloc (by assumption) _ | with_reducible assumption)
    (first | (go_at_call 56; refine (number_op _ _).mono ?_; rintro e w3 ⟨rfl, hb3⟩))
  have hR : RS w.heap.size w.heap.size w (.int .i64 r.client) (.int .i64 r.seq) (.slice a r.ops.length cap) (w3.alloc (.cells #[.bool false, .int .i64 r.client, .string ⟨#[]⟩, .bool false, .int .i64 r.seq, .string ⟨#[]⟩, .bool false, .int .i64 r.ops.length, .string ⟨#[]⟩] 77)) := by assumption
  have hz3 : w.heap.size ≤ w3.heap.size := by have := hR.2.2.1; simp at this; omega
  obtain ⟨X, hX⟩ : ∃ X, X = w3.alloc (.cells #[.bool false, .int .i64 r.client, .string ⟨#[]⟩, .bool false, .int .i64 r.seq, .string ⟨#[]⟩, .bool false, .int .i64 r.ops.length, .string ⟨#[]⟩] 77) := ⟨_, rfl⟩
  have hown0 : X.ownsRow w.heap.size 77 3 (.slice (some ⟨w3.heap.size, 0, none⟩) 3 3) 3 (fcells [numF r.client, numF r.seq, numF r.ops.length]) := by
    rw [hX]; exact own_new w3 w.heap.size hz3 [numF r.client, numF r.seq, numF r.ops.length] (by simp)
  rw [← hX] at hR ⊢
  have hbX := hR.2.2.2
  obtain ⟨⟨x0, x1, x2⟩, _⟩ := hR
  have hX' := hide hX
  clear hX hS
  go_wp2
  go_loopw [3, 20] (fun v i wr => ∃ k : Nat, k ≤ r.ops.length ∧ i = .int .i64 k ∧ wr.ownsRow w.heap.size 77 3 v (3 + 6 * k) (fcells ([numF r.client, numF r.seq, numF r.ops.length] ++ (r.ops.take k).flatMap Opn.fields)) ∧ Below w.heap.size w wr) (fun _ i _ => r.ops.length - (intOf i).toNat)
  case atStart => exact ⟨0, by omega, rfl, by simpa using hown0, hbX⟩
  case round =>
    clear hown0 hbX x0 x1 x2 hX'
    obtain ⟨k, hk, rfl, hown, hbel⟩ := hrel
    have hwr := hbel.size
    by_cases hlt : k < r.ops.length
    · obtain ⟨b, off, rfl, _, hc⟩ := (hl.later (fun b _ _ h => hbel.block b h) hwr).at oenc_len k hlt
      have c0 := hc 0 _ rfl
      have c1 := hc 1 _ rfl
      have c2 := hc 2 _ rfl
      have c3 := hc 3 _ rfl
      have c4 := hc 4 _ rfl
      have c5 := hc 5 _ rfl
      rw [Nat.add_zero] at c0
      clear hc
      have HT : Hid ((r.ops.take (k + 1)).flatMap Opn.fields = (r.ops.take k).flatMap Opn.fields ++ Opn.fields r.ops[k]) := by
        show _ = _; rw [List.take_succ_eq_append_getElem hlt, List.flatMap_append]; simp
      generalize r.ops[k] = x at *
      obtain ⟨L, hL⟩ : ∃ L, L = [numF r.client, numF r.seq, numF r.ops.length] ++ (r.ops.take k).flatMap Opn.fields := ⟨_, rfl⟩
      have hLl : L.length = 3 + 6 * k := by rw [hL, List.length_append, ops_len, List.length_take, Nat.min_eq_left hk]; rfl
      have hL' := hide hL
      rw [← hL, ← hLl] at hown
      clear hL
      have hLl' := hide hLl
      have hLb : L.length ≤ 200 := by omega
      clear hLl
      go_wp2
      obtain ⟨W, hW⟩ : ∃ W, W = wr.alloc (.cells #[.int .i64 x.kind, .string x.key, .string x.val, .int .i64 x.stamp, .int .i64 x.test, .int .i64 x.most] 29) := ⟨_, rfl⟩
      have hS : OS w.heap.size wr.heap.size w x u3 L W := by
        rw [hW]
        exact ⟨⟨by simp, by simp, by simp, by simp, by simp, by simp⟩, hwr, ⟨by simp, hown.alloc _, hbel.alloc hwr _, fun e => by have := (hown.lt _ e.symm).2; omega⟩⟩
      rw [← hW]
      clear hW c0 c1 c2 c3 c4 c5 hown hbel
      go_region_held3 (OS w.heap.size wr.heap.size w x u3 L) (first | with_reducible exact OS.drew (by assumption) | with_reducible exact OS.call (by assumption) (by assumption) | with_reducible exact OS.alloc (by assumption) _ | with_reducible exact OS.app (by assumption) (by assumption) (by assumption) | with_reducible assumption)
        (first | (go_at_call 56; refine (number_op _ _).mono ?_; rintro e w3 ⟨rfl, hb3⟩) | (go_at_call 57; refine (text_op _ _).mono ?_; rintro e w3 ⟨rfl, hb3⟩) | (refine step_append_keep (enc := fenc) rfl (.tmp 24) (.tmp 34) 53 rfl 77 _ 32 Try.underlying53 field_info rfl (by decide) fenc_len fenc_one w.heap.size u3 L rfl (OS.row (by assumption)) _ 0 (Opn.f1 x) 3 3 rfl rfl (new_cells _ (rc fenc (Opn.f1 x)) _) (by simp only [Opn.f1, List.length_cons, List.length_nil]; omega) (by simp only [Opn.f1, List.length_cons, List.length_nil]; omega) (OS.room (by assumption)) ?_; intro ad4 cap4 w4 hown4 hg4 hk4 hat4; have hne4 := OS.apart (by assumption) hat4))
      have hf : OS w.heap.size wr.heap.size w x u3 L w4 := by assumption
      have hf2 : OS w.heap.size wr.heap.size w x (.slice ad4 (L.length + x.f1.length) cap4) (L ++ x.f1) w4 := ⟨hf.1, hf.2.1, hf.2.2.lt, hown4, hf.2.2.bel, hne4⟩
      obtain ⟨v4, hv4⟩ : ∃ v4, v4 = Value.slice ad4 (L.length + x.f1.length) cap4 := ⟨_, rfl⟩
      rw [← hv4] at hf2
      clear hf hown4 hg4 hk4 hat4 hne4
      go_wp2
      rw [← hv4]
      clear hv4
      go_region_held3 (OS w.heap.size wr.heap.size w x v4 (L ++ x.f1)) (first | with_reducible exact OS.drew (by assumption) | with_reducible exact OS.call (by assumption) (by assumption) | with_reducible exact OS.alloc (by assumption) _ | with_reducible exact OS.app (by assumption) (by assumption) (by assumption) | with_reducible assumption)
        (first | (go_at_call 56; refine (number_op _ _).mono ?_; rintro e w3 ⟨rfl, hb3⟩) | (go_at_call 57; refine (text_op _ _).mono ?_; rintro e w3 ⟨rfl, hb3⟩) | (refine step_append_keep (enc := fenc) rfl (.tmp 36) (.tmp 46) 53 rfl 77 _ 32 Try.underlying53 field_info rfl (by decide) fenc_len fenc_one w.heap.size v4 (L ++ x.f1) rfl (OS.row (by assumption)) _ 0 (Opn.f2 x) 3 3 rfl rfl (new_cells _ (rc fenc (Opn.f2 x)) _) (by rw [List.length_append]; show (_ + 3 + 3) * 32 ≤ _; omega) (by rw [List.length_append]; show _ + 3 + 3 ≤ _; omega) (OS.room (by assumption)) ?_; intro ad5 cap5 w5 hown5 hg5 hk5 hat5; have hne5 := OS.apart (by assumption) hat5))
      have hf : OS w.heap.size wr.heap.size w x v4 (L ++ x.f1) w5 := by assumption
      have hbel4 := hf.2.2.bel
      have hown6 : w5.ownsRow w.heap.size 77 3 (.slice ad5 ((L ++ x.f1).length + x.f2.length) cap5) (3 + 6 * (k + 1)) (fcells ([numF r.client, numF r.seq, numF r.ops.length] ++ (r.ops.take (k + 1)).flatMap Opn.fields)) := by
        rw [HT.out, ← List.append_assoc, ← hL'.out, fcells_rc]
        have : (L ++ x.f1 ++ x.f2).length = 3 + 6 * (k + 1) := by rw [List.length_append, List.length_append, hLl'.out]; simp [Opn.f1, Opn.f2]; omega
        rw [← this, show L ++ x.fields = L ++ x.f1 ++ x.f2 by rw [List.append_assoc]; rfl]
        exact hown5
      have hown5' := hown6
      rw [show (L ++ x.f1).length = L.length + x.f1.length from List.length_append] at hown5'
      clear hf hown5 hg5 hk5 hat5 hb3 hne5
      go_wp2
      go_roundw
      case rel => exact ⟨k + 1, by omega, by go_num, hown5', hbel4⟩
      case measure => simp [intOf]; omega
    · have hkl : k = r.ops.length := by omega
      subst hkl
      go_wp2
      go_ret
      refine ⟨_, rfl, ?_, hbel⟩
      rw [Req.fields_len, Req.fields]
      rw [List.take_length] at hown
      exact hown

end Go.Proofs.Ytkjcfkninmmbhaa.Oq
