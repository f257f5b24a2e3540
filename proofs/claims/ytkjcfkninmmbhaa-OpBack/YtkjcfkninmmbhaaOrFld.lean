/- Layer 8, the document's own answer: the fields of a request. -/
import Derived.Test.YtkjcfkninmmbhaaOpReqF
namespace Go.Proofs.Ytkjcfkninmmbhaa.Oq
open Go.RowKit Go.Joins Go.Proofs.Ytkjcfkninmmbhaa.Gk

set_option maxRecDepth 100000 in
set_option maxHeartbeats 400000 in
theorem num_ref (n : Int) (w : World) :
    Calls Try.prog 60 #[.int .i64 n] w fun e w' => e = .returned (.agg #[.bool false, .int .i64 n, .string ⟨#[]⟩]) ∧ Below w.heap.size w w' := by
  go_enter Try.func60, Try.ntmps60
  go_wp2
  exact bodyPost_ret (v := .agg #[.bool false, .int .i64 n, .string ⟨#[]⟩]) (by simp [results, Try.results60, go_sem]) rfl ⟨rfl, (Below.refl _ _).alloc (Nat.le_refl _) _⟩

set_option maxRecDepth 100000 in
set_option maxHeartbeats 400000 in
theorem text_ref (s : ByteArray) (w : World) :
    Calls Try.prog 61 #[.string s] w fun e w' => e = .returned (.agg #[.bool true, .int .i64 0, .string s]) ∧ Below w.heap.size w w' := by
  go_enter Try.func61, Try.ntmps61
  go_wp2
  exact bodyPost_ret (v := .agg #[.bool true, .int .i64 0, .string s]) (by simp [results, Try.results61, go_sem]) rfl ⟨rfl, (Below.refl _ _).alloc (Nat.le_refl _) _⟩

set_option maxRecDepth 100000 in
set_option maxHeartbeats 4000000 in
theorem Fields_ref (r : Req) (a : Option Addr) (cap : Nat) (w : World) (hl : Gk.Lies w oenc a r.ops) (hn : r.ops.length ≤ 32) :
    Calls Try.prog 31 #[.agg #[.int .i64 r.client, .int .i64 r.seq, .slice a r.ops.length cap]] w fun e w' => ∃ v, e = .returned v ∧
      w'.ownsRow w.heap.size 77 3 v r.fields.length (fcells r.fields) ∧ Below w.heap.size w w' := by
  obtain ⟨W, hW⟩ : ∃ W, W = w.alloc (.cells #[.int .i64 r.client, .int .i64 r.seq, .slice a r.ops.length cap] 24) := ⟨_, rfl⟩
  have hS : RS w.heap.size w.heap.size w (.int .i64 r.client) (.int .i64 r.seq) (.slice a r.ops.length cap) W := by
    rw [hW]; exact ⟨⟨by simp, by simp, by simp⟩, Nat.le_refl _, by simp, (Below.refl _ _).alloc (Nat.le_refl _) _⟩
  go_enter Try.func31, Try.ntmps31
  go_wp2
  rw [← hW]
  clear hW
  go_region_held3 (RS w.heap.size w.heap.size w (.int .i64 r.client) (.int .i64 r.seq) (.slice a r.ops.length cap)) (first | with_reducible exact RS.drew (by assumption) | with_reducible exact RS.call (by assumption) (by assumption) | with_reducible exact RS.alloc (by assumption) _ | with_reducible assumption)
    (first | (go_at_call 60; refine (num_ref _ _).mono ?_; rintro e w3 ⟨rfl, hb3⟩))
  have hR : RS w.heap.size w.heap.size w (.int .i64 r.client) (.int .i64 r.seq) (.slice a r.ops.length cap) (w3.alloc (.cells #[.bool false, .int .i64 r.client, .string ⟨#[]⟩, .bool false, .int .i64 r.seq, .string ⟨#[]⟩, .bool false, .int .i64 r.ops.length, .string ⟨#[]⟩] 77)) := by assumption
  have hz3 : w.heap.size + 1 ≤ w3.heap.size := by
    rcases Nat.lt_or_ge w.heap.size w3.heap.size with h | h
    · exact h
    · have h2 := hR.2.2.1
      simp at h2
      have e : w.heap.size = w3.heap.size := by omega
      have := hR.1.1
      rw [e] at this
      simp at this
  obtain ⟨X, hX⟩ : ∃ X, X = w3.alloc (.cells #[.bool false, .int .i64 r.client, .string ⟨#[]⟩, .bool false, .int .i64 r.seq, .string ⟨#[]⟩, .bool false, .int .i64 r.ops.length, .string ⟨#[]⟩] 77) := ⟨_, rfl⟩
  have hown0 : X.ownsRow (w.heap.size + 1) 77 3 (.slice (some ⟨w3.heap.size, 0, none⟩) 3 3) 3 (fcells [numF r.client, numF r.seq, numF r.ops.length]) := by
    rw [hX]; exact own_new w3 (w.heap.size + 1) hz3 [numF r.client, numF r.seq, numF r.ops.length] (by simp)
  rw [← hX] at hR ⊢
  have hbX := hR.2.2.2
  obtain ⟨⟨x0, x1, x2⟩, _, hxl, _⟩ := hR
  have hX' := hide hX
  have x2' := hide x2
  have hbX' := hide hbX
  have hzX : w.heap.size + 1 ≤ X.heap.size := by rw [hX]; simp; omega
  clear hX hS
  go_wp2
  go_loopw [3, 4] (fun v i wr => ∃ k : Nat, k ≤ r.ops.length ∧ i = .int .i64 k ∧ wr.ownsRow (w.heap.size + 1) 77 3 v (3 + 6 * k) (fcells ([numF r.client, numF r.seq, numF r.ops.length] ++ (r.ops.take k).flatMap Opn.fields)) ∧ Below (w.heap.size + 1) X wr) (fun _ i _ => r.ops.length - (intOf i).toNat)
  case atStart => exact ⟨0, by omega, rfl, by simpa using hown0, Below.refl _ _⟩
  case round =>
    clear hown0 hbX x0 x1 x2 hX'
    obtain ⟨k, hk, rfl, hown, hbelX⟩ := hrel
    have hwr : w.heap.size + 1 ≤ wr.heap.size := by have := hbelX.size; omega
    have hbel : Below w.heap.size w wr := hbX'.out.trans (hbelX.mono (by omega))
    have hq2 : wr.cell? ⟨w.heap.size, 2, none⟩ = some (.slice a r.ops.length cap) := (hbelX.cell (p := ⟨w.heap.size, 2, none⟩) (Nat.lt_succ_self _)).trans x2'.out
    by_cases hlt : k < r.ops.length
    · obtain ⟨b, off, rfl, _, hc⟩ := (hl.later (fun b _ _ h => hbel.block b h) (by omega)).at oenc_len k hlt
      have c0 := hc 0 _ rfl
      have c1 := hc 1 _ rfl
      have c2 := hc 2 _ rfl
      have c3 := hc 3 _ rfl
      have c4 := hc 4 _ rfl
      have c5 := hc 5 _ rfl
      rw [Nat.add_zero] at c0
      clear hc
      have HT : Hid ((r.ops.take (k + 1)).flatMap Opn.fields = (r.ops.take k).flatMap Opn.fields ++ Opn.fields r.ops[k]) := by
        show _ = _; rw [List.take_succ_eq_append_getElem hlt, List.flatMap_append]; simp
      generalize r.ops[k] = x at *
      obtain ⟨L, hL⟩ : ∃ L, L = [numF r.client, numF r.seq, numF r.ops.length] ++ (r.ops.take k).flatMap Opn.fields := ⟨_, rfl⟩
      have hLl : L.length = 3 + 6 * k := by rw [hL, List.length_append, ops_len, List.length_take, Nat.min_eq_left hk]; rfl
      have hL' := hide hL
      rw [← hL, ← hLl] at hown
      clear hL
      have hLl' := hide hLl
      have hLb : L.length ≤ 200 := by omega
      clear hLl
      go_wp2
      obtain ⟨W, hW⟩ : ∃ W, W = wr.alloc (.cells #[.int .i64 x.kind, .string x.key, .string x.val, .int .i64 x.stamp, .int .i64 x.test, .int .i64 x.most] 29) := ⟨_, rfl⟩
      have hS : OS (w.heap.size + 1) wr.heap.size X x u3 L W := by
        rw [hW]
        exact ⟨⟨by simp, by simp, by simp, by simp, by simp, by simp⟩, hwr, ⟨by simp, hown.alloc _, hbelX.alloc hwr _, fun e => by have := (hown.lt _ e.symm).2; omega⟩⟩
      rw [← hW]
      clear hW c0 c1 c2 c3 c4 c5 hown hbel hbelX hq2
      go_region_held3 (OS (w.heap.size + 1) wr.heap.size X x u3 L) (first | with_reducible exact OS.drew (by assumption) | with_reducible exact OS.call (by assumption) (by assumption) | with_reducible exact OS.alloc (by assumption) _ | with_reducible exact OS.app (by assumption) (by assumption) (by assumption) | with_reducible assumption)
        (first | (go_at_call 60; refine (num_ref _ _).mono ?_; rintro e w3 ⟨rfl, hb3⟩) | (go_at_call 61; refine (text_ref _ _).mono ?_; rintro e w3 ⟨rfl, hb3⟩) | (refine step_append_keep (enc := fenc) rfl (.tmp 29) (.tmp 48) 53 rfl 77 _ 32 Try.underlying53 field_info rfl (by decide) fenc_len fenc_one (w.heap.size + 1) u3 L rfl (OS.row (by assumption)) _ 0 (Opn.fields x) 6 6 rfl rfl (new_cells _ (rc fenc (Opn.fields x)) _) (by simp only [Opn.fields, List.length_cons, List.length_nil]; omega) (by simp only [Opn.fields, List.length_cons, List.length_nil]; omega) (OS.room (by assumption)) ?_; intro ad4 cap4 w4 hown4 hg4 hk4 hat4))
      have hf : OS (w.heap.size + 1) wr.heap.size X x u3 L w4 := by assumption
      have hbel4 := hf.2.2.bel
      have hown5 : w4.ownsRow (w.heap.size + 1) 77 3 (.slice ad4 (L.length + x.fields.length) cap4) (3 + 6 * (k + 1)) (fcells ([numF r.client, numF r.seq, numF r.ops.length] ++ (r.ops.take (k + 1)).flatMap Opn.fields)) := by
        rw [HT.out, ← List.append_assoc, ← hL'.out, fcells_rc]
        have : (L ++ x.fields).length = 3 + 6 * (k + 1) := by rw [List.length_append, hLl'.out]; simp [Opn.fields]; omega
        rw [← this]
        exact hown4
      clear hf hown4 hg4 hk4 hat4 hb3
      go_wp2
      go_roundw
      case rel => exact ⟨k + 1, by omega, by go_num, hown5, hbel4⟩
      case measure => simp [intOf]; omega
    · have hkl : k = r.ops.length := by omega
      subst hkl
      go_wp2
      go_ret
      refine ⟨_, rfl, ?_, hbel⟩
      rw [Req.fields_len, Req.fields]
      rw [List.take_length] at hown
      exact Gk.own_mono hown (Nat.le_succ _)

end Go.Proofs.Ytkjcfkninmmbhaa.Oq
