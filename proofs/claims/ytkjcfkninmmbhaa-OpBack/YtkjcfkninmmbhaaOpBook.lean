/- Layer 8: the book over operations: SameOps of a list and itself, LendOps, KeptOps; names; sameRequest. -/
import Derived.Test.YtkjcfkninmmbhaaOpSts
import Derived.Test.YtkjcfkninmmbhaaGQuiet
namespace Go.Proofs.Ytkjcfkninmmbhaa.Oq
open Go.RowKit Go.Joins Go.Proofs.Ytkjcfkninmmbhaa.Gk

set_option maxRecDepth 100000 in
set_option maxHeartbeats 1600000 in
theorem sameOps_any (a a' : Option Addr) (cap cap' : Nat) (l : List Opn) (w : World) (hl : Gk.Lies w oenc a l) (hl' : Gk.Lies w oenc a' l) (hn : l.length ≤ 9223372036854775807) :
    Calls Try.prog 40 #[.slice a l.length cap, .slice a' l.length cap'] w fun e w' => e = .returned (.bool true) ∧ Below w.heap.size w w' := by
  have bn : ((l.length : Int) != (l.length : Int)) = false := by simp
  go_enter Try.func40, Try.ntmps40
  go_wp2
  go_loopw [5] (fun i wr => ∃ k : Nat, k ≤ l.length ∧ i = .int .i64 k ∧ Below w.heap.size w wr) (fun i _ => l.length - (intOf i).toNat)
  case atStart => exact ⟨0, by omega, rfl, Below.refl _ _⟩
  case round =>
    obtain ⟨k, hk, rfl, hbel⟩ := hrel
    by_cases hlt : k < l.length
    · obtain ⟨b, off, rfl, _, hc⟩ := (hl.below hbel).at (k := 6) oenc_len k hlt
      obtain ⟨b', off', rfl, _, hd⟩ := (hl'.below hbel).at (k := 6) oenc_len k hlt
      have c0 := hc 0 _ rfl
      have c1 := hc 1 _ rfl
      have c2 := hc 2 _ rfl
      have c3 := hc 3 _ rfl
      have c4 := hc 4 _ rfl
      have c5 := hc 5 _ rfl
      have d0 := hd 0 _ rfl
      have d1 := hd 1 _ rfl
      have d2 := hd 2 _ rfl
      have d3 := hd 3 _ rfl
      have d4 := hd 4 _ rfl
      have d5 := hd 5 _ rfl
      rw [Nat.add_zero] at c0 d0
      clear hc hd
      generalize l[k] = x at *
      have i1 : (0 : Int) ≤ (k : Int) := by omega
      have i2 : (k : Int) < (l.length : Int) := by omega
      go_wp2
      go_quiet (fail)
      go_wp2
      go_roundw
      case rel => exact ⟨k + 1, by omega, by go_num, below_drewN hbel nq⟩
      case measure => simp [intOf]; omega
    · go_wp2
      go_ret
      exact ⟨rfl, hbel⟩

theorem below_a1 (w : World) (o : Obj) : Below w.heap.size w (w.alloc o) := (Below.refl _ _).alloc (Nat.le_refl _) _
theorem ownO_made (w : World) : (w.alloc (.cells #[] 29)).ownsRow w.heap.size 29 6 (.slice (some ⟨w.heap.size, 0, none⟩) 0 0) 0 (rc oenc []) :=
  ⟨rfl, .inr ⟨w.heap.size, 0, #[], rfl, Nat.le_refl _, heap_alloc_new w _, Nat.le_refl _, by unfold maxLen; omega, rfl, rfl⟩⟩
def markO : Opn := ⟨-77, ⟨#[]⟩, ⟨#[]⟩, 0, 0, 0⟩
theorem own_roomO {w : World} {B e size n cap : Nat} {a : Option Addr} {l : List Value} (h : w.ownsRow B e size (.slice a n cap) n l) : n ≤ cap := by
  rcases h.2 with ⟨e1, rfl⟩ | ⟨g, cap', cur, e1, _, _, hnc, _⟩
  · exact Nat.zero_le _
  · cases e1; exact hnc
theorem own_cellO {w : World} {B e size n cap g : Nat} {l : List Value} (h : w.ownsRow B e size (.slice (some ⟨g, 0, none⟩) n cap) n l) (i : Nat) (u : Value) (hi : l[i]? = some u) : w.cell? ⟨g, i, none⟩ = some u := by
  have := h.cells (g := g) rfl i u hi
  rwa [Go.WideShapes.add_plain, Nat.zero_add] at this

set_option maxRecDepth 100000 in
set_option maxHeartbeats 3200000 in
theorem lendOps_any (a : Option Addr) (cap : Nat) (l : List Opn) (w : World) (hl : Gk.Lies w oenc a l) (hnil : a = none → cap = 0) (hn : l.length * 64 ≤ 140737488351232) :
    Calls Try.prog 5 #[.slice a l.length cap] w fun e w' => ∃ g c, e = .returned (.slice (some ⟨g, 0, none⟩) l.length c) ∧ w'.ownsRow w.heap.size 29 6 (.slice (some ⟨g, 0, none⟩) (l.length + 1) c) (l.length + 1) (rc oenc (l ++ [markO])) ∧ Below w.heap.size w w' := by
  have hb0 := below_a1 w (.cells #[] 29)
  go_enter Try.func5, Try.ntmps5
  go_wp2_with (first
    | (at_builtin; refine wpList_append_row (enc := oenc) (k := 6) rfl (.tmp 4) (.tmp 5) 22 rfl 29 _ 64 Try.underlying22 op_info rfl (by decide) oenc_len oenc_one w.heap.size _ [] rfl (ownO_made w) a l l.length cap rfl rfl (hl.below hb0) hnil (by simp; omega) (by simp; omega) (by simp) ?_; intro v2 w2 ho2 hg2 hat2; obtain ⟨a2, d2, rfl⟩ := Gk.own_slice ho2; have HO2 := hide ho2; have hB2 := hide ((hb0).grown hg2 (by simp) (fun k hk => by cases hk; exact Nat.le_refl _)); simp only [List.nil_append] at HO2; clear ho2 hg2 hat2)
    | (at_builtin; have hz := hB2.out.size; refine wpList_push (enc := oenc) (k := 6) rfl (.tmp 7) (.tmp 9) 22 rfl 29 _ 64 Try.underlying22 op_info rfl (by decide) oenc_len oenc_one w.heap.size _ l rfl (Gk.own_below HO2.out (below_a1 w2 _)) w2.heap.size markO rfl (heap_alloc_new w2 _) (by omega) (by omega) (by simp; omega) ?_; intro v3 w3 ho3 hg3 hat3; obtain ⟨g3, d3, cur3, ev3, -, h31, -, -, -⟩ := own_form ho3 (by simp); subst ev3; have HO3 := hide ho3; have hB3 := hide ((hB2.out.alloc hz _).grown hg3 (by simp; omega) (fun k hk => (HO2.out.lt k hk).1)); simp only [List.length_append, List.length_cons, List.length_nil, Nat.zero_add] at HO3 h31; have h32 : (l.length : Int) ≤ (d3 : Int) := (by omega); have h33 : (0 : Int) ≤ (l.length : Int) := (by omega); clear ho3 hg3 hat3))
  go_ret
  exact ⟨g3, d3, rfl, HO3.out, hB3.out⟩

theorem lentO_lies {w : World} {B g n c : Nat} {l : List Opn} {m : Opn} (h : w.ownsRow B 29 6 (.slice (some ⟨g, 0, none⟩) n c) n (rc oenc (l ++ [m]))) (hn : n = l.length + 1) : Gk.Lies w oenc (some ⟨g, 0, none⟩) l := by
  have h1 : Gk.Lies w oenc (some ⟨g, 0, none⟩) (l ++ [m]) := by
    have : Gk.Row w oenc 29 6 (.slice (some ⟨g, 0, none⟩) n c) (l ++ [m]) := by
      show w.ownsRow 0 29 6 _ (l ++ [m]).length _
      rw [List.length_append, show l.length + [m].length = n by simp [hn]]
      exact Gk.own_mono h (Nat.zero_le _)
    exact this.lies
  rcases h1 with h1 | ⟨b', off', e, hlt, hl⟩
  · simp at h1
  · cases e
    exact Or.inr ⟨g, 0, rfl, hlt, fun j u hj => hl j u (by rw [rc_append, List.getElem?_append_left (List.getElem?_eq_some_iff.1 hj).1]; exact hj)⟩

set_option maxRecDepth 100000 in
set_option maxHeartbeats 3200000 in
theorem keptOps_any (g c : Nat) (a : Option Addr) (cap : Nat) (l : List Opn) (w : World) {B : Nat} (ho : w.ownsRow B 29 6 (.slice (some ⟨g, 0, none⟩) (l.length + 1) c) (l.length + 1) (rc oenc (l ++ [markO]))) (hl : Gk.Lies w oenc a l) (hn : l.length ≤ 4611686018427387903) :
    Calls Try.prog 18 #[.slice (some ⟨g, 0, none⟩) l.length c, .slice a l.length cap] w fun e w' => e = .returned (.bool true) ∧ Below w.heap.size w w' := by
  have hS := sameOps_any (some ⟨g, 0, none⟩) a c cap l w (lentO_lies ho rfl) hl (by omega)
  have hroom := own_roomO ho
  have hw1 : IntKind.i64.wrap ((l.length : Int) + 1) = (l.length : Int) + 1 := by rw [IntKind.wrap_i64]; omega
  have hw2 : (l.length : Int) + 1 ≤ (c : Int) := by omega
  have hw3 : (0 : Int) ≤ (l.length : Int) + 1 := by omega
  have hw4 : (0 : Int) ≤ (l.length : Int) := by omega
  have hw5 : (l.length : Int) < (l.length : Int) + 1 := by omega
  have hw6 : ((l.length : Int) + 1).toNat = l.length + 1 := by omega
  have HO := hide ho
  clear ho hl
  go_enter Try.func18, Try.ntmps18
  go_wp2_with fail
  refine hS.mono ?_
  rintro e w1 ⟨rfl, hb1⟩
  have c0 := own_cellO (Gk.own_below HO.out hb1) (l.length * 6) (.int .i64 (-77)) (by have := rc_at oenc_len (l ++ [markO]) l.length (by simp) 0 (by omega); rw [Nat.add_zero] at this; rw [this]; simp [oenc, markO])
  clear hS HO
  go_wp2
  go_ret
  exact ⟨rfl, hb1⟩

set_option maxRecDepth 100000 in
set_option maxHeartbeats 400000 in
theorem names_any (w : World) : Calls Try.prog 14 #[] w fun e w' => e = .returned (.bool true) ∧ w' = w := by
  go_enter Try.func14, Try.ntmps14
  go_wp2
  go_ret
  exact ⟨rfl, rfl⟩

set_option maxRecDepth 100000 in
set_option maxHeartbeats 1600000 in
theorem sameRequest_any (r : Req) (a a' : Option Addr) (cap cap' : Nat) (w : World) (hl : Gk.Lies w oenc a r.ops) (hl' : Gk.Lies w oenc a' r.ops) (hn : r.ops.length ≤ 9223372036854775807) :
    Calls Try.prog 17 #[r.v a cap, r.v a' cap'] w fun e w' => e = .returned (.bool true) ∧ Below w.heap.size w w' := by
  have b1 : (r.client == r.client) = true := by simp
  have b2 : (r.seq == r.seq) = true := by simp
  have hb : ∀ o o', Below w.heap.size w ((w.alloc o).alloc o') := fun o o' => (below_a1 w o).alloc (by simp) _
  go_enter Try.func17, Try.ntmps17
  go_wp2_with fail
  refine (sameOps_any a a' cap cap' r.ops _ (hl.below (hb _ _)) (hl'.below (hb _ _)) hn).mono ?_
  rintro e w1 ⟨rfl, hb1⟩
  have hb2 := (hb _ _).trans (hb1.mono (by simp; omega))
  go_wp2
  go_ret
  exact ⟨rfl, hb2⟩

end Go.Proofs.Ytkjcfkninmmbhaa.Oq
