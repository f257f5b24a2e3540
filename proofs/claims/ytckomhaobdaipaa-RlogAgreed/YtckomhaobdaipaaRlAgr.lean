/- Walks over rlog: Agreed. -/
import Derived.Test.YtckomhaobdaipaaRlFst
import Derived.Test.YtckomhaobdaipaaRlSrt
import Derived.Test.YtckomhaobdaipaaRlSlice
namespace Go.Proofs.Ytckomhaobdaipaa.Rl
open Go.RowKit Go.Joins Gk

attribute [local go_sem] Oper.semAt_some
attribute [local go_sem ↓] min_first min_second max_first max_second

set_option maxRecDepth 100000 in
set_option maxHeartbeats 1000000 in
theorem dwn0_in (l B1 B2 B3 : Nat) (top floor : Int) (W : World) (hB1 : W.cell? ⟨B1, 0, none⟩ = some (.int .i64 top)) (hB2 : W.cell? ⟨B2, 0, none⟩ = some (.int .i64 floor)) (hc : top ≤ floor) (J : List (Nat × En) → World → Prop) (h0 : J [] W) :
    CallsIn Fence.wide 9 Try.prog 43 #[.func (.yield l) #[] #[], ptr B1, ptr B2, ptr B3] W fun e W' => (∃ v, e = .returned v) ∧ J [] W' := by
  refine callsIn_of_wp Try.func43 rfl trivial ?_ rfl
  simp only [Try.ntmps43, List.size_toArray, List.length_cons, List.length_nil, Nat.reduceAdd, Nat.reduceSub, Array.replicate_succ, Array.replicate_zero, List.push_toArray, List.append_toArray, List.nil_append, List.cons_append]
  have i4 : ¬ floor < top := by omega
  gi_wp2
  gi_loopw [5] (fun i wr => i = .int .i64 top ∧ wr = W) (fun _ _ => 0)
  case atStart => exact ⟨rfl, rfl⟩
  case round =>
    obtain ⟨rfl, rfl⟩ := hrel
    gi_wp2
    go_end0
    exact ⟨⟨_, rfl⟩, h0⟩

/-- the entries above a floor, from a number down -/
def dwL (S : Lo) (top floor : Int) : List (Nat × En) := if floor < top then dwn S top.toNat (top - floor).toNat else []
theorem dw_seq (w : World) (Bk B1 B2 B3 bl : Nat) (S : Lo) (v : Value) (top floor : Int) (hS : LH w bl S v) (hbd : S.b + S.es.length ≤ 1048577) (h1l : B1 < w.heap.size) (h2l : B2 < w.heap.size) (h3l : B3 < w.heap.size) (hB1 : w.cell? ⟨B1, 0, none⟩ = some (.int .i64 top)) (hB2 : w.cell? ⟨B2, 0, none⟩ = some (.int .i64 floor)) (hB3 : w.cell? ⟨B3, 0, none⟩ = some (ptr bl)) (hf : (S.b : Int) ≤ floor) (ht : top ≤ (S.last : Int)) :
    SeqP Try.prog 43 #[ptr B1, ptr B2, ptr B3] nenc (Kpt fun k => k < w.heap.size) (dwL S top floor) Bk w := by
  intro l J Jx W hW _ hA _ hY h0
  have k1 := (hW.cell (p := ⟨B1, 0, none⟩) h1l).trans hB1
  have k2 := (hW.cell (p := ⟨B2, 0, none⟩) h2l).trans hB2
  unfold dwL at hY ⊢
  by_cases h : floor < top
  · rw [if_pos h] at hY ⊢
    have e1 : ((top.toNat : Nat) : Int) = top := by omega
    exact dwn1_in l B1 B2 B3 bl S v top.toNat (top - floor).toNat floor W w hW hS hbd h3l h2l (by rw [e1]; exact k1) hB2 hB3 (by omega) (by omega) (by omega) (by omega) J Jx hY hA h0
  · rw [if_neg h]
    refine (dwn0_in l B1 B2 B3 top floor W k1 k2 (by omega) J h0).mono ?_
    rintro e W' ⟨h1, h2⟩
    exact ⟨h1, Or.inl h2⟩

def agr (S : Lo) (ms : List Int) (t commit : Int) : Int :=
  match fo t (dwL S (min (med ms) (S.last : Int)) (max commit (S.b : Int))) with
  | some n => (n : Int)
  | none => commit

/-- what is found behind downward -/
theorem found (bl : Nat) (S : Lo) (v : Value) (t top floor : Int) (w : World) (hS : LH w bl S v) (hbd : S.b + S.es.length ≤ 1048577) (hf : (S.b : Int) ≤ floor) (ht : top ≤ (S.last : Int)) :
    Calls Try.prog 22 #[.int .i64 t, .func (.func 43) #[] #[ptr (w.heap.size + 1), ptr (w.heap.size + 1 + 1), ptr w.heap.size]] (((w.alloc (.cells #[ptr bl] 24)).alloc (.cells #[.int .i64 top] 3)).alloc (.cells #[.int .i64 floor] 3))
      fun e w' => e = .returned (.tuple #[.int .i64 (((fo t (dwL S top floor)).getD 0 : Nat) : Int), .bool (fo t (dwL S top floor)).isSome]) ∧ Below w.heap.size w w' := by
  obtain ⟨W, hW⟩ : ∃ W, ((w.alloc (.cells #[ptr bl] 24)).alloc (.cells #[.int .i64 top] 3)).alloc (.cells #[.int .i64 floor] 3) = W := ⟨_, rfl⟩
  have hsz : W.heap.size = w.heap.size + 3 := by rw [← hW]; simp
  have b0 : Boxed W w.heap.size 24 (ptr bl) := by rw [← hW]; exact ((Boxed.new w _ _).alloc _).alloc _
  have b1 : Boxed W (w.heap.size + 1) 3 (.int .i64 top) := by
    rw [← hW]; have := Boxed.new (w.alloc (.cells #[ptr bl] 24)) 3 (.int .i64 top); rw [World.size_alloc] at this; exact this.alloc _
  have b2 : Boxed W (w.heap.size + 1 + 1) 3 (.int .i64 floor) := by
    rw [← hW]; have := Boxed.new ((w.alloc (.cells #[ptr bl] 24)).alloc (.cells #[.int .i64 top] 3)) 3 (.int .i64 floor); rw [World.size_alloc, World.size_alloc] at this; exact this
  have hB : Below w.heap.size w W := by
    rw [← hW]; exact (((Below.refl _ w).alloc (Nat.le_refl _) _).alloc (by simp) _).alloc (by simp; omega) _
  rw [hW]
  have h := first_in t 43 #[ptr (w.heap.size + 1), ptr (w.heap.size + 1 + 1), ptr w.heap.size] (dwL S top floor) (fun k => k < W.heap.size) W (enters_of Try.func43 (by kernel_rfl) rfl) (dw_seq W _ (w.heap.size + 1) (w.heap.size + 1 + 1) w.heap.size bl S v top floor (hS.below hB) hbd (by omega) (by omega) (by omega) b1.cell b2.cell b0.cell hf ht) (fun _ h => h)
  refine (callsIn_wide.1 h).mono ?_
  rintro e w' ⟨rfl, hb⟩
  exact ⟨rfl, hB.trans (hb.mono hB.size)⟩

set_option maxRecDepth 100000 in
set_option maxHeartbeats 4000000 in
theorem Agreed_ok (bl : Nat) (S : Lo) (v : Value) (a : Option Addr) (cap : Nat) (ms : List Int) (hne : ms ≠ []) (hml : ms.length * 8 ≤ 140737488355328) (t commit : Int) (hcm : 0 ≤ commit) (w : World) (h : LH w bl S v) (hbd : S.b + S.es.length ≤ 1048577) (hl : Lies w ienc a ms) :
    Calls Try.prog 9 #[ptr bl, .slice a ms.length cap, .int .i64 t, .int .i64 commit] w fun e w' => e = .returned (.tuple #[.int .i64 (agr S ms t commit), .int .i64 0]) ∧ Below w.heap.size w w' := by
  have HL := hide (Last_any bl S v w h hbd)
  have HH := hide (fun q => hadByMost_any a cap ms hne (w.drewN q) (hl.below (below_drewN (Below.refl _ w) q)) hml)
  obtain ⟨top, htop⟩ : ∃ x, min (med ms) (S.last : Int) = x := ⟨_, rfl⟩
  obtain ⟨fl, hfl⟩ : ∃ x, max commit (S.b : Int) = x := ⟨_, rfl⟩
  have HF := hide (fun W (hW : LH W bl S v) => found bl S v t top fl W hW hbd (by omega) (by omega))
  have HD := hide (fun W => downward_any bl top fl W)
  have HA := hide (show agr S ms t commit = match fo t (dwL S top fl) with | some n => (n : Int) | none => commit by rw [agr, htop, hfl])
  generalize agr S ms t commit = R at *
  have hpos : 0 < ms.length := List.length_pos_iff.2 hne
  have e1 : ((ms.length : Int) == 0) = false := by rw [beq_eq_false_iff_ne]; omega
  have e2 : ¬ commit < 0 := by omega
  have i6 : ms.length ≤ 9223372036854775807 := by omega
  have H := hide h
  have HB := hide (show ∀ q w1, Below (w.drewN q).heap.size (w.drewN q) w1 → Below w.heap.size w w1 from fun q w1 hb => (below_drewN (Below.refl _ w) q).trans hb)
  have HC0 := hide (show ∀ w1, Below w.heap.size w w1 → w1.cell? ⟨bl, 0, none⟩ = some (.int .i64 (S.b : Int)) from fun w1 hb => (h.below hb).c0)
  generalize S.tm S.last = y at *
  generalize hla : (S.last : Int) = la at *
  generalize med ms = md at *
  clear h hl hla
  have hm1 : (md ≤ la ∧ top = md) ∨ (la < md ∧ top = la) := by omega
  have hm2 : (commit ≤ (S.b : Int) ∧ fl = (S.b : Int)) ∨ ((S.b : Int) < commit ∧ fl = commit) := by omega
  clear htop hfl
  cases hfo : fo t (dwL S top fl) with
  | none =>
    rw [hfo] at HF HA
    clear hfo
    rcases hm1 with ⟨g1, rfl⟩ | ⟨g1, rfl⟩ <;> rcases hm2 with ⟨g2, hf2⟩ | ⟨g2, rfl⟩
    all_goals (try (rw [hf2] at HF HD; clear hf2))
    all_goals go_enter Try.func9, Try.ntmps9
    all_goals go_wp2_with (first | (go_at_call 7; refine HL.out.mono ?_; rintro e w1 ⟨rfl, q1, rfl⟩) | (go_at_call 21; refine (HH.out _).mono ?_; rintro e w2 ⟨rfl, hb2⟩; have hb2' := HB.out _ _ hb2; have c0 := HC0.out _ hb2'; clear hb2) | (go_at_call 23; refine (HD.out _).mono ?_; rintro e w3 ⟨rfl, rfl⟩) | (go_at_call 22; refine (HF.out _ (H.out.below hb2')).mono ?_; rintro e w4 ⟨rfl, hb4⟩))
    all_goals go_ret2
    all_goals exact ⟨by rw [HA.out]; rfl, hb2'.trans (hb4.mono hb2'.size)⟩
  | some n =>
    rw [hfo] at HF HA
    clear hfo
    rcases hm1 with ⟨g1, rfl⟩ | ⟨g1, rfl⟩ <;> rcases hm2 with ⟨g2, hf2⟩ | ⟨g2, rfl⟩
    all_goals (try (rw [hf2] at HF HD; clear hf2))
    all_goals go_enter Try.func9, Try.ntmps9
    all_goals go_wp2_with (first | (go_at_call 7; refine HL.out.mono ?_; rintro e w1 ⟨rfl, q1, rfl⟩) | (go_at_call 21; refine (HH.out _).mono ?_; rintro e w2 ⟨rfl, hb2⟩; have hb2' := HB.out _ _ hb2; have c0 := HC0.out _ hb2'; clear hb2) | (go_at_call 23; refine (HD.out _).mono ?_; rintro e w3 ⟨rfl, rfl⟩) | (go_at_call 22; refine (HF.out _ (H.out.below hb2')).mono ?_; rintro e w4 ⟨rfl, hb4⟩))
    all_goals go_ret2
    all_goals exact ⟨by rw [HA.out]; rfl, hb2'.trans (hb4.mono hb2'.size)⟩

end Go.Proofs.Ytckomhaobdaipaa.Rl
