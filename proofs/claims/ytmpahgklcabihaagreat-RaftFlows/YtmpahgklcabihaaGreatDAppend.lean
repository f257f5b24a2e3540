/- The walk over disk.go: Append. -/
import Derived.Test.YtmpahgklcabihaaGreatDTwo
namespace Go.Proofs.YtmpahgklcabihaaGreat.Dk
open Go.RowKit Go.Maps Go.Joins

theorem used_strip (l : List (Bs × Ent)) : used (l.map fun p => (p.1, p.2.2)) = sumL (fun x => x.2.data.length) l := by simp [used, sumL, Function.comp_def]
theorem named_size {s : ByteArray} (h : named s.data.toList = true) : s.size ≤ 32 := by
  simp only [named, Bool.and_eq_true, decide_eq_true_eq] at h
  rw [Lib.size_eq]; exact h.1.2

theorem le_sumL {α : Type} (g : α → Nat) : ∀ {l : List (Bs × α)} {p : Bs × α}, p ∈ l → g p.2 ≤ sumL g l
  | q :: r, p, h => by
    simp only [sumL, List.map_cons, List.sum_cons]
    rcases List.mem_cons.1 h with rfl | h
    · omega
    · have := le_sumL g h; simp only [sumL] at this; omega
theorem fileOr_le (k : Bs) (l : Fls) : (fileOr k l).data.length ≤ used l := by
  unfold fileOr
  cases hg : getL k l with
  | none => simp
  | some f =>
    have := getL_some hg
    simp only [Option.getD_some, used]
    exact le_sumL (fun f : Fil => f.data.length) this
theorem wrap_small {x : Int} (h0 : -9223372036854775808 ≤ x) (h1 : x ≤ 9223372036854775807) : IntKind.i64.wrap x = x := by
  simp [IntKind.wrap, IntKind.bits, IntKind.signed]
  omega

theorem lenRun {w : World} {bm n : Nat} {l : List (Bs × Ent)} (h : w.ownsMap Tryz.prog 9 RV bm n (DD l)) : (Builtin.len_ #[MapT] 3 #[.map (some bm)]).run Tryz.prog w = .ok (.int .i64 l.length) w := by
  have := h.len Tryz.underlying70 3
  rw [DD_size] at this
  exact this

/-- an operation of a region is taken first; where its value goes is told -/
theorem take_at {P : Program} {ops : Array Oper} {Q : Exit → Act → World → Prop} {md : Region.Mode} {S : World → Prop} {i : Nat} {oi : Oper} {dst : Option Tmp} {v : Value} {fuel : Nat} {listed : Array Bool} {a : Act} {w : World} (hi : ops[i]? = some oi) (hd0 : (ops[i]?).bind Oper.dst = dst)
    (hs : Region.noSelect ops = true) (hf : Region.free md ops listed i = true) (hr : (Region.ready md ops listed).contains i = true)
    (hQ : ∀ c a w, Q (.panic c) (a.put dst v) w → Q (.panic c) a w) (hy : YieldsIf P ops S oi v a) (hS : S w)
    (h : wpAnyH P md ops Q S fuel (listed.setIfInBounds i true) (a.put dst v) w) : wpAnyH P md ops Q S (fuel + 1) listed a w := by
  have hd : oi.dst = dst := by rw [hi] at hd0; exact hd0
  subst hd
  exact wpAnyH_take hi hs hf hr hQ hy hS h
abbrev AL (bd bm room m : Nat) (W : World) : Prop := W.cell? ⟨bd, 0, none⟩ = some (.int .i64 room) ∧ W.cell? ⟨bd, 1, none⟩ = some (.map (some bm)) ∧ (Builtin.len_ #[MapT] 3 #[.map (some bm)]).run Tryz.prog W = .ok (.int .i64 m) W

set_option maxHeartbeats 9600000 in
set_option maxRecDepth 100000 in
theorem append_any {own : Nat → Prop} {bd : Nat} {S : St} (w : World) (h : Held w own bd S) (hfr : Fresh own w) (s d : ByteArray) (hs : s.size ≤ 140737488351232) (_ : d.size ≤ 140737488351232) :
    Calls Tryz.prog 203 #[.pointer (some ⟨bd, 0, none⟩), .string s, .string d] w fun e w' => e = .returned (.int .i64 (S.append s.data.toList d.data.toList).1) ∧ Held w' own bd (S.append s.data.toList d.data.toList).2 ∧ Only own w w' := by
  have hN := fun W => name_any s W hs
  cases hnm : named s.data.toList
  · rw [hnm] at hN
    have hv : S.append s.data.toList d.data.toList = (20, S) := by simp [St.append, hnm]
    rw [hv]
    go_enter Tryz.func203, Tryz.ntmps203
    go_wp2_with fail
    refine (hN _).mono ?_
    rintro e w1 ⟨rfl, hb1⟩
    clear hN
    go_wp2
    go_ret
    exact ⟨rfl, h.below hb1, Only.of_below hb1⟩
  · rw [hnm] at hN
    have hns := named_size hnm
    obtain ⟨bm, l, hL, hfl, hok⟩ := h
    have hsum : sumL (fun x => x.2.data.length) l ≤ S.room := by rw [← used_strip, ← hfl]; exact hok.sum
    have hus : used S.files = sumL (fun x => x.2.data.length) l := by rw [hfl, used_strip]
    have hroom := hok.room
    have hmany : l.length ≤ 64 := by have := hok.many; rw [hfl, List.length_map] at this; exact this
    have hlen : S.files.length = l.length := by rw [hfl, List.length_map]
    have hgn : (getL s.data.toList S.files = none) ↔ (getL s.data.toList l).isSome = false := by
      rw [hfl, getL_map (fun x : Ent => x.2)]; cases getL s.data.toList l <;> simp
    have hdl : d.data.toList.length = d.size := (Lib.size_eq d).symm
    obtain ⟨R, hR⟩ : ∃ R, R = S.append s.data.toList d.data.toList := ⟨_, rfl⟩
    rw [← hR]
    have HR := hide hR
    clear hR
    go_enter Tryz.func203, Tryz.ntmps203
    go_wp2_with fail
    refine (hN _).mono ?_
    rintro e w1 ⟨rfl, hb1⟩
    have h1 := hL.below hb1
    clear hN
    have c1 := h1.base.c1
    have hown := h1.base.map
    obtain ⟨ad, cap, f, hfa, hff, hrow, hap, hcz, hcl, hcm⟩ := h1.at s.data.toList
    have hfq : f.data.length ≤ sumL (fun x => x.2.data.length) l := by rw [hff, ← used_strip]; exact fileOr_le _ _
    have HFF := hide hff
    have HFL := hide hfl
    clear hff hfl
    generalize hb : (getL s.data.toList l).isSome = b at *
    go_wp2_with (first | (at_lookup; refine wpList_lookup_file rfl _ _ rfl bm l.length l rfl hown s hs rfl (FV (.slice ad f.data.length cap) f.safe) b hfa hb ?_) | fail)
    obtain ⟨W, hW⟩ : ∃ W, W = w1.alloc (.cells #[.slice ad f.data.length cap, .int .i64 f.safe] 131) := ⟨_, rfl⟩
    rw [← hW]
    have hbW : Below w1.heap.size w1 W := by rw [hW]; exact below_alloc1 _ _
    have hA : W.heap[w1.heap.size]? = some (.cells #[.slice ad f.data.length cap, .int .i64 f.safe] 131 (0, 0)) := by rw [hW]; exact heap_alloc_new w1 _
    clear hW
    have h2 := h1.below hbW
    have hS : AL bd bm S.room l.length W := ⟨h2.base.c0, h2.base.c1, lenRun h2.base.map⟩
    have hU := fun W' (hb' : Below W.heap.size W W') => used_any W' (h2.below hb') (by omega)
    have hLn := fun W' (hb' : Below W.heap.size W W') => lenRun (h2.below hb').base.map
    generalize hq : sumL (fun x : Ent => x.2.data.length) l = q at *
    generalize hm : l.length = m at *
    have hwr : IntKind.i64.wrap ((S.room : Int) - (q : Int)) = (S.room : Int) - (q : Int) := wrap_small (by omega) (by omega)
    refine wp_region_noPanic ?_
    refine wp_region_held_drew (S := AL bd bm S.room m) (by kernel_rfl) ⟨hS.1, hS.2.1, hLn W.drew (Below.refl _ _).drew⟩ (fun hHeld => ?_)
    refine take_at (i := 0) (dst := some 21) (v := ?_) rfl (by kernel_rfl) (by kernel_rfl) (by kernel_rfl) (by kernel_rfl) (fun _ _ _ h => h) (Or.inl ⟨by kernel_rfl, ?_⟩) (by assumption) ?_
    rotate_left
    · intro w hSw; go_simp; try with_reducible rfl
    simp only [Act.put, List.setIfInBounds_toArray, List.set_cons_zero, List.set_cons_succ]
    refine take_at (i := 1) (dst := some 22) (v := ?_) rfl (by kernel_rfl) (by kernel_rfl) (by kernel_rfl) (by kernel_rfl) (fun _ _ _ h => h) (Or.inl ⟨by kernel_rfl, ?_⟩) (by assumption) ?_
    rotate_left
    · intro w hSw; go_simp; try with_reducible rfl
    simp only [Act.put, List.setIfInBounds_toArray, List.set_cons_zero, List.set_cons_succ]
    refine take_at (i := 2) (dst := some 23) (v := ?_) rfl (by kernel_rfl) (by kernel_rfl) (by kernel_rfl) (by kernel_rfl) (fun _ _ _ h => h) (Or.inl ⟨by kernel_rfl, ?_⟩) (by assumption) ?_
    rotate_left
    · intro w hSw; go_simp; try with_reducible rfl
    simp only [Act.put, List.setIfInBounds_toArray, List.set_cons_zero, List.set_cons_succ]
    refine take_at (i := 3) (dst := some 24) (v := ?_) rfl (by kernel_rfl) (by kernel_rfl) (by kernel_rfl) (by kernel_rfl) (fun _ _ _ h => h) (Or.inl ⟨by kernel_rfl, ?_⟩) (by assumption) ?_
    rotate_left
    · intro w hSw; go_simp; try with_reducible rfl
    simp only [Act.put, List.setIfInBounds_toArray, List.set_cons_zero, List.set_cons_succ]
    refine take_at (i := 4) (dst := some 25) (v := ?_) rfl (by kernel_rfl) (by kernel_rfl) (by kernel_rfl) (by kernel_rfl) (fun _ _ _ h => h) (Or.inl ⟨by kernel_rfl, ?_⟩) (by assumption) ?_
    rotate_left
    · intro w hSw; go_simp; try with_reducible rfl
    simp only [Act.put, List.setIfInBounds_toArray, List.set_cons_zero, List.set_cons_succ]
    refine take_at (i := 5) (dst := some 26) (v := ?_) rfl (by kernel_rfl) (by kernel_rfl) (by kernel_rfl) (by kernel_rfl) (fun _ _ _ h => h) (Or.inl ⟨by kernel_rfl, ?_⟩) (by assumption) ?_
    rotate_left
    · intro w hSw; go_simp; try with_reducible rfl
    simp only [Act.put, List.setIfInBounds_toArray, List.set_cons_zero, List.set_cons_succ]
    refine take_at (i := 6) (dst := some 27) (v := ?_) rfl (by kernel_rfl) (by kernel_rfl) (by kernel_rfl) (by kernel_rfl) (fun _ _ _ h => h) (Or.inl ⟨by kernel_rfl, ?_⟩) (by assumption) ?_
    rotate_left
    · intro w hSw; go_simp; try with_reducible rfl
    simp only [Act.put, List.setIfInBounds_toArray, List.set_cons_zero, List.set_cons_succ]
    refine wpAnyH_ready (rs := [7]) (by kernel_rfl) (by simp) ?_
    refine AllReadyH.cons rfl (fun K hK => ?_) AllReadyH.nil
    go_simp
    go_at_call 236
    refine (hU _ (Below.refl _ _).drew).mono ?_
    rintro e w2 ⟨rfl, hb2⟩
    have hW2 := (Below.refl W.heap.size W).drew.trans hb2
    refine hK.out _ _ ⟨(h2.below hW2).base.c0, (h2.below hW2).base.c1, hLn w2 hW2⟩ (fun hHeld2 => ?_)
    clear hK K hHeld hS
    refine take_at (i := 8) (dst := some 29) (v := ?_) rfl (by kernel_rfl) (by kernel_rfl) (by kernel_rfl) (by kernel_rfl) (fun _ _ _ h => h) (Or.inl ⟨by kernel_rfl, ?_⟩) (by assumption) ?_
    rotate_left
    · intro w hSw; go_simp; try with_reducible rfl
    simp only [Act.put, List.setIfInBounds_toArray, List.set_cons_zero, List.set_cons_succ]
    by_cases hsp : (S.room : Int) - (q : Int) < (d.size : Int)
    · have HV := hide (show R = (22, S) by
        rw [HR.out]; unfold St.append; rw [if_neg (by rw [hnm]; simp), if_pos (Or.inl (by omega))])
      clear hgn
      refine take_at (i := 9) (dst := some 30) (v := ?_) rfl (by kernel_rfl) (by kernel_rfl) (by kernel_rfl) (by kernel_rfl) (fun _ _ _ h => h) (Or.inl ⟨by kernel_rfl, ?_⟩) (by assumption) ?_
      rotate_left
      · intro w hSw; go_simp; try with_reducible rfl
      simp only [Act.put, List.setIfInBounds_toArray, List.set_cons_zero, List.set_cons_succ]
      refine take_at (i := 10) (dst := some 31) (v := ?_) rfl (by kernel_rfl) (by kernel_rfl) (by kernel_rfl) (by kernel_rfl) (fun _ _ _ h => h) (Or.inl ⟨by kernel_rfl, ?_⟩) (by assumption) ?_
      rotate_left
      · intro w hSw; go_simp; try with_reducible rfl
      simp only [Act.put, List.setIfInBounds_toArray, List.set_cons_zero, List.set_cons_succ]
      refine take_at (i := 11) (dst := some 32) (v := undef) rfl (by kernel_rfl) (by kernel_rfl) (by kernel_rfl) (by kernel_rfl) (fun _ _ _ h => h) (Or.inr ⟨by kernel_rfl, rfl⟩) (by assumption) ?_
      simp only [Act.put, List.setIfInBounds_toArray, List.set_cons_zero, List.set_cons_succ]
      refine take_at (i := 12) (dst := some 33) (v := undef) rfl (by kernel_rfl) (by kernel_rfl) (by kernel_rfl) (by kernel_rfl) (fun _ _ _ h => h) (Or.inr ⟨by kernel_rfl, rfl⟩) (by assumption) ?_
      simp only [Act.put, List.setIfInBounds_toArray, List.set_cons_zero, List.set_cons_succ]
      refine take_at (i := 13) (dst := some 34) (v := undef) rfl (by kernel_rfl) (by kernel_rfl) (by kernel_rfl) (by kernel_rfl) (fun _ _ _ h => h) (Or.inr ⟨by kernel_rfl, rfl⟩) (by assumption) ?_
      simp only [Act.put, List.setIfInBounds_toArray, List.set_cons_zero, List.set_cons_succ]
      refine take_at (i := 14) (dst := some 35) (v := undef) rfl (by kernel_rfl) (by kernel_rfl) (by kernel_rfl) (by kernel_rfl) (fun _ _ _ h => h) (Or.inr ⟨by kernel_rfl, rfl⟩) (by assumption) ?_
      simp only [Act.put, List.setIfInBounds_toArray, List.set_cons_zero, List.set_cons_succ]
      refine take_at (i := 15) (dst := some 36) (v := undef) rfl (by kernel_rfl) (by kernel_rfl) (by kernel_rfl) (by kernel_rfl) (fun _ _ _ h => h) (Or.inr ⟨by kernel_rfl, rfl⟩) (by assumption) ?_
      simp only [Act.put, List.setIfInBounds_toArray, List.set_cons_zero, List.set_cons_succ]
      refine take_at (i := 16) (dst := some 37) (v := undef) rfl (by kernel_rfl) (by kernel_rfl) (by kernel_rfl) (by kernel_rfl) (fun _ _ _ h => h) (Or.inr ⟨by kernel_rfl, rfl⟩) (by assumption) ?_
      simp only [Act.put, List.setIfInBounds_toArray, List.set_cons_zero, List.set_cons_succ]
      refine take_at (i := 17) (dst := some 38) (v := undef) rfl (by kernel_rfl) (by kernel_rfl) (by kernel_rfl) (by kernel_rfl) (fun _ _ _ h => h) (Or.inr ⟨by kernel_rfl, rfl⟩) (by assumption) ?_
      simp only [Act.put, List.setIfInBounds_toArray, List.set_cons_zero, List.set_cons_succ]
      refine take_at (i := 18) (dst := some 39) (v := undef) rfl (by kernel_rfl) (by kernel_rfl) (by kernel_rfl) (by kernel_rfl) (fun _ _ _ h => h) (Or.inr ⟨by kernel_rfl, rfl⟩) (by assumption) ?_
      simp only [Act.put, List.setIfInBounds_toArray, List.set_cons_zero, List.set_cons_succ]
      refine take_at (i := 19) (dst := some 40) (v := undef) rfl (by kernel_rfl) (by kernel_rfl) (by kernel_rfl) (by kernel_rfl) (fun _ _ _ h => h) (Or.inr ⟨by kernel_rfl, rfl⟩) (by assumption) ?_
      simp only [Act.put, List.setIfInBounds_toArray, List.set_cons_zero, List.set_cons_succ]
      refine take_at (i := 20) (dst := some 41) (v := undef) rfl (by kernel_rfl) (by kernel_rfl) (by kernel_rfl) (by kernel_rfl) (fun _ _ _ h => h) (Or.inr ⟨by kernel_rfl, rfl⟩) (by assumption) ?_
      simp only [Act.put, List.setIfInBounds_toArray, List.set_cons_zero, List.set_cons_succ]
      refine take_at (i := 21) (dst := some 42) (v := ?_) rfl (by kernel_rfl) (by kernel_rfl) (by kernel_rfl) (by kernel_rfl) (fun _ _ _ h => h) (Or.inl ⟨by kernel_rfl, ?_⟩) (by assumption) ?_
      rotate_left
      · intro w hSw; go_simp; try with_reducible rfl
      simp only [Act.put, List.setIfInBounds_toArray, List.set_cons_zero, List.set_cons_succ]
      refine wpAnyH_done (by kernel_rfl) ?_ _
      refine NoPanic.normal ?_
      clear hU hLn
      have hb2' : Below w1.heap.size w1 w2 := hbW.drew.trans (hb2.mono hbW.size)
      have hbx : Below w.heap.size w w2 := hb1.trans (hb2'.mono hb1.size)
      go_wp2
      go_ret
      rw [HV.out]
      exact ⟨rfl, ⟨bm, l, hL.below hbx, HFL.out, hok⟩, Only.of_below hbx⟩
    · have hsp' : (d.size : Int) ≤ (S.room : Int) - (q : Int) := by omega
      have hdec : decide ((S.room : Int) - (q : Int) < (d.size : Int)) = false := by simp; omega
      refine take_at (i := 9) (dst := some 30) (v := ?_) rfl (by kernel_rfl) (by kernel_rfl) (by kernel_rfl) (by kernel_rfl) (fun _ _ _ h => h) (Or.inl ⟨by kernel_rfl, ?_⟩) (by assumption) ?_
      rotate_left
      · intro w hSw; go_simp; try with_reducible rfl
      simp only [Act.put, List.setIfInBounds_toArray, List.set_cons_zero, List.set_cons_succ]
      refine take_at (i := 10) (dst := some 31) (v := ?_) rfl (by kernel_rfl) (by kernel_rfl) (by kernel_rfl) (by kernel_rfl) (fun _ _ _ h => h) (Or.inl ⟨by kernel_rfl, ?_⟩) (by assumption) ?_
      rotate_left
      · intro w hSw; go_simp; try with_reducible rfl
      simp only [Act.put, List.setIfInBounds_toArray, List.set_cons_zero, List.set_cons_succ]
      refine take_at (i := 11) (dst := some 32) (v := ?_) rfl (by kernel_rfl) (by kernel_rfl) (by kernel_rfl) (by kernel_rfl) (fun _ _ _ h => h) (Or.inl ⟨by kernel_rfl, ?_⟩) (by assumption) ?_
      rotate_left
      · intro w hSw; go_simp; try with_reducible rfl
      simp only [Act.put, List.setIfInBounds_toArray, List.set_cons_zero, List.set_cons_succ]
      cases b
      · refine take_at (i := 12) (dst := some 33) (v := ?_) rfl (by kernel_rfl) (by kernel_rfl) (by kernel_rfl) (by kernel_rfl) (fun _ _ _ h => h) (Or.inl ⟨by kernel_rfl, ?_⟩) (by assumption) ?_
        rotate_left
        · intro w hSw; go_simp; try with_reducible rfl
        simp only [Act.put, List.setIfInBounds_toArray, List.set_cons_zero, List.set_cons_succ]
        refine take_at (i := 13) (dst := some 34) (v := ?_) rfl (by kernel_rfl) (by kernel_rfl) (by kernel_rfl) (by kernel_rfl) (fun _ _ _ h => h) (Or.inl ⟨by kernel_rfl, ?_⟩) (by assumption) ?_
        rotate_left
        · intro w hSw; go_simp; try with_reducible rfl
        simp only [Act.put, List.setIfInBounds_toArray, List.set_cons_zero, List.set_cons_succ]
        refine take_at (i := 14) (dst := some 35) (v := ?_) rfl (by kernel_rfl) (by kernel_rfl) (by kernel_rfl) (by kernel_rfl) (fun _ _ _ h => h) (Or.inl ⟨by kernel_rfl, ?_⟩) (by assumption) ?_
        rotate_left
        · intro w hSw; go_simp; try with_reducible rfl
        simp only [Act.put, List.setIfInBounds_toArray, List.set_cons_zero, List.set_cons_succ]
        refine take_at (i := 15) (dst := some 36) (v := ?_) rfl (by kernel_rfl) (by kernel_rfl) (by kernel_rfl) (by kernel_rfl) (fun _ _ _ h => h) (Or.inl ⟨by kernel_rfl, ?_⟩) (by assumption) ?_
        rotate_left
        · intro w hSw; go_simp; try with_reducible rfl
        simp only [Act.put, List.setIfInBounds_toArray, List.set_cons_zero, List.set_cons_succ]
        refine take_at (i := 16) (dst := some 37) (v := ?_) rfl (by kernel_rfl) (by kernel_rfl) (by kernel_rfl) (by kernel_rfl) (fun _ _ _ h => h) (Or.inl ⟨by kernel_rfl, ?_⟩) (by assumption) ?_
        rotate_left
        · intro w hSw; go_simp; try with_reducible rfl
        simp only [Act.put, List.setIfInBounds_toArray, List.set_cons_zero, List.set_cons_succ]
        refine take_at (i := 17) (dst := some 38) (v := ?_) rfl (by kernel_rfl) (by kernel_rfl) (by kernel_rfl) (by kernel_rfl) (fun _ _ _ h => h) (Or.inl ⟨by kernel_rfl, ?_⟩) (by assumption) ?_
        rotate_left
        · intro w hSw; go_simp; try with_reducible rfl
        simp only [Act.put, List.setIfInBounds_toArray, List.set_cons_zero, List.set_cons_succ]
        refine take_at (i := 18) (dst := some 39) (v := ?_) rfl (by kernel_rfl) (by kernel_rfl) (by kernel_rfl) (by kernel_rfl) (fun _ _ _ h => h) (Or.inl ⟨by kernel_rfl, ?_⟩) (by assumption) ?_
        rotate_left
        · intro w hSw; go_simp; try with_reducible rfl
        simp only [Act.put, List.setIfInBounds_toArray, List.set_cons_zero, List.set_cons_succ]
        by_cases hmm : 64 ≤ m
        · have HV := hide (show R = (22, S) by
            rw [HR.out]; unfold St.append; rw [if_neg (by rw [hnm]; simp), if_pos (Or.inr ⟨hgn.2 rfl, by omega⟩)])
          clear hgn
          have hmi : (64 : Int) ≤ (m : Int) := by omega
          refine take_at (i := 19) (dst := some 40) (v := ?_) rfl (by kernel_rfl) (by kernel_rfl) (by kernel_rfl) (by kernel_rfl) (fun _ _ _ h => h) (Or.inl ⟨by kernel_rfl, ?_⟩) (by assumption) ?_
          rotate_left
          · intro w hSw; go_simp; try with_reducible rfl
          simp only [Act.put, List.setIfInBounds_toArray, List.set_cons_zero, List.set_cons_succ]
          refine take_at (i := 20) (dst := some 41) (v := ?_) rfl (by kernel_rfl) (by kernel_rfl) (by kernel_rfl) (by kernel_rfl) (fun _ _ _ h => h) (Or.inl ⟨by kernel_rfl, ?_⟩) (by assumption) ?_
          rotate_left
          · intro w hSw; go_simp; try with_reducible rfl
          simp only [Act.put, List.setIfInBounds_toArray, List.set_cons_zero, List.set_cons_succ]
          refine take_at (i := 21) (dst := some 42) (v := ?_) rfl (by kernel_rfl) (by kernel_rfl) (by kernel_rfl) (by kernel_rfl) (fun _ _ _ h => h) (Or.inl ⟨by kernel_rfl, ?_⟩) (by assumption) ?_
          rotate_left
          · intro w hSw; go_simp; try with_reducible rfl
          simp only [Act.put, List.setIfInBounds_toArray, List.set_cons_zero, List.set_cons_succ]
          refine wpAnyH_done (by kernel_rfl) ?_ _
          refine NoPanic.normal ?_
          clear hU hLn
          have hb2' : Below w1.heap.size w1 w2 := hbW.drew.trans (hb2.mono hbW.size)
          have hbx : Below w.heap.size w w2 := hb1.trans (hb2'.mono hb1.size)
          go_wp2
          go_ret
          rw [HV.out]
          exact ⟨rfl, ⟨bm, l, hL.below hbx, HFL.out, hok⟩, Only.of_below hbx⟩
        · have HG := hide (show R = S.do (putL s.data.toList ⟨(fileOr s.data.toList S.files).data ++ d.data.toList, (fileOr s.data.toList S.files).safe⟩) by
            rw [HR.out]; unfold St.append; rw [if_neg (by rw [hnm]; simp), if_neg (by rintro (h1 | ⟨_, h1⟩) <;> omega)])
          clear hgn
          have hmi : (m : Int) < (64 : Int) := by omega
          have hdec2 : decide ((64 : Int) ≤ (m : Int)) = false := by simp; omega
          refine take_at (i := 19) (dst := some 40) (v := ?_) rfl (by kernel_rfl) (by kernel_rfl) (by kernel_rfl) (by kernel_rfl) (fun _ _ _ h => h) (Or.inl ⟨by kernel_rfl, ?_⟩) (by assumption) ?_
          rotate_left
          · intro w hSw; go_simp; try with_reducible rfl
          simp only [Act.put, List.setIfInBounds_toArray, List.set_cons_zero, List.set_cons_succ]
          refine take_at (i := 20) (dst := some 41) (v := ?_) rfl (by kernel_rfl) (by kernel_rfl) (by kernel_rfl) (by kernel_rfl) (fun _ _ _ h => h) (Or.inl ⟨by kernel_rfl, ?_⟩) (by assumption) ?_
          rotate_left
          · intro w hSw; go_simp; try with_reducible rfl
          simp only [Act.put, List.setIfInBounds_toArray, List.set_cons_zero, List.set_cons_succ]
          refine take_at (i := 21) (dst := some 42) (v := ?_) rfl (by kernel_rfl) (by kernel_rfl) (by kernel_rfl) (by kernel_rfl) (fun _ _ _ h => h) (Or.inl ⟨by kernel_rfl, ?_⟩) (by assumption) ?_
          rotate_left
          · intro w hSw; go_simp; try with_reducible rfl
          simp only [Act.put, List.setIfInBounds_toArray, List.set_cons_zero, List.set_cons_succ]
          refine wpAnyH_done (by kernel_rfl) ?_ _
          refine NoPanic.normal ?_
          clear hU hLn
          have h3 := h2.below ((Below.refl _ _).drew.trans hb2)
          have hA2 : w2.heap[w1.heap.size]? = _ := (hb2.block w1.heap.size (Array.getElem?_eq_some_iff.1 hA).1).trans hA
          have hlt2 := (Array.getElem?_eq_some_iff.1 hA2).1
          have hb2' : Below w1.heap.size w1 w2 := hbW.drew.trans (hb2.mono hbW.size)
          have hbx : Below w.heap.size w w2 := hb1.trans (hb2'.mono hb1.size)
          have hrow2 := hrow.stay fun g hg => hb2'.block g (hrow.lt hg)
          have hT := takes_any w2 h3 hok.f0 hok.f1
          have hbdl := h1.base.lt
          clear hHeld2 hW2 c1 hb2 hA h1 h2 hbW hb1 hrow hown
          cases ht : (taken S.fuse S.down).1
          · have HV := hide (show R = (21, S.take.2) by rw [HG.out]; unfold St.do; rw [if_neg (by simp only [St.take]; rw [ht]; simp)])
            rw [ht] at hT
            go_wp2_with fail
            refine hT.mono ?_
            rintro e w3 ⟨rfl, h4, hg3⟩
            go_wp2
            go_ret
            rw [HV.out]
            exact ⟨rfl, ⟨bm, l, h4, HFL.out, hok.take⟩, (Only.of_below hbx).trans (Only.of_grown hg3 fun k e => by cases e; exact h3.base.ownD)⟩
          · have HV := hide (show R = (0, { S.take.2 with files := putL s.data.toList ⟨f.data ++ d.data.toList, f.safe⟩ S.files }) by
              rw [HG.out]; unfold St.do; rw [if_pos (by simp only [St.take]; exact ht)]
              rw [HFF.out, ← HFL.out])
            have HOK := hide (hok.append s.data.toList d.data.toList)
            rw [ht] at hT
            go_wp2_with fail
            refine hT.mono ?_
            rintro e w3 ⟨rfl, h4, hg3⟩
            have hA3 : w3.heap[w1.heap.size]? = _ := (hg3.block w1.heap.size hlt2 (by simp; omega)).trans hA2
            have c0 : w3.cell? ⟨w1.heap.size, 0, none⟩ = some (.slice ad f.data.length cap) := cell_of_block hA3 0
            have c1 : w3.cell? ⟨w1.heap.size, 1, none⟩ = some (.int .i64 f.safe) := cell_of_block hA3 1
            have hrow3 := hrow2.stay fun g hg => hg3.block g (hrow2.lt hg) (by simpa using (h3.base.rowNe hrow2 hg).1)
            have hfr3 : Fresh own w3 := hfr.later (Nat.le_trans hbx.size hg3.size)
            clear hA3 hA2 hT
            go_wp2_with fail
            refine (grown_any (.slice ad f.data.length cap) f.data f.safe d w3 hrow3.1 (by omega)).mono ?_
            rintro e w4 ⟨v4, rfl, hown4, hg4, hat4⟩
            obtain ⟨n4, hn4⟩ : ∃ n4, n4 = (f.data ++ d.data.toList).length := ⟨_, rfl⟩
            rw [← hn4] at hown4
            obtain ⟨a4, c4, rfl⟩ := own_slice hown4
            have hl4 : (Fil.mk (f.data ++ d.data.toList) f.safe).data.length = n4 := hn4.symm
            clear hn4
            have hz3 := h4.base.lt
            have hB4 := h4.base.stay (hg4.block bd h4.base.lt fun e => (h4.base.rowNe hrow3 e.symm).1 rfl) (hg4.block bm h4.base.map.lt fun e => (h4.base.rowNe hrow3 e.symm).2 rfl)
            have hr4 : RowsOk w4 own (delL s.data.toList l) := ⟨fun p hp => (h4.rows.1 p (mem_delL.1 hp).1).stay fun g hg => hg4.block g ((h4.rows.1 p (mem_delL.1 hp).1).lt hg) (fun e => hap p hp g e.symm hg), (h4.rows.del _).2⟩
            have hx4 : RowOk w4 own (.slice a4 (Fil.mk (f.data ++ d.data.toList) f.safe).data.length c4, Fil.mk (f.data ++ d.data.toList) f.safe) := by
              rw [hl4]; exact ⟨by rw [hl4]; exact hown4, fun g hg => (hat4 g hg).elim (hrow3.2 g) (hfr3 g)⟩
            have ha4 : ∀ p ∈ delL s.data.toList l, Apart (.slice a4 (Fil.mk (f.data ++ d.data.toList) f.safe).data.length c4, Fil.mk (f.data ++ d.data.toList) f.safe) p.2 := fun p hp g hg hg' => by
              rw [hl4] at hg
              rcases hat4 g hg with h1 | h1
              · exact hap p hp g h1 hg'
              · have := (h4.rows.1 p (mem_delL.1 hp).1).lt hg'; omega
            have hP := put_any w4 hB4 s hns a4 c4 (Fil.mk (f.data ++ d.data.toList) f.safe) hr4 hx4 ha4 (by omega)
            simp only [hl4] at hP
            have HL4 := hide hl4
            clear hl4
            have hO := ((Only.of_below hbx).trans (Only.of_grown (own := own) hg3 fun k e => by cases e; exact h3.base.ownD)).trans (Only.of_grown hg4 fun k e => hrow3.2 k e)
            clear hown4 hB4 hr4 hx4 ha4 hat4 hrow3 hrow2 c0 c1
            go_wp2_with fail
            refine hP.mono ?_
            rintro e w5 ⟨rfl, h5, hg5⟩
            go_wp2
            go_ret
            have hR5 := HOK.out
            rw [← HR.out, HV.out] at hR5
            rw [HV.out]
            refine ⟨rfl, ⟨bm, _, h5, ?_, hR5⟩, hO.trans (Only.of_grown hg5 fun k e => by cases e; exact h3.base.ownM)⟩
            show putL s.data.toList _ S.files = _
            rw [putL_map (fun x : Ent => x.2), ← HFL.out]
      · have HG := hide (show R = S.do (putL s.data.toList ⟨(fileOr s.data.toList S.files).data ++ d.data.toList, (fileOr s.data.toList S.files).safe⟩) by
          rw [HR.out]; unfold St.append; rw [if_neg (by rw [hnm]; simp), if_neg (by rintro (h1 | ⟨h1, _⟩); omega; rw [hgn] at h1; simp at h1)])
        clear hgn
        refine take_at (i := 12) (dst := some 33) (v := ?_) rfl (by kernel_rfl) (by kernel_rfl) (by kernel_rfl) (by kernel_rfl) (fun _ _ _ h => h) (Or.inl ⟨by kernel_rfl, ?_⟩) (by assumption) ?_
        rotate_left
        · intro w hSw; go_simp; try with_reducible rfl
        simp only [Act.put, List.setIfInBounds_toArray, List.set_cons_zero, List.set_cons_succ]
        refine take_at (i := 13) (dst := some 34) (v := ?_) rfl (by kernel_rfl) (by kernel_rfl) (by kernel_rfl) (by kernel_rfl) (fun _ _ _ h => h) (Or.inl ⟨by kernel_rfl, ?_⟩) (by assumption) ?_
        rotate_left
        · intro w hSw; go_simp; try with_reducible rfl
        simp only [Act.put, List.setIfInBounds_toArray, List.set_cons_zero, List.set_cons_succ]
        refine take_at (i := 14) (dst := some 35) (v := undef) rfl (by kernel_rfl) (by kernel_rfl) (by kernel_rfl) (by kernel_rfl) (fun _ _ _ h => h) (Or.inr ⟨by kernel_rfl, rfl⟩) (by assumption) ?_
        simp only [Act.put, List.setIfInBounds_toArray, List.set_cons_zero, List.set_cons_succ]
        refine take_at (i := 15) (dst := some 36) (v := undef) rfl (by kernel_rfl) (by kernel_rfl) (by kernel_rfl) (by kernel_rfl) (fun _ _ _ h => h) (Or.inr ⟨by kernel_rfl, rfl⟩) (by assumption) ?_
        simp only [Act.put, List.setIfInBounds_toArray, List.set_cons_zero, List.set_cons_succ]
        refine take_at (i := 16) (dst := some 37) (v := undef) rfl (by kernel_rfl) (by kernel_rfl) (by kernel_rfl) (by kernel_rfl) (fun _ _ _ h => h) (Or.inr ⟨by kernel_rfl, rfl⟩) (by assumption) ?_
        simp only [Act.put, List.setIfInBounds_toArray, List.set_cons_zero, List.set_cons_succ]
        refine take_at (i := 17) (dst := some 38) (v := undef) rfl (by kernel_rfl) (by kernel_rfl) (by kernel_rfl) (by kernel_rfl) (fun _ _ _ h => h) (Or.inr ⟨by kernel_rfl, rfl⟩) (by assumption) ?_
        simp only [Act.put, List.setIfInBounds_toArray, List.set_cons_zero, List.set_cons_succ]
        refine take_at (i := 18) (dst := some 39) (v := undef) rfl (by kernel_rfl) (by kernel_rfl) (by kernel_rfl) (by kernel_rfl) (fun _ _ _ h => h) (Or.inr ⟨by kernel_rfl, rfl⟩) (by assumption) ?_
        simp only [Act.put, List.setIfInBounds_toArray, List.set_cons_zero, List.set_cons_succ]
        refine take_at (i := 19) (dst := some 40) (v := undef) rfl (by kernel_rfl) (by kernel_rfl) (by kernel_rfl) (by kernel_rfl) (fun _ _ _ h => h) (Or.inr ⟨by kernel_rfl, rfl⟩) (by assumption) ?_
        simp only [Act.put, List.setIfInBounds_toArray, List.set_cons_zero, List.set_cons_succ]
        refine take_at (i := 20) (dst := some 41) (v := ?_) rfl (by kernel_rfl) (by kernel_rfl) (by kernel_rfl) (by kernel_rfl) (fun _ _ _ h => h) (Or.inl ⟨by kernel_rfl, ?_⟩) (by assumption) ?_
        rotate_left
        · intro w hSw; go_simp; try with_reducible rfl
        simp only [Act.put, List.setIfInBounds_toArray, List.set_cons_zero, List.set_cons_succ]
        refine take_at (i := 21) (dst := some 42) (v := ?_) rfl (by kernel_rfl) (by kernel_rfl) (by kernel_rfl) (by kernel_rfl) (fun _ _ _ h => h) (Or.inl ⟨by kernel_rfl, ?_⟩) (by assumption) ?_
        rotate_left
        · intro w hSw; go_simp; try with_reducible rfl
        simp only [Act.put, List.setIfInBounds_toArray, List.set_cons_zero, List.set_cons_succ]
        refine wpAnyH_done (by kernel_rfl) ?_ _
        refine NoPanic.normal ?_
        clear hU hLn
        have h3 := h2.below ((Below.refl _ _).drew.trans hb2)
        have hA2 : w2.heap[w1.heap.size]? = _ := (hb2.block w1.heap.size (Array.getElem?_eq_some_iff.1 hA).1).trans hA
        have hlt2 := (Array.getElem?_eq_some_iff.1 hA2).1
        have hb2' : Below w1.heap.size w1 w2 := hbW.drew.trans (hb2.mono hbW.size)
        have hbx : Below w.heap.size w w2 := hb1.trans (hb2'.mono hb1.size)
        have hrow2 := hrow.stay fun g hg => hb2'.block g (hrow.lt hg)
        have hT := takes_any w2 h3 hok.f0 hok.f1
        have hbdl := h1.base.lt
        clear hHeld2 hW2 c1 hb2 hA h1 h2 hbW hb1 hrow hown
        cases ht : (taken S.fuse S.down).1
        · have HV := hide (show R = (21, S.take.2) by rw [HG.out]; unfold St.do; rw [if_neg (by simp only [St.take]; rw [ht]; simp)])
          rw [ht] at hT
          go_wp2_with fail
          refine hT.mono ?_
          rintro e w3 ⟨rfl, h4, hg3⟩
          go_wp2
          go_ret
          rw [HV.out]
          exact ⟨rfl, ⟨bm, l, h4, HFL.out, hok.take⟩, (Only.of_below hbx).trans (Only.of_grown hg3 fun k e => by cases e; exact h3.base.ownD)⟩
        · have HV := hide (show R = (0, { S.take.2 with files := putL s.data.toList ⟨f.data ++ d.data.toList, f.safe⟩ S.files }) by
            rw [HG.out]; unfold St.do; rw [if_pos (by simp only [St.take]; exact ht)]
            rw [HFF.out, ← HFL.out])
          have HOK := hide (hok.append s.data.toList d.data.toList)
          rw [ht] at hT
          go_wp2_with fail
          refine hT.mono ?_
          rintro e w3 ⟨rfl, h4, hg3⟩
          have hA3 : w3.heap[w1.heap.size]? = _ := (hg3.block w1.heap.size hlt2 (by simp; omega)).trans hA2
          have c0 : w3.cell? ⟨w1.heap.size, 0, none⟩ = some (.slice ad f.data.length cap) := cell_of_block hA3 0
          have c1 : w3.cell? ⟨w1.heap.size, 1, none⟩ = some (.int .i64 f.safe) := cell_of_block hA3 1
          have hrow3 := hrow2.stay fun g hg => hg3.block g (hrow2.lt hg) (by simpa using (h3.base.rowNe hrow2 hg).1)
          have hfr3 : Fresh own w3 := hfr.later (Nat.le_trans hbx.size hg3.size)
          clear hA3 hA2 hT
          go_wp2_with fail
          refine (grown_any (.slice ad f.data.length cap) f.data f.safe d w3 hrow3.1 (by omega)).mono ?_
          rintro e w4 ⟨v4, rfl, hown4, hg4, hat4⟩
          obtain ⟨n4, hn4⟩ : ∃ n4, n4 = (f.data ++ d.data.toList).length := ⟨_, rfl⟩
          rw [← hn4] at hown4
          obtain ⟨a4, c4, rfl⟩ := own_slice hown4
          have hl4 : (Fil.mk (f.data ++ d.data.toList) f.safe).data.length = n4 := hn4.symm
          clear hn4
          have hz3 := h4.base.lt
          have hB4 := h4.base.stay (hg4.block bd h4.base.lt fun e => (h4.base.rowNe hrow3 e.symm).1 rfl) (hg4.block bm h4.base.map.lt fun e => (h4.base.rowNe hrow3 e.symm).2 rfl)
          have hr4 : RowsOk w4 own (delL s.data.toList l) := ⟨fun p hp => (h4.rows.1 p (mem_delL.1 hp).1).stay fun g hg => hg4.block g ((h4.rows.1 p (mem_delL.1 hp).1).lt hg) (fun e => hap p hp g e.symm hg), (h4.rows.del _).2⟩
          have hx4 : RowOk w4 own (.slice a4 (Fil.mk (f.data ++ d.data.toList) f.safe).data.length c4, Fil.mk (f.data ++ d.data.toList) f.safe) := by
            rw [hl4]; exact ⟨by rw [hl4]; exact hown4, fun g hg => (hat4 g hg).elim (hrow3.2 g) (hfr3 g)⟩
          have ha4 : ∀ p ∈ delL s.data.toList l, Apart (.slice a4 (Fil.mk (f.data ++ d.data.toList) f.safe).data.length c4, Fil.mk (f.data ++ d.data.toList) f.safe) p.2 := fun p hp g hg hg' => by
            rw [hl4] at hg
            rcases hat4 g hg with h1 | h1
            · exact hap p hp g h1 hg'
            · have := (h4.rows.1 p (mem_delL.1 hp).1).lt hg'; omega
          have hP := put_any w4 hB4 s hns a4 c4 (Fil.mk (f.data ++ d.data.toList) f.safe) hr4 hx4 ha4 (by omega)
          simp only [hl4] at hP
          have HL4 := hide hl4
          clear hl4
          have hO := ((Only.of_below hbx).trans (Only.of_grown (own := own) hg3 fun k e => by cases e; exact h3.base.ownD)).trans (Only.of_grown hg4 fun k e => hrow3.2 k e)
          clear hown4 hB4 hr4 hx4 ha4 hat4 hrow3 hrow2 c0 c1
          go_wp2_with fail
          refine hP.mono ?_
          rintro e w5 ⟨rfl, h5, hg5⟩
          go_wp2
          go_ret
          have hR5 := HOK.out
          rw [← HR.out, HV.out] at hR5
          rw [HV.out]
          refine ⟨rfl, ⟨bm, _, h5, ?_, hR5⟩, hO.trans (Only.of_grown hg5 fun k e => by cases e; exact h3.base.ownM)⟩
          show putL s.data.toList _ S.files = _
          rw [putL_map (fun x : Ent => x.2), ← HFL.out]

end Go.Proofs.YtmpahgklcabihaaGreat.Dk
