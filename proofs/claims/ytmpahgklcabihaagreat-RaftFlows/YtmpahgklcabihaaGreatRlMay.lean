/- Walks over rlog: mayFollow. -/
import Derived.Test.YtmpahgklcabihaaGreatRlSeq
namespace Go.Proofs.YtmpahgklcabihaaGreat.Rl
open Go.RowKit Go.Joins Gk

attribute [local go_sem] Oper.semAt_some

/-- a term that is none -/
def bad (e : En) : Prop := e.t < 1 ∨ 1073741824 < e.t
instance (e : En) : Decidable (bad e) := by unfold bad; infer_instance
/-- the term, whether terms fell, whether one is too long -/
structure Mf where
  t : Int
  st : Bool
  lg : Bool
def Mf.step (s : Mf) (x : Nat × En) : Mf := ⟨x.2.t, s.st || decide (x.2.t < s.t), s.lg || decide (4096 < (x.2.d.size : Int)) || decide (1048576 < (x.1 : Int))⟩
def mfs (t : Int) (L : List (Nat × En)) : Mf := L.foldl Mf.step ⟨t, false, false⟩
theorem mfs_snoc (t : Int) (L : List (Nat × En)) (x : Nat × En) : mfs t (L ++ [x]) = (mfs t L).step x := by simp [mfs]
def hasBad (L : List (Nat × En)) : Prop := ∃ x ∈ L, bad x.2
instance (L : List (Nat × En)) : Decidable (hasBad L) := by unfold hasBad; infer_instance
theorem hasBad_snoc (L : List (Nat × En)) (x : Nat × En) : hasBad (L ++ [x]) ↔ hasBad L ∨ bad x.2 := by
  unfold hasBad
  constructor
  · rintro ⟨y, hy, hb⟩
    rcases List.mem_append.1 hy with hy | hy
    · exact Or.inl ⟨y, hy, hb⟩
    · rw [List.mem_singleton.1 hy] at hb; exact Or.inr hb
  · rintro (⟨y, hy, hb⟩ | hb)
    · exact ⟨y, List.mem_append_left _ hy, hb⟩
    · exact ⟨x, List.mem_append_right _ (List.mem_singleton.2 rfl), hb⟩
/-- what is wrong with entries behind one of a term -/
def mcode (t : Int) (L : List (Nat × En)) : Int := if hasBad L then 1 else if (mfs t L).st then 150 else if (mfs t L).lg then 2 else 0

set_option maxRecDepth 100000 in
set_option maxHeartbeats 4000000 in
theorem may_in (t : Int) (gf : Nat) (lb : Array Value) (L : List (Nat × En)) (X : Nat → Prop) (w : World) (eg : ∀ args w, (callFunc gf args).run Tryz.prog w = .ok (.enter gf args) w) (hseq : SeqP Tryz.prog gf lb nenc (Kpt X) L (w.heap.size + 6) w) (hX : ∀ k, X k → k < w.heap.size) :
    CallsIn Fence.wide 9 Tryz.prog 142 #[.int .i64 t, .func (.func gf) #[] lb] w fun e w' => e = .returned (.int .i64 (mcode t L)) ∧ Below w.heap.size w w' := by
  refine callsIn_of_wp_marks Tryz.func142 rfl trivial ?_ rfl
  simp only [Tryz.ntmps142, List.size_toArray, List.length_cons, List.length_nil, Nat.reduceAdd, Nat.reduceSub, Array.replicate_succ, Array.replicate_zero, List.push_toArray, List.append_toArray, List.nil_append, List.cons_append]
  gi_wp2
  obtain ⟨W0, hW0⟩ : ∃ W0, (((w.alloc (.cells #[.int .i64 t] 3)).alloc (.cells #[.int .i64 0] 26)).alloc (.cells #[.bool false] 4)).alloc (.cells #[.bool false] 4) = W0 := ⟨_, rfl⟩
  have hsz : W0.heap.size = w.heap.size + 4 := by rw [← hW0]; simp
  have bT : Boxed W0 w.heap.size 3 (.int .i64 t) := by rw [← hW0]; exact (((Boxed.new w _ _).alloc _).alloc _).alloc _
  have bR : Boxed W0 (w.heap.size + 1) 26 (.int .i64 0) := by
    rw [← hW0]; have := Boxed.new (w.alloc (.cells #[.int .i64 t] 3)) 26 (.int .i64 0); rw [World.size_alloc] at this; exact (this.alloc _).alloc _
  have bS : Boxed W0 (w.heap.size + 1 + 1) 4 (.bool false) := by
    rw [← hW0]; have := Boxed.new ((w.alloc (.cells #[.int .i64 t] 3)).alloc (.cells #[.int .i64 0] 26)) 4 (.bool false); rw [World.size_alloc, World.size_alloc] at this; exact this.alloc _
  have bL : Boxed W0 (w.heap.size + 1 + 1 + 1) 4 (.bool false) := by
    rw [← hW0]; have := Boxed.new (((w.alloc (.cells #[.int .i64 t] 3)).alloc (.cells #[.int .i64 0] 26)).alloc (.cells #[.bool false] 4)) 4 (.bool false); rw [World.size_alloc, World.size_alloc, World.size_alloc] at this; exact this
  have hB0 : Below w.heap.size w W0 := by
    rw [← hW0]; exact ((((Below.refl _ w).alloc (Nat.le_refl _) _).alloc (by simp) _).alloc (by simp; omega) _).alloc (by simp; omega) _
  rw [hW0]
  clear hW0
  refine range_pre rfl eg (hsz ▸ hseq : SeqP Tryz.prog gf lb nenc (Kpt X) L (W0.heap.size + 2) w) (fun h k => h.trans k) (Kpt.put (fun k hk => by have := hX k hk; omega)) hB0 (fun _ => rfl)
    (fun pre W => Boxed W w.heap.size 3 (.int .i64 (mfs t pre).t) ∧ Boxed W (w.heap.size + 1) 26 (.int .i64 0) ∧ Boxed W (w.heap.size + 1 + 1) 4 (.bool (mfs t pre).st) ∧ Boxed W (w.heap.size + 1 + 1 + 1) 4 (.bool (mfs t pre).lg) ∧ ¬ hasBad pre ∧ Below w.heap.size w W)
    (fun c pre W => c = .ret ∧ Boxed W (w.heap.size + 1) 26 (.int .i64 1) ∧ hasBad pre ∧ Below w.heap.size w W)
    (OwnB.and (OwnB.boxed _ _ _ (fun pre => .int .i64 (mfs t pre).t) (Or.inl (by omega))) (OwnB.and (OwnB.boxed _ _ _ (fun _ => .int .i64 0) (Or.inl (by omega))) (OwnB.and (OwnB.boxed _ _ _ (fun pre => .bool (mfs t pre).st) (Or.inl (by omega))) (OwnB.and (OwnB.boxed _ _ _ (fun pre => .bool (mfs t pre).lg) (Or.inl (by omega))) (OwnB.and (OwnB.pure _ (fun pre => ¬ hasBad pre)) (OwnB.below (Nat.le_refl _) (by omega)))))))
    (fun c => OwnB.and (OwnB.pure _ (fun _ => c = .ret)) (OwnB.and (OwnB.boxed _ _ _ (fun _ => .int .i64 1) (Or.inl (by omega))) (OwnB.and (OwnB.pure _ (fun pre => hasBad pre)) (OwnB.below (Nat.le_refl _) (by omega)))))
    ⟨bT, bR, bS, bL, by simp [hasBad], hB0⟩
    (fun x a' W => ∃ Bx, w.heap.size + 4 ≤ Bx ∧ W.heap[Bx]? = some (.cells #[.int .i64 x.2.t, .string x.2.d] EnT (0, 0)) ∧ a' = { tmps := #[.int .i64 t, .func (.func gf) #[] lb, ptr w.heap.size, undef, ptr (w.heap.size + 1), ptr (w.heap.size + 1 + 1), ptr (w.heap.size + 1 + 1 + 1), .int .i64 x.1, ptr Bx, .func (.func gf) #[] lb, .int .i64 x.1, ev x.2, undef, undef, undef, undef, undef, undef, undef, undef, undef, undef, undef, undef, undef, undef, undef, undef, undef, undef, undef, undef, undef, undef, undef, undef, undef, undef, undef, undef, undef, undef], defers := [] })
    (fun x a' => ownFrom_ex fun Bx => OwnFrom.and (ownFrom_pure _ (fun _ => w.heap.size + 4 ≤ Bx)) (OwnFrom.and (ownFrom_block _ Bx (fun _ => #[.int .i64 x.2.t, .string x.2.d]) EnT) (ownFrom_pure _ (fun _ => a' = _))))
    ?assign ?body ?done ?stop
  case assign =>
    rintro l pre x W K ⟨h1, h2, h3, h4, h5, h6⟩ hK
    have hz := h6.size
    have hz4 := h4.lt
    dsimp only [nenc, ev]
    gi_wp2
    exact hK _ _ ((KeepsOthers.alloc W _).from _) (Kpt.alloc (fun k hk => by have := hX k hk; omega) _) ⟨h1.alloc _, h2.alloc _, h3.alloc _, h4.alloc _, h5, h6.alloc hz _⟩ ⟨W.heap.size, by omega, World.alloc_heap_new W _, rfl⟩
  case body =>
    rintro l pre x a' W hl hpre ⟨h1, h2, h3, h4, h5, h6⟩ ⟨Bx, hBx, hx, rfl⟩
    have HM := hide (mfs_snoc t pre x)
    obtain ⟨n, y, d⟩ := x
    dsimp only at hx
    dsimp only [ev]
    have x0 : W.cell? ⟨Bx, 0, none⟩ = some (.int .i64 y) := by rw [cell_of_block hx]; rfl
    have x1 : W.cell? ⟨Bx, 1, none⟩ = some (.string d) := by rw [cell_of_block hx]; rfl
    have c1 := h1.cell
    have c2 := h2.cell
    have c3 := h3.cell
    have c4 := h4.cell
    have f1 := h1.frozen
    have f2 := h2.frozen
    have f3 := h3.frozen
    have f4 := h4.frozen
    have n1 : Bx ≠ w.heap.size + 1 + 1 + 1 := by omega
    have n2 : Bx ≠ w.heap.size + 1 + 1 := by omega
    have n3 : Bx ≠ w.heap.size := by omega
    have H1 := hide h1
    have H2 := hide h2
    have H3 := hide h3
    have H4 := hide h4
    have H5 := hide h5
    have H6 := hide h6
    have q1 : w.heap.size ≤ w.heap.size + 1 := by omega
    have q2 : w.heap.size ≤ w.heap.size + 1 + 1 := by omega
    have q3 : w.heap.size ≤ w.heap.size + 1 + 1 + 1 := by omega
    have Q1 := hide q1
    have Q2 := hide q2
    have Q3 := hide q3
    have KW := hide (show ∀ (A : World) (b : Nat) (v : Value), KeepsOthers A (A.setCell ⟨b, 0, none⟩ v) from fun A b v => KeepsOthers.setCell A _ v)
    clear h1 h2 h3 h4 h5 h6 q1 q2 q3 hx hpre hseq
    by_cases g1 : y < 1
    · gi_wp2
      exact ⟨(KW.out _ _ _).from _, Kpt.below ((Below.refl w.heap.size W).setCell (p := ⟨w.heap.size + 1, 0, none⟩) Q1.out _) hX, rfl, H2.out.set _, (hasBad_snoc _ _).2 (Or.inr (Or.inl g1)), H6.out.setCell (p := ⟨w.heap.size + 1, 0, none⟩) Q1.out _⟩
    by_cases g2 : 1073741824 < y
    · gi_wp2
      exact ⟨(KW.out _ _ _).from _, Kpt.below ((Below.refl w.heap.size W).setCell (p := ⟨w.heap.size + 1, 0, none⟩) Q1.out _) hX, rfl, H2.out.set _, (hasBad_snoc _ _).2 (Or.inr (Or.inr g2)), H6.out.setCell (p := ⟨w.heap.size + 1, 0, none⟩) Q1.out _⟩
    have HB := hide (show ¬ bad ⟨y, d⟩ from fun h => h.elim g1 g2)
    obtain ⟨s, hs⟩ : ∃ s, mfs t pre = s := ⟨_, rfl⟩
    rw [hs] at c1 c3 c4 H1 H3 H4 HM
    clear hs
    obtain ⟨st, sb, sl⟩ := s
    dsimp only at c1 c3 c4 H1 H3 H4
    dsimp only [Mf.step] at HM
    have hend : ∀ (u v : Bool), Hid (mfs t (pre ++ [(n, ⟨y, d⟩)]) = ⟨y, u, v⟩) → ∀ A, A = ((W.setCell ⟨w.heap.size + 1 + 1, 0, none⟩ (.bool u)).setCell ⟨w.heap.size + 1 + 1 + 1, 0, none⟩ (.bool v)).setCell ⟨w.heap.size, 0, none⟩ (.int .i64 y) →
        KeepsFrom W0.heap.size W A ∧ Kpt X W A ∧ Boxed A w.heap.size 3 (.int .i64 (mfs t (pre ++ [(n, ⟨y, d⟩)])).t) ∧ Boxed A (w.heap.size + 1) 26 (.int .i64 0) ∧ Boxed A (w.heap.size + 1 + 1) 4 (.bool (mfs t (pre ++ [(n, ⟨y, d⟩)])).st) ∧ Boxed A (w.heap.size + 1 + 1 + 1) 4 (.bool (mfs t (pre ++ [(n, ⟨y, d⟩)])).lg) ∧ ¬ hasBad (pre ++ [(n, ⟨y, d⟩)]) ∧ Below w.heap.size w A := by
      rintro u v hm A rfl
      rw [hm.out]
      exact ⟨(((KW.out _ _ _).trans (KW.out _ _ _)).trans (KW.out _ _ _)).from _, Kpt.below ((((Below.refl w.heap.size W).setCell (p := ⟨w.heap.size + 1 + 1, 0, none⟩) Q2.out _).setCell (p := ⟨w.heap.size + 1 + 1 + 1, 0, none⟩) Q3.out _).setCell (p := ⟨w.heap.size, 0, none⟩) (Nat.le_refl _) _) hX,
        ((H1.out.other (by omega) _).other (by omega) _).set _, ((H2.out.other (by omega) _).other (by omega) _).other (by omega) _, ((H3.out.set _).other (by omega) _).other (by omega) _, (((H4.out.other (by omega) _).set _).other (by omega) _), fun h => ((hasBad_snoc _ _).1 h).elim H5.out HB.out, ((H6.out.setCell (p := ⟨w.heap.size + 1 + 1, 0, none⟩) Q2.out _).setCell (p := ⟨w.heap.size + 1 + 1 + 1, 0, none⟩) Q3.out _).setCell (p := ⟨w.heap.size, 0, none⟩) (Nat.le_refl _) _⟩
    have HE := hide hend
    clear hend
    have hd : ∃ b1, decide (y < st) = b1 := ⟨_, rfl⟩
    obtain ⟨b1, hb1⟩ := hd
    have hd : ∃ b2, decide (4096 < (d.size : Int)) = b2 := ⟨_, rfl⟩
    obtain ⟨b2, hb2⟩ := hd
    have hd : ∃ b3, decide (1048576 < (n : Int)) = b3 := ⟨_, rfl⟩
    obtain ⟨b3, hb3⟩ := hd
    rw [hb1, hb2, hb3] at HM
    have g1' : decide (y < 1) = false := by simp [g1]
    have g2' : decide (1073741824 < y) = false := by simp [g2]
    clear g1 g2
    cases sb <;> cases sl <;> cases b2
    all_goals simp only [Bool.true_or, Bool.false_or, Bool.or_false, Bool.or_true] at HM
    all_goals gi_wp2
    all_goals exact HE.out _ _ HM _ rfl
  case done =>
    rintro D W hD ⟨h1, h2, h3, h4, h5, h6⟩ hK
    have HC := hide (show mcode t L = if (mfs t L).st then 150 else if (mfs t L).lg then 2 else 0 by rw [mcode, if_neg h5])
    have hend : ∀ c : Int, Hid (mcode t L = c) → ∀ A, A = W.setCell ⟨w.heap.size + 1, 0, none⟩ (.int .i64 c) → ∃ wd, (Instr.takeDeferred D).run Tryz.prog A = .ok [] wd ∧ wd.cell? ⟨w.heap.size + 1, 0, none⟩ = some (.int .i64 c) ∧ Below w.heap.size w wd := by
      rintro c hc A rfl
      have hK' := (KeepsOthers.setCell W ⟨w.heap.size + 1, 0, none⟩ (.int .i64 c)).same D _ hK rfl
      exact ⟨_, run_takeDeferred hK', cell_kept (h2.set (.int .i64 c)).cell (grownBy_putObj' _ D (.deferred none)) (fun r e => by cases e; exact ⟨_, hK', rfl⟩), (h6.setCell (p := ⟨w.heap.size + 1, 0, none⟩) (show w.heap.size ≤ w.heap.size + 1 by omega) _).trans (belowK_b (w := w) (Nat.le_refl _) _ D _ _ (by omega) hK' rfl rfl)⟩
    have HE := hide hend
    have c2 := h2.cell
    have c3 := h3.cell
    have c4 := h4.cell
    have f2 := h2.frozen
    clear h1 h2 h3 h4 h5 h6 hK hend hseq
    generalize mfs t L = s at *
    obtain ⟨st, sb, sl⟩ := s
    dsimp only at c3 c4 HC
    cases sb <;> cases sl
    all_goals simp only [Bool.false_eq_true, if_false, if_true] at HC
    all_goals gi_wp2
    all_goals
      obtain ⟨wd, k1, k2, k3⟩ := HE.out _ HC _ rfl
      refine ⟨by simp, .inl ⟨_, _, rfl, k1, ?_⟩⟩
      refine ⟨_, ?_, by rw [HC.out], k3⟩
      simp [results, Tryz.f142, go_sem, k2]
  case stop =>
    rintro D c pre W hD hpre ⟨rfl, h2, h5, h6⟩ hK
    gi_wp2
    refine ⟨by simp, .inl ⟨_, _, rfl, run_takeDeferred hK, ?_⟩⟩
    have hc5 := cell_kept h2.cell (grownBy_putObj' _ D (.deferred none)) (fun r e => by cases e; exact ⟨_, hK, rfl⟩)
    refine ⟨.int .i64 1, ?_, ?_, h6.trans (belowK_b (w := w) (Nat.le_refl _) W D _ _ (by omega) hK rfl rfl)⟩
    · simp [results, Tryz.f142, go_sem, hc5]
    · obtain ⟨x, hx, hb⟩ := h5
      rw [mcode, if_pos ⟨x, hpre.subset hx, hb⟩]

end Go.Proofs.YtmpahgklcabihaaGreat.Rl
