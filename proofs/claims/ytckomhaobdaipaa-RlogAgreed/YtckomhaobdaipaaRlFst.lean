/- Walks over rlog: firstOf. -/
import Derived.Test.YtckomhaobdaipaaRlDwn
namespace Go.Proofs.Ytckomhaobdaipaa.Rl
open Go.RowKit Go.Joins Gk

attribute [local go_sem] Oper.semAt_some

/-- the number of the first of a term, ahead of the first of a lesser one -/
def fo (t : Int) : List (Nat × En) → Option Nat
  | [] => none
  | x :: r => if x.2.t = t then some x.1 else if x.2.t < t then none else fo t r
def ovr (t : Int) (L : List (Nat × En)) : Prop := ∀ x ∈ L, t < x.2.t
theorem ovr_snoc {t : Int} {L : List (Nat × En)} {x : Nat × En} (h : ovr t L) (hx : t < x.2.t) : ovr t (L ++ [x]) := fun y hy => by
  rcases List.mem_append.1 hy with hy | hy
  · exact h y hy
  · rw [List.mem_singleton.1 hy]; exact hx
theorem fo_over {t : Int} : ∀ {q : List (Nat × En)} (r : List (Nat × En)), ovr t q → fo t (q ++ r) = fo t r
  | [], _, _ => rfl
  | x :: q, r, h => by
    have h1 := h x (List.mem_cons_self ..)
    rw [List.cons_append, fo, if_neg (by omega), if_neg (by omega)]
    exact fo_over r fun y hy => h y (List.mem_cons_of_mem _ hy)
theorem fo_hit {t : Int} {q L : List (Nat × En)} {x : Nat × En} (h : ovr t q) (hp : q ++ [x] <+: L) (hx : x.2.t = t) : fo t L = some x.1 := by
  obtain ⟨r, rfl⟩ := hp
  rw [List.append_assoc, fo_over _ h, List.singleton_append, fo, if_pos hx]
theorem fo_miss {t : Int} {q L : List (Nat × En)} {x : Nat × En} (h : ovr t q) (hp : q ++ [x] <+: L) (hx : x.2.t < t) : fo t L = none := by
  obtain ⟨r, rfl⟩ := hp
  rw [List.append_assoc, fo_over _ h, List.singleton_append, fo, if_neg (by omega), if_pos hx]
theorem fo_none {t : Int} {L : List (Nat × En)} (h : ovr t L) : fo t L = none := by
  have := fo_over (t := t) (q := L) [] h
  rwa [List.append_nil] at this
/-- how a loop over entries was left -/
def Lft (t : Int) (B : Nat) (c : Code) (pre : List (Nat × En)) (W : World) : Prop :=
  (c = .ret ∧ (∃ q x, pre = q ++ [x] ∧ ovr t q ∧ x.2.t = t ∧ Boxed W (B + 1) 3 (.int .i64 (x.1 : Int)) ∧ Boxed W (B + 1 + 1) 4 (.bool true))) ∨
  (c = .exit 0 ∧ (∃ q x, pre = q ++ [x] ∧ ovr t q ∧ x.2.t < t) ∧ Boxed W (B + 1) 3 (.int .i64 0) ∧ Boxed W (B + 1 + 1) 4 (.bool false))
theorem lft_own (t : Int) (B B' : Nat) (hB : B + 3 ≤ B') (c : Code) : OwnB B' (fun pre W => Lft t B c pre W) := fun s W W' row h hg hr => by
  have hb : ∀ b ty v, b < B' → Boxed W b ty v → Boxed W' b ty v := fun b ty v hlt hv => hv.kept hg (fun e => by have := (hr b e.symm).1; omega)
  rcases h with ⟨h1, q, x, h2, h3, h4, h5, h6⟩ | ⟨h1, h2, h5, h6⟩
  · exact Or.inl ⟨h1, q, x, h2, h3, h4, hb _ _ _ (by omega) h5, hb _ _ _ (by omega) h6⟩
  · exact Or.inr ⟨h1, h2, hb _ _ _ (by omega) h5, hb _ _ _ (by omega) h6⟩

set_option maxRecDepth 100000 in
set_option maxHeartbeats 8000000 in
theorem first_in (t : Int) (gf : Nat) (lb : Array Value) (L : List (Nat × En)) (X : Nat → Prop) (w : World) (eg : ∀ args w, (callFunc gf args).run Try.prog w = .ok (.enter gf args) w) (hseq : SeqP Try.prog gf lb nenc (Kpt X) L (w.heap.size + 5) w) (hX : ∀ k, X k → k < w.heap.size) :
    CallsIn Fence.wide 9 Try.prog 22 #[.int .i64 t, .func (.func gf) #[] lb] w fun e w' => e = .returned (.tuple #[.int .i64 (((fo t L).getD 0 : Nat) : Int), .bool (fo t L).isSome]) ∧ Below w.heap.size w w' := by
  refine callsIn_of_wp_marks Try.func22 rfl trivial ?_ rfl
  simp only [Try.ntmps22, List.size_toArray, List.length_cons, List.length_nil, Nat.reduceAdd, Nat.reduceSub, Array.replicate_succ, Array.replicate_zero, List.push_toArray, List.append_toArray, List.nil_append, List.cons_append]
  gi_wp2
  obtain ⟨W0, hW0⟩ : ∃ W0, ((w.alloc (.cells #[.int .i64 t] 3)).alloc (.cells #[.int .i64 0] 3)).alloc (.cells #[.bool false] 4) = W0 := ⟨_, rfl⟩
  have hsz : W0.heap.size = w.heap.size + 3 := by rw [← hW0]; simp
  have bT : Boxed W0 w.heap.size 3 (.int .i64 t) := by rw [← hW0]; exact ((Boxed.new w _ _).alloc _).alloc _
  have bN : Boxed W0 (w.heap.size + 1) 3 (.int .i64 0) := by
    rw [← hW0]; have := Boxed.new (w.alloc (.cells #[.int .i64 t] 3)) 3 (.int .i64 0); rw [World.size_alloc] at this; exact this.alloc _
  have bO : Boxed W0 (w.heap.size + 1 + 1) 4 (.bool false) := by
    rw [← hW0]; have := Boxed.new ((w.alloc (.cells #[.int .i64 t] 3)).alloc (.cells #[.int .i64 0] 3)) 4 (.bool false); rw [World.size_alloc, World.size_alloc] at this; exact this
  have hB0 : Below w.heap.size w W0 := by
    rw [← hW0]; exact (((Below.refl _ w).alloc (Nat.le_refl _) _).alloc (by simp) _).alloc (by simp; omega) _
  rw [hW0]
  clear hW0
  refine range_pre rfl eg (show SeqP Try.prog gf lb nenc (Kpt X) L (W0.heap.size + 2) w by rw [hsz]; exact hseq) (fun h k => h.trans k) (Kpt.put (fun k hk => by have := hX k hk; omega)) hB0 (fun _ => rfl)
    (fun pre W => Boxed W w.heap.size 3 (.int .i64 t) ∧ Boxed W (w.heap.size + 1) 3 (.int .i64 0) ∧ Boxed W (w.heap.size + 1 + 1) 4 (.bool false) ∧ ovr t pre ∧ Below w.heap.size w W)
    (fun c pre W => Lft t w.heap.size c pre W ∧ Below w.heap.size w W)
    (OwnB.and (OwnB.boxed _ _ _ (fun _ => .int .i64 t) (Or.inl (by omega))) (OwnB.and (OwnB.boxed _ _ _ (fun _ => .int .i64 0) (Or.inl (by omega))) (OwnB.and (OwnB.boxed _ _ _ (fun _ => .bool false) (Or.inl (by omega))) (OwnB.and (OwnB.pure _ (fun pre => ovr t pre)) (OwnB.below (Nat.le_refl _) (by omega))))))
    (fun c => OwnB.and (lft_own t w.heap.size _ (by omega) c) (OwnB.below (Nat.le_refl _) (by omega)))
    ⟨bT, bN, bO, (fun x h => by cases h), hB0⟩
    (fun x a' W => ∃ Bx, w.heap.size + 3 ≤ Bx ∧ W.heap[Bx]? = some (.cells #[.int .i64 x.2.t, .string x.2.d] EnT (0, 0)) ∧ a' = { tmps := #[.int .i64 t, .func (.func gf) #[] lb, ptr w.heap.size, undef, ptr (w.heap.size + 1), ptr (w.heap.size + 1 + 1), .int .i64 x.1, ptr Bx, .func (.func gf) #[] lb, .int .i64 x.1, ev x.2, undef, undef, undef, undef, undef, undef, undef, undef, undef], defers := [] })
    (fun x a' => ownFrom_ex fun Bx => OwnFrom.and (ownFrom_pure _ (fun _ => w.heap.size + 3 ≤ Bx)) (OwnFrom.and (ownFrom_block _ Bx (fun _ => #[.int .i64 x.2.t, .string x.2.d]) EnT) (ownFrom_pure _ (fun _ => a' = _))))
    ?assign ?body ?done ?stop
  case assign =>
    rintro l pre x W K ⟨h1, h2, h3, h4, h5⟩ hK
    have hz := h5.size
    have hz3 := h3.lt
    dsimp only [nenc, ev]
    gi_wp2
    exact hK _ _ ((KeepsOthers.alloc W _).from _) (Kpt.alloc (fun k hk => by have := hX k hk; omega) _) ⟨h1.alloc _, h2.alloc _, h3.alloc _, h4, h5.alloc hz _⟩ ⟨W.heap.size, by omega, World.alloc_heap_new W _, rfl⟩
  case body =>
    rintro l pre x a' W hl hpre ⟨h1, h2, h3, h4, h5⟩ ⟨Bx, hBx, hx, rfl⟩
    obtain ⟨n, y, d⟩ := x
    dsimp only at hx
    dsimp only [ev]
    have x0 : W.cell? ⟨Bx, 0, none⟩ = some (.int .i64 y) := by rw [cell_of_block hx]; rfl
    have c1 := h1.cell
    have c2 := h2.cell
    have c3 := h3.cell
    have f2 := h2.frozen
    have f3 := h3.frozen
    have H2 := hide h2
    have H3 := hide h3
    have H := hide (And.intro h1 (And.intro h4 h5))
    have q1 : w.heap.size ≤ w.heap.size + 1 := by omega
    have q2 : w.heap.size ≤ w.heap.size + 1 + 1 := by omega
    have Q1 := hide q1
    have Q2 := hide q2
    clear h1 h2 h3 h4 h5 hx hpre hseq q1 q2
    by_cases he : y = t
    · have hee : (y == t) = true := by simp [he]
      have HE := hide he
      clear he
      gi_wp2
      exact ⟨((KeepsOthers.setCell _ _ _).trans (KeepsOthers.setCell _ _ _)).from _, Kpt.below (((Below.refl w.heap.size W).setCell (p := ⟨w.heap.size + 1, 0, none⟩) Q1.out _).setCell (p := ⟨w.heap.size + 1 + 1, 0, none⟩) Q2.out _) hX,
        Or.inl ⟨rfl, pre, _, rfl, H.out.2.1, HE.out, (H2.out.set _).other (by omega) _, (H3.out.other (by omega) _).set _⟩, (H.out.2.2.setCell (p := ⟨w.heap.size + 1, 0, none⟩) Q1.out _).setCell (p := ⟨w.heap.size + 1 + 1, 0, none⟩) Q2.out _⟩
    · have hee : (y == t) = false := by simp [he]
      by_cases hlt : y < t
      · have HE := hide hlt
        clear he
        gi_wp2
        exact ⟨KeepsFrom.refl _ _, Kpt.refl _ _, Or.inr ⟨rfl, ⟨pre, _, rfl, H.out.2.1, HE.out⟩, H2.out, H3.out⟩, H.out.2.2⟩
      · have HE := hide (show t < y by omega)
        clear he
        gi_wp2
        exact ⟨KeepsFrom.refl _ _, Kpt.refl _ _, H.out.1, H2.out, H3.out, ovr_snoc H.out.2.1 HE.out, H.out.2.2⟩
  case done =>
    rintro D W hD ⟨h1, h2, h3, h4, h5⟩ hK
    have HF := hide (fo_none h4)
    have c2 := h2.cell
    have c3 := h3.cell
    have f2 := h2.frozen
    have f3 := h3.frozen
    have H2 := hide h2
    have H3 := hide h3
    have H5 := hide h5
    have HK := hide hK
    clear h2 h3 h5 hK hseq
    gi_wp2
    have hK' : ((W.setCell ⟨w.heap.size + 1, 0, none⟩ (.int .i64 0)).setCell ⟨w.heap.size + 1 + 1, 0, none⟩ (.bool false)).heap[D]? = some (.deferred (some [])) := ((KeepsOthers.setCell W ⟨w.heap.size + 1, 0, none⟩ (.int .i64 0)).trans (KeepsOthers.setCell _ ⟨w.heap.size + 1 + 1, 0, none⟩ (.bool false))).same D _ HK.out rfl
    refine ⟨by simp, .inl ⟨_, _, rfl, run_takeDeferred hK', ?_⟩⟩
    have k2 := cell_kept (((H2.out.set (.int .i64 0)).other (B' := w.heap.size + 1 + 1) (by omega) (.bool false))).cell (grownBy_putObj' _ D (.deferred none)) (fun r e => by cases e; exact ⟨_, hK', rfl⟩)
    have k3 := cell_kept ((H3.out.other (B' := w.heap.size + 1) (by omega) (.int .i64 0)).set (.bool false)).cell (grownBy_putObj' _ D (.deferred none)) (fun r e => by cases e; exact ⟨_, hK', rfl⟩)
    refine ⟨.tuple #[.int .i64 0, .bool false], ?_, by rw [HF.out]; rfl, ((H5.out.setCell (p := ⟨w.heap.size + 1, 0, none⟩) (show w.heap.size ≤ w.heap.size + 1 by omega) _).setCell (p := ⟨w.heap.size + 1 + 1, 0, none⟩) (show w.heap.size ≤ w.heap.size + 1 + 1 by omega) _).trans (belowK_b (w := w) (Nat.le_refl _) _ D _ _ (by omega) hK' rfl rfl)⟩
    simp [results, Try.f22, go_sem, k2, k3]
  case stop =>
    rintro D c pre W hD hpre ⟨h, h5⟩ hK
    rcases h with ⟨rfl, q, x, rfl, g1, g2, h2, h3⟩ | ⟨rfl, ⟨q, x, rfl, g1, g2⟩, h2, h3⟩
    · have HF := hide (fo_hit g1 hpre g2)
      gi_wp2
      refine ⟨by simp, .inl ⟨_, _, rfl, run_takeDeferred hK, ?_⟩⟩
      have k2 := cell_kept h2.cell (grownBy_putObj' _ D (.deferred none)) (fun r e => by cases e; exact ⟨_, hK, rfl⟩)
      have k3 := cell_kept h3.cell (grownBy_putObj' _ D (.deferred none)) (fun r e => by cases e; exact ⟨_, hK, rfl⟩)
      refine ⟨.tuple #[.int .i64 (x.1 : Int), .bool true], ?_, by rw [HF.out]; rfl, h5.trans (belowK_b (w := w) (Nat.le_refl _) W D _ _ (by omega) hK rfl rfl)⟩
      simp [results, Try.f22, go_sem, k2, k3]
    · have HF := hide (fo_miss g1 hpre g2)
      have c2 := h2.cell
      have c3 := h3.cell
      have f2 := h2.frozen
      have f3 := h3.frozen
      have H2 := hide h2
      have H3 := hide h3
      have H5 := hide h5
      have HK := hide hK
      clear h2 h3 h5 hK hseq
      gi_wp2
      have hK' : ((W.setCell ⟨w.heap.size + 1, 0, none⟩ (.int .i64 0)).setCell ⟨w.heap.size + 1 + 1, 0, none⟩ (.bool false)).heap[D]? = some (.deferred (some [])) := ((KeepsOthers.setCell W ⟨w.heap.size + 1, 0, none⟩ (.int .i64 0)).trans (KeepsOthers.setCell _ ⟨w.heap.size + 1 + 1, 0, none⟩ (.bool false))).same D _ HK.out rfl
      refine ⟨by simp, .inl ⟨_, _, rfl, run_takeDeferred hK', ?_⟩⟩
      have k2 := cell_kept (((H2.out.set (.int .i64 0)).other (B' := w.heap.size + 1 + 1) (by omega) (.bool false))).cell (grownBy_putObj' _ D (.deferred none)) (fun r e => by cases e; exact ⟨_, hK', rfl⟩)
      have k3 := cell_kept ((H3.out.other (B' := w.heap.size + 1) (by omega) (.int .i64 0)).set (.bool false)).cell (grownBy_putObj' _ D (.deferred none)) (fun r e => by cases e; exact ⟨_, hK', rfl⟩)
      refine ⟨.tuple #[.int .i64 0, .bool false], ?_, by rw [HF.out]; rfl, ((H5.out.setCell (p := ⟨w.heap.size + 1, 0, none⟩) (show w.heap.size ≤ w.heap.size + 1 by omega) _).setCell (p := ⟨w.heap.size + 1 + 1, 0, none⟩) (show w.heap.size ≤ w.heap.size + 1 + 1 by omega) _).trans (belowK_b (w := w) (Nat.le_refl _) _ D _ _ (by omega) hK' rfl rfl)⟩
      simp [results, Try.f22, go_sem, k2, k3]

end Go.Proofs.Ytckomhaobdaipaa.Rl
