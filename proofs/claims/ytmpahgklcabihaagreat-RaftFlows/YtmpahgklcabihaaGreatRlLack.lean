/- Walks over rlog: lacking, its iterator. -/
import Derived.Test.YtmpahgklcabihaaGreatRlSeq
namespace Go.Proofs.YtmpahgklcabihaaGreat.Rl
open Go.RowKit Go.Joins Gk

attribute [local go_sem] Oper.semAt_some

/-- the log has such an entry, at that number -/
def hs (S : Lo) (x : Nat × En) : Bool := decide ((S.b : Int) ≤ (x.1 : Int) ∧ (x.1 : Int) ≤ (S.last : Int)) && (S.tm x.1 == x.2.t)
/-- from the first on that it has not -/
def lck (S : Lo) (L : List (Nat × En)) : List (Nat × En) := L.dropWhile (hs S)
theorem lck_append (S : Lo) (a b : List (Nat × En)) : lck S (a ++ b) = if lck S a = [] then lck S b else lck S a ++ b := by
  induction a with
  | nil => rfl
  | cons x r ih =>
    unfold lck at *
    rw [List.cons_append, List.dropWhile_cons, List.dropWhile_cons]
    split
    · exact ih
    · simp
theorem lck_one (S : Lo) (x : Nat × En) : lck S [x] = if hs S x then [] else [x] := by rw [lck, List.dropWhile_cons]; rfl
theorem lck_pre {S : Lo} {pre L : List (Nat × En)} {x : Nat × En} (h : pre ++ [x] <+: L) (hn : lck S pre ≠ [] ∨ hs S x = false) : lck S (pre ++ [x]) = lck S pre ++ [x] ∧ lck S pre ++ [x] <+: lck S L := by
  have h1 : lck S (pre ++ [x]) = lck S pre ++ [x] := by
    rw [lck_append]
    split
    · rename_i h0
      rcases hn with hn | hn
      · exact absurd h0 hn
      · rw [lck_one, hn, h0]; rfl
    · rfl
  refine ⟨h1, ?_⟩
  obtain ⟨r, rfl⟩ := h
  rw [lck_append, h1, if_neg (by simp)]
  exact List.prefix_append _ _

abbrev YT : TypeId := 246
abbrev SqT : TypeId := 153
abbrev PLT : TypeId := 79
/-- cells of other types than a log's stay -/
def Kty (W W' : World) : Prop := ∀ (k : Nat) (cs : Array Value) (t : TypeId), W.heap[k]? = some (.cells cs t (0, 0)) → t ≠ LogT → t ≠ EnT → t ≠ 3 → W'.heap[k]? = some (.cells cs t (0, 0))
def Kp2 (X : Nat → Prop) (Bk : Nat) (W W' : World) : Prop := Kpt X W W' ∧ Kty W W' ∧ KeepsFrom Bk W W'
theorem Kp2.trans {X : Nat → Prop} {Bk : Nat} {a b c : World} (h : Kp2 X Bk a b) (k : Kp2 X Bk b c) : Kp2 X Bk a c := ⟨h.1.trans k.1, fun i cs t hi h1 h2 h3 => k.2.1 i cs t (h.2.1 i cs t hi h1 h2 h3) h1 h2 h3, h.2.2.trans k.2.2⟩
theorem Kp2.put {X : Nat → Prop} {l Bk : Nat} (hX : ∀ k, X k → k < l) (hB : l < Bk) (W : World) (o o' : Obj) (h1 : W.heap[l]? = some o) (h2 : o.isCells = false) (h3 : o.isWalk = false) : Kp2 X Bk W (W.putObj l o') :=
  ⟨Kpt.put hX W o o' h1 h2 h3, fun k cs t hk _ _ _ => (World.putObj_heap_other (fun e => by rw [e, h1] at hk; cases hk; cases h2)).trans hk, (grownBy_putObj' W l o').size, fun k ob hk0 hk _ => (World.putObj_heap_other (by omega)).trans hk⟩

set_option maxHeartbeats 1000000 in
theorem lacking_any (bl gf : Nat) (lb : Array Value) (w : World) :
    Calls Tryz.prog 143 #[ptr bl, .func (.func gf) #[] lb] w fun e w' => e = .returned (.func (.func 186) #[] #[ptr (w.heap.size + 1), ptr w.heap.size]) ∧ w' = (w.alloc (.cells #[ptr bl] PLT)).alloc (.cells #[.func (.func gf) #[] lb] SqT) := by
  go_enter Tryz.func143, Tryz.ntmps143
  go_wp2
  go_ret
  exact ⟨rfl, rfl⟩

theorem lh_own (bl : Nat) (S : Lo) (v : Value) (B : Nat) {β : Type} : OwnB B (fun (_ : β) W => LH W bl S v) := fun s W W' row h hg hr =>
  h.stay fun k hk => hg.block k (h.ownlt hk) (fun e => by
    obtain ⟨_, o, ho, hc⟩ := hr k e.symm
    rcases hk with rfl | hk
    · rw [h.box] at ho; cases ho; rcases hc with hc | ⟨_, hc⟩ <;> cases hc
    · rw [h.lbk] at hk
      rcases h.row with ⟨rfl, _⟩ | ⟨g, o', cap, cur, rfl, hg', _⟩
      · cases hk
      · cases hk; rw [hg'] at ho; cases ho; rcases hc with hc | ⟨_, hc⟩ <;> cases hc)
theorem kpt_own (X : Nat → Prop) (W0 : World) (hX : ∀ k, X k → k < W0.heap.size) (B : Nat) (hB : W0.heap.size ≤ B) {β : Type} : OwnB B (fun (_ : β) W => Kpt X W0 W) := fun s W W' row h hg hr =>
  h.trans (Kpt.grown hg fun k hk => ⟨Nat.lt_of_lt_of_le (hX k hk) h.1, fun e => by have := (hr k e.symm).1; have := hX k hk; omega⟩)

/-- the worlds of a round, till its flag is written and behind that -/
def S5 (W1 : World) (B0 : Nat) (bv : Bool) (W' : World) : Prop := (∃ q, W' = W1.drewN q) ∨ ∃ q, W' = (W1.drewN q).setCell ⟨B0 + 1, 0, none⟩ (.bool bv)

set_option maxRecDepth 100000 in
set_option maxHeartbeats 8000000 in
theorem lack_in (l Be Bl bl gf : Nat) (lb : Array Value) (S : Lo) (v : Value) (L : List (Nat × En)) (X : Nat → Prop) (w W : World) (hW : Below w.heap.size w W) (eg : ∀ args w, (callFunc gf args).run Tryz.prog w = .ok (.enter gf args) w) (Bk : Nat) (hBk : Bk ≤ W.heap.size) (hseq : SeqP Tryz.prog gf lb nenc (Kpt X) L (W.heap.size + 4) w) (hX : ∀ k, X k → k < w.heap.size)
    (hS : LH W bl S v) (hbd : S.b + S.es.length ≤ 1048577) (hBel : Be < W.heap.size) (hBe : W.cell? ⟨Be, 0, none⟩ = some (.func (.func gf) #[] lb)) (hBl : W.cell? ⟨Bl, 0, none⟩ = some (ptr bl)) (hXl : X Bl)
    (J Jx : List (Nat × En) → World → Prop) (hA : OwnB W.heap.size J) (hAx : OwnB W.heap.size Jx) (hY : ∀ pre x W1, J pre W1 → pre ++ [x] <+: lck S L → YieldAt Fence.wide 9 Tryz.prog l (nenc x) W1 (TolP (Kp2 X Bk) J Jx pre x W1)) (h0 : J [] W) :
    CallsIn Fence.wide 9 Tryz.prog 186 #[.func (.yield l) #[] #[], ptr Be, ptr Bl] W fun e W' => (∃ v, e = .returned v) ∧ (J (lck S L) W' ∨ ∃ pre, pre <+: lck S L ∧ Jx pre W') := by
  have hzW := hW.size
  refine callsIn_of_wp_marks Tryz.func186 rfl trivial ?_ rfl
  simp only [Tryz.ntmps186, List.size_toArray, List.length_cons, List.length_nil, Nat.reduceAdd, Nat.reduceSub, Array.replicate_succ, Array.replicate_zero, List.push_toArray, List.append_toArray, List.nil_append, List.cons_append]
  gi_wp2
  obtain ⟨W0, hW0⟩ : ∃ W0, (W.alloc (.cells #[.func (.yield l) #[] #[]] YT)).alloc (.cells #[.bool false] 4) = W0 := ⟨_, rfl⟩
  have hsz : W0.heap.size = W.heap.size + 2 := by rw [← hW0]; simp
  have bY : Boxed W0 W.heap.size YT (.func (.yield l) #[] #[]) := by rw [← hW0]; exact (Boxed.new W _ _).alloc _
  have bL : Boxed W0 (W.heap.size + 1) 4 (.bool false) := by
    rw [← hW0]; have := Boxed.new (W.alloc (.cells #[.func (.yield l) #[] #[]] YT)) 4 (.bool false); rw [World.size_alloc] at this; exact this
  have hB0 : Below W.heap.size W W0 := by rw [← hW0]; exact ((Below.refl _ W).alloc (Nat.le_refl _) _).alloc (by simp) _
  have hJ0 : J [] W0 := by rw [← hW0]; exact hA.alloc _ (hA.alloc _ h0)
  rw [hW0]
  clear hW0
  have hS0 := hS.below hB0
  generalize hB0e : W.heap.size = B0 at *
  refine range_pre rfl eg (show SeqP Tryz.prog gf lb nenc (Kpt X) L (W0.heap.size + 2) w by rw [hsz]; exact hseq) (fun h k => h.trans k) (Kpt.put (fun k hk => by have := hX k hk; omega)) (hW.trans (hB0.mono (by omega))) (fun _ => rfl)
    (fun pre W' => Boxed W' B0 YT (.func (.yield l) #[] #[]) ∧ Boxed W' (B0 + 1) 4 (.bool (!(lck S pre).isEmpty)) ∧ (lck S pre = [] → LH W' bl S v) ∧ J (lck S pre) W' ∧ Kpt X W W')
    (fun c pre W' => c = .ret ∧ Jx (lck S pre) W' ∧ lck S pre <+: lck S L)
    (OwnB.and (OwnB.boxed _ _ _ (fun _ => .func (.yield l) #[] #[]) (Or.inl (by omega))) (OwnB.and (OwnB.boxed _ _ _ (fun pre => .bool (!(lck S pre).isEmpty)) (Or.inl (by omega))) (OwnB.and (OwnB.imp (p := fun pre => lck S pre = []) (lh_own bl S v _)) (OwnB.and (OwnB.comp (OwnB.up hA (by omega)) (lck S)) (kpt_own X W (fun k hk => by have := hX k hk; omega) _ (by omega))))))
    (fun c => OwnB.and (OwnB.pure _ (fun _ => c = .ret)) (OwnB.and (OwnB.comp (OwnB.up hAx (by omega)) (lck S)) (OwnB.pure _ (fun pre => lck S pre <+: lck S L))))
    ⟨bY, bL, fun _ => hS0, hJ0, Kpt.below hB0 (fun k hk => by have := hX k hk; omega)⟩
    (fun x a' W' => ∃ Bx, B0 + 2 ≤ Bx ∧ W'.heap[Bx]? = some (.cells #[.int .i64 x.2.t, .string x.2.d] EnT (0, 0)) ∧ a' = { tmps := #[.func (.yield l) #[] #[], ptr Be, ptr Bl, ptr B0, ptr (B0 + 1), .int .i64 x.1, ptr Bx, .func (.func gf) #[] lb, .int .i64 x.1, ev x.2, undef, undef, undef, undef, undef, undef, undef, undef, undef, undef, undef, undef, undef, undef, undef, undef, undef, undef, undef, undef, undef, undef, undef], defers := [] })
    (fun x a' => ownFrom_ex fun Bx => OwnFrom.and (ownFrom_pure _ (fun _ => B0 + 2 ≤ Bx)) (OwnFrom.and (ownFrom_block _ Bx (fun _ => #[.int .i64 x.2.t, .string x.2.d]) EnT) (ownFrom_pure _ (fun _ => a' = _))))
    ?assign ?body ?done ?stop
  case assign =>
    rintro l' pre x W1 K ⟨h1, h2, h3, h4, h5⟩ hK
    have hz2 := h2.lt
    have hz5 := h5.1
    dsimp only [nenc, ev]
    gi_wp2
    exact hK _ _ ((KeepsOthers.alloc W1 _).from _) (Kpt.alloc (fun k hk => by have := hX k hk; omega) _) ⟨h1.alloc _, h2.alloc _, fun h => (h3 h).below ((Below.refl _ W1).alloc (Nat.le_refl _) _), (hA.alloc _ h4), h5.trans (Kpt.alloc (fun k hk => by have := hX k hk; omega) _)⟩ ⟨W1.heap.size, by omega, World.alloc_heap_new W1 _, rfl⟩
  case body =>
    rintro l' pre x a' W1 hl' hpre ⟨h1, h2, h3, h4, h5⟩ ⟨Bx, hBx, hx, rfl⟩
    obtain ⟨n, y, d⟩ := x
    dsimp only at hx
    dsimp only [ev]
    have x0 : W1.cell? ⟨Bx, 0, none⟩ = some (.int .i64 y) := by rw [cell_of_block hx]; rfl
    have x1 : W1.cell? ⟨Bx, 1, none⟩ = some (.string d) := by rw [cell_of_block hx]; rfl
    have c1 := h1.cell
    have c2 := h2.cell
    have f2 := h2.frozen
    have cl := (h5.cell hXl (o := 0)).trans hBl
    have nl : Bl ≠ B0 + 1 := by have := hX _ hXl; omega
    have nx : Bx ≠ B0 + 1 := by omega
    have HC := hide (show ∀ bv W', S5 W1 B0 bv W' → W'.cell? ⟨Bl, 0, none⟩ = some (ptr bl) ∧ W'.cell? ⟨Bx, 0, none⟩ = some (.int .i64 y) by
      rintro bv W' (⟨q, rfl⟩ | ⟨q, rfl⟩)
      · exact ⟨cl, x0⟩
      · exact ⟨(World.cell?_setCell_far _ _ _ _ (fun e => nl e.symm)).trans cl, (World.cell?_setCell_far _ _ _ _ (fun e => nx e.symm)).trans x0⟩)
    have hn1 : B0 ≠ B0 + 1 := by omega
    have HE := hide (show ∀ q bv, ∀ A, A = (W1.drewN q).setCell ⟨B0 + 1, 0, none⟩ (.bool bv) → Boxed A B0 YT (.func (.yield l) #[] #[]) ∧ Boxed A (B0 + 1) 4 (.bool bv) ∧ J (lck S pre) A ∧ Kpt X W1 A ∧ KeepsFrom W0.heap.size W1 A ∧ A.cell? ⟨Bx, 0, none⟩ = some (.int .i64 y) ∧ A.cell? ⟨Bx, 1, none⟩ = some (.string d) ∧ (LH W1 bl S v → LH A bl S v) by
      rintro q bv A rfl
      have hg : W1.grownBy ((W1.drewN q).setCell ⟨B0 + 1, 0, none⟩ (.bool bv)) (some (B0 + 1)) := grown_trans (grown_drewN W1 q _) (grown_set _ _ _ _)
      refine ⟨Boxed.other (W := W1.drewN q) h1 (by omega) _, Boxed.set (W := W1.drewN q) _ h2, hA _ _ _ _ h4 hg (fun r e => by cases e; exact ⟨by omega, _, h2, Or.inr ⟨_, rfl⟩⟩), Kpt.grown hg (fun k hk => ⟨by have := hX k hk; have := h5.1; omega, fun e => by cases e; have := hX _ hk; omega⟩), ⟨(keeps_set 0 (W1.drewN q) _ _ _ h2).size, fun k o _ hk hc => (keeps_set 0 (W1.drewN q) _ _ _ h2).same k o (Nat.zero_le _) hk hc⟩, (World.cell?_setCell_far _ _ _ _ (fun e => nx e.symm)).trans x0, (World.cell?_setCell_far _ _ _ _ (fun e => nx e.symm)).trans x1, fun hL => hL.stay fun k hk => hg.block k (hL.ownlt hk) (fun e => by
        cases e
        rcases hk with hk | hk
        · have := hL.box; rw [← hk, show W1.heap[B0 + 1]? = _ from h2] at this; cases this
        · rw [hL.lbk] at hk; exact hL.row.ne h2 (by decide) hk rfl)⟩)
    have H3 := hide h3
    have H5 := hide h5
    have HP := hide hpre
    clear h1 h2 h3 h4 h5 hx hpre hseq
    by_cases hp : lck S pre = []
    · have hL := H3.out hp
      rw [hp] at c2
      replace c2 : W1.cell? ⟨B0 + 1, 0, none⟩ = some (.bool false) := c2
      have HK := hide (fun q => knows_any bl S v n (W1.drewN q) (hL.drewN q) hbd)
      by_cases hk : (S.b : Int) ≤ (n : Int) ∧ (n : Int) ≤ (S.last : Int)
      · have HT := hide (fun q => termAt_any bl S v n (W1.drewN q) (hL.drewN q) hbd (by omega) (by omega))
        rw [show decide ((S.b : Int) ≤ (n : Int) ∧ (n : Int) ≤ (S.last : Int)) = true from decide_eq_true hk] at HK
        have hhs : hs S (n, ⟨y, d⟩) = (S.tm n == y) := by unfold hs; rw [decide_eq_true hk]; rfl
        generalize S.tm n = tn at *
        obtain ⟨bv, hbv⟩ : ∃ bv, (tn != y) = bv := ⟨_, rfl⟩
        have HC := hide (HC.out bv)
        have HL := hide hL
        have HHS := hide hhs
        have HHP := hide hp
        have HKN := hide hk
        clear hL hhs hp hk
        gi_wp2
        refine held_round (S := S5 W1 B0 bv) (by kernel_rfl) ?lo (by kernel_rfl) (Or.inl ⟨1, rfl⟩) (fun hHeld => ?_)
        case lo => rintro ⟨_, _, h⟩; exact h
        refine wpAnyH_ready (rs := [0]) (by kernel_rfl) (by simp) ?_
        refine AllReadyH.cons rfl (fun K hK => ?_) AllReadyH.nil
        go_simp
        refine hK.out _ _ (Or.inl ⟨1, rfl⟩) (fun hHeld0 => ?_)
        clear hK K hHeld
        try simp only [Act.put, List.setIfInBounds_toArray, List.set_cons_zero, List.set_cons_succ]
        refine take_held (i := 1) (dst := some 11) (v := ?_) rfl (by kernel_rfl) (by kernel_rfl) (by kernel_rfl) (by kernel_rfl) (fun _ _ _ h => h) (Or.inl ⟨by kernel_rfl, ?_⟩) (by assumption) ?_
        rotate_left
        · intro w hSw; obtain ⟨kl, kx⟩ := HC.out w hSw; go_simp; try with_reducible rfl
        simp only [Act.put, List.setIfInBounds_toArray, List.set_cons_zero, List.set_cons_succ]
        refine take_held (i := 2) (dst := some 12) (v := ?_) rfl (by kernel_rfl) (by kernel_rfl) (by kernel_rfl) (by kernel_rfl) (fun _ _ _ h => h) (Or.inl ⟨by kernel_rfl, ?_⟩) (by assumption) ?_
        rotate_left
        · intro w hSw; obtain ⟨kl, kx⟩ := HC.out w hSw; go_simp; try with_reducible rfl
        simp only [Act.put, List.setIfInBounds_toArray, List.set_cons_zero, List.set_cons_succ]
        refine take_held (i := 3) (dst := some 13) (v := ?_) rfl (by kernel_rfl) (by kernel_rfl) (by kernel_rfl) (by kernel_rfl) (fun _ _ _ h => h) (Or.inl ⟨by kernel_rfl, ?_⟩) (by assumption) ?_
        rotate_left
        · intro w hSw; obtain ⟨kl, kx⟩ := HC.out w hSw; go_simp; try with_reducible rfl
        simp only [Act.put, List.setIfInBounds_toArray, List.set_cons_zero, List.set_cons_succ]
        refine wpAnyH_ready (rs := [4]) (by kernel_rfl) (by simp) ?_
        refine AllReadyH.cons rfl (fun K hK => ?_) AllReadyH.nil
        go_simp
        go_at_call 141
        refine (HK.out 1).mono ?_
        rintro e w2 ⟨rfl, q1, rfl⟩
        refine hK.out _ _ (Or.inl ⟨1 + q1, (World.drewN_drewN _ _ _)⟩) (fun hHeld1 => ?_)
        clear hK K hHeld0
        try simp only [Act.put, List.setIfInBounds_toArray, List.set_cons_zero, List.set_cons_succ]
        refine take_held (i := 5) (dst := some 15) (v := ?_) rfl (by kernel_rfl) (by kernel_rfl) (by kernel_rfl) (by kernel_rfl) (fun _ _ _ h => h) (Or.inl ⟨by kernel_rfl, ?_⟩) (by assumption) ?_
        rotate_left
        · intro w hSw; obtain ⟨kl, kx⟩ := HC.out w hSw; go_simp; try with_reducible rfl
        simp only [Act.put, List.setIfInBounds_toArray, List.set_cons_zero, List.set_cons_succ]
        refine take_held (i := 6) (dst := some 16) (v := ?_) rfl (by kernel_rfl) (by kernel_rfl) (by kernel_rfl) (by kernel_rfl) (fun _ _ _ h => h) (Or.inl ⟨by kernel_rfl, ?_⟩) (by assumption) ?_
        rotate_left
        · intro w hSw; obtain ⟨kl, kx⟩ := HC.out w hSw; go_simp; try with_reducible rfl
        simp only [Act.put, List.setIfInBounds_toArray, List.set_cons_zero, List.set_cons_succ]
        refine take_held (i := 7) (dst := some 17) (v := ?_) rfl (by kernel_rfl) (by kernel_rfl) (by kernel_rfl) (by kernel_rfl) (fun _ _ _ h => h) (Or.inl ⟨by kernel_rfl, ?_⟩) (by assumption) ?_
        rotate_left
        · intro w hSw; obtain ⟨kl, kx⟩ := HC.out w hSw; go_simp; try with_reducible rfl
        simp only [Act.put, List.setIfInBounds_toArray, List.set_cons_zero, List.set_cons_succ]
        refine take_held (i := 8) (dst := some 18) (v := ?_) rfl (by kernel_rfl) (by kernel_rfl) (by kernel_rfl) (by kernel_rfl) (fun _ _ _ h => h) (Or.inl ⟨by kernel_rfl, ?_⟩) (by assumption) ?_
        rotate_left
        · intro w hSw; obtain ⟨kl, kx⟩ := HC.out w hSw; go_simp; try with_reducible rfl
        simp only [Act.put, List.setIfInBounds_toArray, List.set_cons_zero, List.set_cons_succ]
        refine take_held (i := 9) (dst := some 19) (v := ?_) rfl (by kernel_rfl) (by kernel_rfl) (by kernel_rfl) (by kernel_rfl) (fun _ _ _ h => h) (Or.inl ⟨by kernel_rfl, ?_⟩) (by assumption) ?_
        rotate_left
        · intro w hSw; obtain ⟨kl, kx⟩ := HC.out w hSw; go_simp; try with_reducible rfl
        simp only [Act.put, List.setIfInBounds_toArray, List.set_cons_zero, List.set_cons_succ]
        refine take_held (i := 11) (dst := some 21) (v := ?_) rfl (by kernel_rfl) (by kernel_rfl) (by kernel_rfl) (by kernel_rfl) (fun _ _ _ h => h) (Or.inl ⟨by kernel_rfl, ?_⟩) (by assumption) ?_
        rotate_left
        · intro w hSw; obtain ⟨kl, kx⟩ := HC.out w hSw; go_simp; try with_reducible rfl
        simp only [Act.put, List.setIfInBounds_toArray, List.set_cons_zero, List.set_cons_succ]
        refine take_held (i := 12) (dst := some 22) (v := ?_) rfl (by kernel_rfl) (by kernel_rfl) (by kernel_rfl) (by kernel_rfl) (fun _ _ _ h => h) (Or.inl ⟨by kernel_rfl, ?_⟩) (by assumption) ?_
        rotate_left
        · intro w hSw; obtain ⟨kl, kx⟩ := HC.out w hSw; go_simp; try with_reducible rfl
        simp only [Act.put, List.setIfInBounds_toArray, List.set_cons_zero, List.set_cons_succ]
        refine wpAnyH_ready (rs := [10]) (by kernel_rfl) (by simp) ?_
        refine AllReadyH.cons rfl (fun K hK => ?_) AllReadyH.nil
        go_simp
        go_at_call 125
        refine (HT.out _).mono ?_
        rintro e w3 ⟨rfl, q2, rfl⟩
        refine hK.out _ _ (Or.inl ⟨_, (World.drewN_drewN _ _ _)⟩) (fun hHeld2 => ?_)
        clear hK K hHeld1
        try simp only [Act.put, List.setIfInBounds_toArray, List.set_cons_zero, List.set_cons_succ]
        refine take_held (i := 13) (dst := some 23) (v := ?_) rfl (by kernel_rfl) (by kernel_rfl) (by kernel_rfl) (by kernel_rfl) (fun _ _ _ h => h) (Or.inl ⟨by kernel_rfl, ?_⟩) (by assumption) ?_
        rotate_left
        · intro w hSw; obtain ⟨kl, kx⟩ := HC.out w hSw; go_simp; try with_reducible rfl
        simp only [Act.put, List.setIfInBounds_toArray, List.set_cons_zero, List.set_cons_succ]
        refine take_held (i := 14) (dst := some 24) (v := ?_) rfl (by kernel_rfl) (by kernel_rfl) (by kernel_rfl) (by kernel_rfl) (fun _ _ _ h => h) (Or.inl ⟨by kernel_rfl, ?_⟩) (by assumption) ?_
        rotate_left
        · intro w hSw; obtain ⟨kl, kx⟩ := HC.out w hSw; go_simp; try with_reducible rfl
        simp only [Act.put, List.setIfInBounds_toArray, List.set_cons_zero, List.set_cons_succ]
        refine wpAnyH_ready (rs := [15]) (by kernel_rfl) (by simp) ?_
        refine AllReadyH.cons rfl (fun K hK => ?_) AllReadyH.nil
        go_simp
        refine hK.out _ _ (Or.inr ⟨_, rfl⟩) (fun hHeld3 => ?_)
        clear hK K
        refine wpAnyH_done (by kernel_rfl) ?_ _
        cases bv
        · have h9 : (tn == y) = true := by simpa using hbv
          have hh : hs S (n, (⟨y, d⟩ : En)) = true := by rw [HHS.out]; exact h9
          have he : lck S (pre ++ [(n, (⟨y, d⟩ : En))]) = [] := by rw [lck_append, if_pos HHP.out, lck_one, hh]; rfl
          have HEQ := hide he
          obtain ⟨A, hA0⟩ : ∃ A, (W1.drewN (1 + q1 + q2)).setCell ⟨B0 + 1, 0, none⟩ (.bool false) = A := ⟨_, rfl⟩
          obtain ⟨bY', bL', hJ', hKp', hKf', ax0, ax1, hLA⟩ := HE.out (1 + q1 + q2) false A hA0.symm
          rw [hA0]
          have cb := bL'.cell
          clear hA0 hHeld3 HC x0 x1 c1 c2 f2 cl h9 hh he hbv
          gi_wp2
          refine ⟨fun _ h => (by cases h), ?_⟩
          gi_wp2
          refine ⟨hKf', hKp', bY', ?_, fun _ => hLA HL.out, by rw [HEQ.out, ← HHP.out]; exact hJ', H5.out.trans hKp'⟩
          rw [HEQ.out]; exact bL'
        · have h9 : (tn == y) = false := by simpa using hbv
          have HQ := hide (show hs S (n, (⟨y, d⟩ : En)) = false by rw [HHS.out]; exact h9)
          clear h9 hbv
          obtain ⟨A, hA0⟩ : ∃ A, (W1.drewN (1 + q1 + q2)).setCell ⟨B0 + 1, 0, none⟩ (.bool true) = A := ⟨_, rfl⟩
          obtain ⟨bY', bL', hJ', hKp', hKf', ax0, ax1, hLA⟩ := HE.out (1 + q1 + q2) true A hA0.symm
          change Exit.then _ _ _ _ ((W1.drewN (1 + q1 + q2)).setCell ⟨B0 + 1, 0, none⟩ (.bool true))
          rw [hA0]
          have hLP := hide (lck_pre (S := S) HP.out (Or.inr HQ.out))
          obtain ⟨fn, tmps, assign, body, hy, hR⟩ := yield_deep (m' := 7) (hY _ _ A hJ' hLP.out.2)
          have ca := bY'.cell
          have cb := bL'.cell
          have e9 := hide (show (!(lck S (pre ++ [(n, (⟨y, d⟩ : En))])).isEmpty) = true by rw [hLP.out.1]; simp)
          dsimp only [nenc, ev] at hy
          clear hA0 hHeld3 HC x0 x1 c1 c2 f2 cl
          gi_wp2
          refine (round_wide hR).mono ?_
          rintro e W3 (⟨rfl, hJ3, hk3⟩ | ⟨rfl, hJx3, hk3⟩)
          · gi_wp2
            refine ⟨hKf'.trans ⟨hk3.2.2.size, fun k o hk => hk3.2.2.same k o (by omega)⟩, hKp'.trans hk3.1, hk3.2.1 _ _ _ bY' (by decide) (by decide) (by decide), ?_, fun h => ?_, by rw [hLP.out.1]; exact hJ3, H5.out.trans (hKp'.trans hk3.1)⟩
            · rw [e9.out]; exact hk3.2.1 _ _ _ bL' (by decide) (by decide) (by decide)
            · rw [hLP.out.1] at h; simp at h
          · gi_wp2
            exact ⟨hKf'.trans ⟨hk3.2.2.size, fun k o hk => hk3.2.2.same k o (by omega)⟩, hKp'.trans hk3.1, rfl, by rw [hLP.out.1]; exact hJx3, by rw [hLP.out.1]; exact hLP.out.2⟩
      · rw [show decide ((S.b : Int) ≤ (n : Int) ∧ (n : Int) ≤ (S.last : Int)) = false from decide_eq_false hk] at HK
        have HC := hide (HC.out true)
        have HHP := hide hp
        have HKN := hide hk
        clear hL hp hk
        gi_wp2
        refine held_round (S := S5 W1 B0 true) (by kernel_rfl) ?lo (by kernel_rfl) (Or.inl ⟨1, rfl⟩) (fun hHeld => ?_)
        case lo => rintro ⟨_, _, h⟩; exact h
        refine wpAnyH_ready (rs := [0]) (by kernel_rfl) (by simp) ?_
        refine AllReadyH.cons rfl (fun K hK => ?_) AllReadyH.nil
        go_simp
        refine hK.out _ _ (Or.inl ⟨1, rfl⟩) (fun hHeld0 => ?_)
        clear hK K hHeld
        try simp only [Act.put, List.setIfInBounds_toArray, List.set_cons_zero, List.set_cons_succ]
        refine take_held (i := 1) (dst := some 11) (v := ?_) rfl (by kernel_rfl) (by kernel_rfl) (by kernel_rfl) (by kernel_rfl) (fun _ _ _ h => h) (Or.inl ⟨by kernel_rfl, ?_⟩) (by assumption) ?_
        rotate_left
        · intro w hSw; obtain ⟨kl, kx⟩ := HC.out w hSw; go_simp; try with_reducible rfl
        simp only [Act.put, List.setIfInBounds_toArray, List.set_cons_zero, List.set_cons_succ]
        refine take_held (i := 2) (dst := some 12) (v := ?_) rfl (by kernel_rfl) (by kernel_rfl) (by kernel_rfl) (by kernel_rfl) (fun _ _ _ h => h) (Or.inl ⟨by kernel_rfl, ?_⟩) (by assumption) ?_
        rotate_left
        · intro w hSw; obtain ⟨kl, kx⟩ := HC.out w hSw; go_simp; try with_reducible rfl
        simp only [Act.put, List.setIfInBounds_toArray, List.set_cons_zero, List.set_cons_succ]
        refine take_held (i := 3) (dst := some 13) (v := ?_) rfl (by kernel_rfl) (by kernel_rfl) (by kernel_rfl) (by kernel_rfl) (fun _ _ _ h => h) (Or.inl ⟨by kernel_rfl, ?_⟩) (by assumption) ?_
        rotate_left
        · intro w hSw; obtain ⟨kl, kx⟩ := HC.out w hSw; go_simp; try with_reducible rfl
        simp only [Act.put, List.setIfInBounds_toArray, List.set_cons_zero, List.set_cons_succ]
        refine wpAnyH_ready (rs := [4]) (by kernel_rfl) (by simp) ?_
        refine AllReadyH.cons rfl (fun K hK => ?_) AllReadyH.nil
        go_simp
        go_at_call 141
        refine (HK.out 1).mono ?_
        rintro e w2 ⟨rfl, q1, rfl⟩
        refine hK.out _ _ (Or.inl ⟨1 + q1, (World.drewN_drewN _ _ _)⟩) (fun hHeld1 => ?_)
        clear hK K hHeld0
        try simp only [Act.put, List.setIfInBounds_toArray, List.set_cons_zero, List.set_cons_succ]
        refine take_held (i := 5) (dst := some 15) (v := ?_) rfl (by kernel_rfl) (by kernel_rfl) (by kernel_rfl) (by kernel_rfl) (fun _ _ _ h => h) (Or.inl ⟨by kernel_rfl, ?_⟩) (by assumption) ?_
        rotate_left
        · intro w hSw; obtain ⟨kl, kx⟩ := HC.out w hSw; go_simp; try with_reducible rfl
        simp only [Act.put, List.setIfInBounds_toArray, List.set_cons_zero, List.set_cons_succ]
        refine take_held (i := 6) (dst := some 16) (v := ?_) rfl (by kernel_rfl) (by kernel_rfl) (by kernel_rfl) (by kernel_rfl) (fun _ _ _ h => h) (Or.inl ⟨by kernel_rfl, ?_⟩) (by assumption) ?_
        rotate_left
        · intro w hSw; obtain ⟨kl, kx⟩ := HC.out w hSw; go_simp; try with_reducible rfl
        simp only [Act.put, List.setIfInBounds_toArray, List.set_cons_zero, List.set_cons_succ]
        refine take_held (i := 7) (dst := some 17) (v := ?_) rfl (by kernel_rfl) (by kernel_rfl) (by kernel_rfl) (by kernel_rfl) (fun _ _ _ h => h) (Or.inl ⟨by kernel_rfl, ?_⟩) (by assumption) ?_
        rotate_left
        · intro w hSw; obtain ⟨kl, kx⟩ := HC.out w hSw; go_simp; try with_reducible rfl
        simp only [Act.put, List.setIfInBounds_toArray, List.set_cons_zero, List.set_cons_succ]
        refine take_held (i := 8) (dst := some 18) (v := undef) rfl (by kernel_rfl) (by kernel_rfl) (by kernel_rfl) (by kernel_rfl) (fun _ _ _ h => h) (Or.inr ⟨by kernel_rfl, rfl⟩) (by assumption) ?_
        simp only [Act.put, List.setIfInBounds_toArray, List.set_cons_zero, List.set_cons_succ]
        refine take_held (i := 9) (dst := some 19) (v := undef) rfl (by kernel_rfl) (by kernel_rfl) (by kernel_rfl) (by kernel_rfl) (fun _ _ _ h => h) (Or.inr ⟨by kernel_rfl, rfl⟩) (by assumption) ?_
        simp only [Act.put, List.setIfInBounds_toArray, List.set_cons_zero, List.set_cons_succ]
        refine take_held (i := 10) (dst := some 20) (v := undef) rfl (by kernel_rfl) (by kernel_rfl) (by kernel_rfl) (by kernel_rfl) (fun _ _ _ h => h) (Or.inr ⟨by kernel_rfl, rfl⟩) (by assumption) ?_
        simp only [Act.put, List.setIfInBounds_toArray, List.set_cons_zero, List.set_cons_succ]
        refine take_held (i := 11) (dst := some 21) (v := undef) rfl (by kernel_rfl) (by kernel_rfl) (by kernel_rfl) (by kernel_rfl) (fun _ _ _ h => h) (Or.inr ⟨by kernel_rfl, rfl⟩) (by assumption) ?_
        simp only [Act.put, List.setIfInBounds_toArray, List.set_cons_zero, List.set_cons_succ]
        refine take_held (i := 12) (dst := some 22) (v := undef) rfl (by kernel_rfl) (by kernel_rfl) (by kernel_rfl) (by kernel_rfl) (fun _ _ _ h => h) (Or.inr ⟨by kernel_rfl, rfl⟩) (by assumption) ?_
        simp only [Act.put, List.setIfInBounds_toArray, List.set_cons_zero, List.set_cons_succ]
        refine take_held (i := 13) (dst := some 23) (v := undef) rfl (by kernel_rfl) (by kernel_rfl) (by kernel_rfl) (by kernel_rfl) (fun _ _ _ h => h) (Or.inr ⟨by kernel_rfl, rfl⟩) (by assumption) ?_
        simp only [Act.put, List.setIfInBounds_toArray, List.set_cons_zero, List.set_cons_succ]
        refine take_held (i := 14) (dst := some 24) (v := ?_) rfl (by kernel_rfl) (by kernel_rfl) (by kernel_rfl) (by kernel_rfl) (fun _ _ _ h => h) (Or.inl ⟨by kernel_rfl, ?_⟩) (by assumption) ?_
        rotate_left
        · intro w hSw; obtain ⟨kl, kx⟩ := HC.out w hSw; go_simp; try with_reducible rfl
        simp only [Act.put, List.setIfInBounds_toArray, List.set_cons_zero, List.set_cons_succ]
        refine wpAnyH_ready (rs := [15]) (by kernel_rfl) (by simp) ?_
        refine AllReadyH.cons rfl (fun K hK => ?_) AllReadyH.nil
        go_simp
        refine hK.out _ _ (Or.inr ⟨_, rfl⟩) (fun hHeld3 => ?_)
        clear hK K
        refine wpAnyH_done (by kernel_rfl) ?_ _
        have HQ := hide (show hs S (n, (⟨y, d⟩ : En)) = false by unfold hs; rw [decide_eq_false HKN.out]; rfl)
        obtain ⟨A, hA0⟩ : ∃ A, (W1.drewN (1 + q1)).setCell ⟨B0 + 1, 0, none⟩ (.bool true) = A := ⟨_, rfl⟩
        obtain ⟨bY', bL', hJ', hKp', hKf', ax0, ax1, hLA⟩ := HE.out (1 + q1) true A hA0.symm
        change Exit.then _ _ _ _ ((W1.drewN (1 + q1)).setCell ⟨B0 + 1, 0, none⟩ (.bool true))
        rw [hA0]
        have hLP := hide (lck_pre (S := S) HP.out (Or.inr HQ.out))
        obtain ⟨fn, tmps, assign, body, hy, hR⟩ := yield_deep (m' := 7) (hY _ _ A hJ' hLP.out.2)
        have ca := bY'.cell
        have cb := bL'.cell
        have e9 := hide (show (!(lck S (pre ++ [(n, (⟨y, d⟩ : En))])).isEmpty) = true by rw [hLP.out.1]; simp)
        dsimp only [nenc, ev] at hy
        clear hA0 hHeld3 HC x0 x1 c1 c2 f2 cl
        gi_wp2
        refine (round_wide hR).mono ?_
        rintro e W3 (⟨rfl, hJ3, hk3⟩ | ⟨rfl, hJx3, hk3⟩)
        · gi_wp2
          refine ⟨hKf'.trans ⟨hk3.2.2.size, fun k o hk => hk3.2.2.same k o (by omega)⟩, hKp'.trans hk3.1, hk3.2.1 _ _ _ bY' (by decide) (by decide) (by decide), ?_, fun h => ?_, by rw [hLP.out.1]; exact hJ3, H5.out.trans (hKp'.trans hk3.1)⟩
          · rw [e9.out]; exact hk3.2.1 _ _ _ bL' (by decide) (by decide) (by decide)
          · rw [hLP.out.1] at h; simp at h
        · gi_wp2
          exact ⟨hKf'.trans ⟨hk3.2.2.size, fun k o hk => hk3.2.2.same k o (by omega)⟩, hKp'.trans hk3.1, rfl, by rw [hLP.out.1]; exact hJx3, by rw [hLP.out.1]; exact hLP.out.2⟩
    · replace c2 : W1.cell? ⟨B0 + 1, 0, none⟩ = some (.bool true) := by
        rw [c2]; cases hq : lck S pre with
        | nil => exact absurd hq hp
        | cons a r => rfl
      have HC := hide (HC.out true)
      have HHP := hide hp
      clear hp
      gi_wp2
      refine held_round (S := S5 W1 B0 true) (by kernel_rfl) ?lo (by kernel_rfl) (Or.inl ⟨1, rfl⟩) (fun hHeld => ?_)
      case lo => rintro ⟨_, _, h⟩; exact h
      refine wpAnyH_ready (rs := [0]) (by kernel_rfl) (by simp) ?_
      refine AllReadyH.cons rfl (fun K hK => ?_) AllReadyH.nil
      go_simp
      refine hK.out _ _ (Or.inl ⟨1, rfl⟩) (fun hHeld0 => ?_)
      clear hK K hHeld
      try simp only [Act.put, List.setIfInBounds_toArray, List.set_cons_zero, List.set_cons_succ]
      refine take_held (i := 1) (dst := some 11) (v := ?_) rfl (by kernel_rfl) (by kernel_rfl) (by kernel_rfl) (by kernel_rfl) (fun _ _ _ h => h) (Or.inl ⟨by kernel_rfl, ?_⟩) (by assumption) ?_
      rotate_left
      · intro w hSw; obtain ⟨kl, kx⟩ := HC.out w hSw; go_simp; try with_reducible rfl
      simp only [Act.put, List.setIfInBounds_toArray, List.set_cons_zero, List.set_cons_succ]
      refine take_held (i := 2) (dst := some 12) (v := undef) rfl (by kernel_rfl) (by kernel_rfl) (by kernel_rfl) (by kernel_rfl) (fun _ _ _ h => h) (Or.inr ⟨by kernel_rfl, rfl⟩) (by assumption) ?_
      simp only [Act.put, List.setIfInBounds_toArray, List.set_cons_zero, List.set_cons_succ]
      refine take_held (i := 3) (dst := some 13) (v := undef) rfl (by kernel_rfl) (by kernel_rfl) (by kernel_rfl) (by kernel_rfl) (fun _ _ _ h => h) (Or.inr ⟨by kernel_rfl, rfl⟩) (by assumption) ?_
      simp only [Act.put, List.setIfInBounds_toArray, List.set_cons_zero, List.set_cons_succ]
      refine take_held (i := 4) (dst := some 14) (v := undef) rfl (by kernel_rfl) (by kernel_rfl) (by kernel_rfl) (by kernel_rfl) (fun _ _ _ h => h) (Or.inr ⟨by kernel_rfl, rfl⟩) (by assumption) ?_
      simp only [Act.put, List.setIfInBounds_toArray, List.set_cons_zero, List.set_cons_succ]
      refine take_held (i := 5) (dst := some 15) (v := undef) rfl (by kernel_rfl) (by kernel_rfl) (by kernel_rfl) (by kernel_rfl) (fun _ _ _ h => h) (Or.inr ⟨by kernel_rfl, rfl⟩) (by assumption) ?_
      simp only [Act.put, List.setIfInBounds_toArray, List.set_cons_zero, List.set_cons_succ]
      refine take_held (i := 6) (dst := some 16) (v := ?_) rfl (by kernel_rfl) (by kernel_rfl) (by kernel_rfl) (by kernel_rfl) (fun _ _ _ h => h) (Or.inl ⟨by kernel_rfl, ?_⟩) (by assumption) ?_
      rotate_left
      · intro w hSw; obtain ⟨kl, kx⟩ := HC.out w hSw; go_simp; try with_reducible rfl
      simp only [Act.put, List.setIfInBounds_toArray, List.set_cons_zero, List.set_cons_succ]
      refine take_held (i := 7) (dst := some 17) (v := ?_) rfl (by kernel_rfl) (by kernel_rfl) (by kernel_rfl) (by kernel_rfl) (fun _ _ _ h => h) (Or.inl ⟨by kernel_rfl, ?_⟩) (by assumption) ?_
      rotate_left
      · intro w hSw; obtain ⟨kl, kx⟩ := HC.out w hSw; go_simp; try with_reducible rfl
      simp only [Act.put, List.setIfInBounds_toArray, List.set_cons_zero, List.set_cons_succ]
      refine take_held (i := 8) (dst := some 18) (v := undef) rfl (by kernel_rfl) (by kernel_rfl) (by kernel_rfl) (by kernel_rfl) (fun _ _ _ h => h) (Or.inr ⟨by kernel_rfl, rfl⟩) (by assumption) ?_
      simp only [Act.put, List.setIfInBounds_toArray, List.set_cons_zero, List.set_cons_succ]
      refine take_held (i := 9) (dst := some 19) (v := undef) rfl (by kernel_rfl) (by kernel_rfl) (by kernel_rfl) (by kernel_rfl) (fun _ _ _ h => h) (Or.inr ⟨by kernel_rfl, rfl⟩) (by assumption) ?_
      simp only [Act.put, List.setIfInBounds_toArray, List.set_cons_zero, List.set_cons_succ]
      refine take_held (i := 10) (dst := some 20) (v := undef) rfl (by kernel_rfl) (by kernel_rfl) (by kernel_rfl) (by kernel_rfl) (fun _ _ _ h => h) (Or.inr ⟨by kernel_rfl, rfl⟩) (by assumption) ?_
      simp only [Act.put, List.setIfInBounds_toArray, List.set_cons_zero, List.set_cons_succ]
      refine take_held (i := 11) (dst := some 21) (v := undef) rfl (by kernel_rfl) (by kernel_rfl) (by kernel_rfl) (by kernel_rfl) (fun _ _ _ h => h) (Or.inr ⟨by kernel_rfl, rfl⟩) (by assumption) ?_
      simp only [Act.put, List.setIfInBounds_toArray, List.set_cons_zero, List.set_cons_succ]
      refine take_held (i := 12) (dst := some 22) (v := undef) rfl (by kernel_rfl) (by kernel_rfl) (by kernel_rfl) (by kernel_rfl) (fun _ _ _ h => h) (Or.inr ⟨by kernel_rfl, rfl⟩) (by assumption) ?_
      simp only [Act.put, List.setIfInBounds_toArray, List.set_cons_zero, List.set_cons_succ]
      refine take_held (i := 13) (dst := some 23) (v := undef) rfl (by kernel_rfl) (by kernel_rfl) (by kernel_rfl) (by kernel_rfl) (fun _ _ _ h => h) (Or.inr ⟨by kernel_rfl, rfl⟩) (by assumption) ?_
      simp only [Act.put, List.setIfInBounds_toArray, List.set_cons_zero, List.set_cons_succ]
      refine take_held (i := 14) (dst := some 24) (v := ?_) rfl (by kernel_rfl) (by kernel_rfl) (by kernel_rfl) (by kernel_rfl) (fun _ _ _ h => h) (Or.inl ⟨by kernel_rfl, ?_⟩) (by assumption) ?_
      rotate_left
      · intro w hSw; obtain ⟨kl, kx⟩ := HC.out w hSw; go_simp; try with_reducible rfl
      simp only [Act.put, List.setIfInBounds_toArray, List.set_cons_zero, List.set_cons_succ]
      refine wpAnyH_ready (rs := [15]) (by kernel_rfl) (by simp) ?_
      refine AllReadyH.cons rfl (fun K hK => ?_) AllReadyH.nil
      go_simp
      refine hK.out _ _ (Or.inr ⟨_, rfl⟩) (fun hHeld3 => ?_)
      clear hK K
      refine wpAnyH_done (by kernel_rfl) ?_ _
      skip
      obtain ⟨A, hA0⟩ : ∃ A, (W1.drewN (1)).setCell ⟨B0 + 1, 0, none⟩ (.bool true) = A := ⟨_, rfl⟩
      obtain ⟨bY', bL', hJ', hKp', hKf', ax0, ax1, hLA⟩ := HE.out (1) true A hA0.symm
      change Exit.then _ _ _ _ ((W1.drewN (1)).setCell ⟨B0 + 1, 0, none⟩ (.bool true))
      rw [hA0]
      have hLP := hide (lck_pre (S := S) HP.out (Or.inl HHP.out))
      obtain ⟨fn, tmps, assign, body, hy, hR⟩ := yield_deep (m' := 7) (hY _ _ A hJ' hLP.out.2)
      have ca := bY'.cell
      have cb := bL'.cell
      have e9 := hide (show (!(lck S (pre ++ [(n, (⟨y, d⟩ : En))])).isEmpty) = true by rw [hLP.out.1]; simp)
      dsimp only [nenc, ev] at hy
      clear hA0 hHeld3 HC x0 x1 c1 c2 f2 cl
      gi_wp2
      refine (round_wide hR).mono ?_
      rintro e W3 (⟨rfl, hJ3, hk3⟩ | ⟨rfl, hJx3, hk3⟩)
      · gi_wp2
        refine ⟨hKf'.trans ⟨hk3.2.2.size, fun k o hk => hk3.2.2.same k o (by omega)⟩, hKp'.trans hk3.1, hk3.2.1 _ _ _ bY' (by decide) (by decide) (by decide), ?_, fun h => ?_, by rw [hLP.out.1]; exact hJ3, H5.out.trans (hKp'.trans hk3.1)⟩
        · rw [e9.out]; exact hk3.2.1 _ _ _ bL' (by decide) (by decide) (by decide)
        · rw [hLP.out.1] at h; simp at h
      · gi_wp2
        exact ⟨hKf'.trans ⟨hk3.2.2.size, fun k o hk => hk3.2.2.same k o (by omega)⟩, hKp'.trans hk3.1, rfl, by rw [hLP.out.1]; exact hJx3, by rw [hLP.out.1]; exact hLP.out.2⟩
  case done =>
    rintro D W' hD ⟨h1, h2, h3, h4, h5⟩ hK
    gi_wp2
    refine ⟨by simp, .inl ⟨_, _, rfl, run_takeDeferred hK, ?_⟩⟩
    exact ⟨_, results_none rfl _ _ _, ⟨_, rfl⟩, .inl (hA.putObj _ h4 (by omega) hK rfl)⟩
  case stop =>
    rintro D c pre W' hD hpre ⟨rfl, h2, h3⟩ hK
    gi_wp2
    refine ⟨by simp, .inl ⟨_, _, rfl, run_takeDeferred hK, ?_⟩⟩
    exact ⟨_, results_none rfl _ _ _, ⟨_, rfl⟩, .inr ⟨_, h3, hAx.putObj _ h2 (by omega) hK rfl⟩⟩

theorem lack_seq (w : World) (Bk Be Bl bl gf : Nat) (lb : Array Value) (S : Lo) (v : Value) (L : List (Nat × En)) (X : Nat → Prop) (eg : ∀ args w, (callFunc gf args).run Tryz.prog w = .ok (.enter gf args) w) (hseq : ∀ B, SeqP Tryz.prog gf lb nenc (Kpt X) L B w) (hX : ∀ k, X k → k < w.heap.size)
    (hS : LH w bl S v) (hbd : S.b + S.es.length ≤ 1048577) (hBel : Be < w.heap.size) (hBe : w.cell? ⟨Be, 0, none⟩ = some (.func (.func gf) #[] lb)) (hBl : w.cell? ⟨Bl, 0, none⟩ = some (ptr bl)) (hXl : X Bl) :
    SeqP Tryz.prog 186 #[ptr Be, ptr Bl] nenc (Kp2 X Bk) (lck S L) Bk w :=
  fun l J Jx W hW hBk hA hAx hY h0 => lack_in l Be Bl bl gf lb S v L X w W hW eg Bk hBk (hseq _) hX (hS.below hW) hbd (Nat.lt_of_lt_of_le hBel hW.size) ((hW.cell (p := ⟨Be, 0, none⟩) hBel).trans hBe) ((hW.cell (p := ⟨Bl, 0, none⟩) (hX _ hXl)).trans hBl) hXl J Jx hA hAx hY h0

end Go.Proofs.YtmpahgklcabihaaGreat.Rl
