/- Walks over points.go: firstMet; Of. -/
import Derived.Test.YtcmdglmcmifflaaDoorRgEach
namespace Go.Proofs.YtcmdglmcmifflaaDoor.Rg
open Go.RowKit Go.Joins Gk

attribute [local go_sem] Oper.semAt_some

def metS (h : Int) (s : Int × Int) (x : Pt) : Int × Int := if s.1 = -1 ∨ IntKind.u64.wrap (hp x - h) < s.2 then ((x.1 : Int), IntKind.u64.wrap (hp x - h)) else s
def met (h : Int) (l : List Pt) : Int × Int := l.foldl (metS h) (-1, 0)
theorem met_snoc (h : Int) (l : List Pt) (x : Pt) : met h (l ++ [x]) = metS h (met h l) x := by simp [met]
theorem way_wrap (h : Int) (x : Pt) : IntKind.u64.wrap (hp x - h) = way h x := by rw [IntKind.wrap_u64]; rfl
theorem met_near (h : Int) (l : List Pt) (hl : l.Pairwise lex) (hne : l ≠ []) : ∃ p, Near h l p ∧ met h l = ((p.1 : Int), way h p) := by
  have key : ∀ k, k ≤ l.length → (k = 0 ∧ met h (l.take k) = (-1, 0)) ∨ ∃ p, Near h (l.take k) p ∧ met h (l.take k) = ((p.1 : Int), way h p) := by
    intro k
    induction k with
    | zero => intro _; exact Or.inl ⟨rfl, rfl⟩
    | succ k ih =>
      intro hk
      have hlt : k < l.length := by omega
      rw [List.take_succ_eq_append_getElem hlt, met_snoc]
      refine Or.inr ?_
      rcases ih (by omega) with ⟨h0, hm⟩ | ⟨p, hp, hm⟩
      · subst h0
        rw [hm]
        exact ⟨l[0], Near.one _ _, by simp [metS, way_wrap]⟩
      · rw [hm]
        have hx : ∀ q ∈ l.take k, lex q l[k] := by
          intro q hq
          obtain ⟨j, hj, rfl⟩ := List.getElem_of_mem hq
          rw [List.getElem_take]
          have hj' : j < k := by simp at hj; omega
          exact List.pairwise_iff_getElem.1 hl j k (by omega) hlt hj'
        by_cases hw : way h l[k] < way h p
        · exact ⟨l[k], hp.snoc_new hw, by simp [metS, way_wrap, hw]⟩
        · refine ⟨p, hp.snoc_keep hx (by omega), ?_⟩
          have : ¬ ((p.1 : Int) = -1) := by omega
          simp [metS, way_wrap, hw, this]
  rcases key l.length (Nat.le_refl _) with ⟨h0, _⟩ | h1
  · exact (hne (List.eq_nil_of_length_eq_zero h0)).elim
  · rwa [List.take_length] at h1

set_option maxRecDepth 100000 in
set_option maxHeartbeats 4000000 in
theorem met_in (a : Option Addr) (cap : Nat) (ws : List Int) (hM : May ws) (h : Int) (w : World) (hl : Lies w ienc a ws) (hT : Tab w) :
    CallsIn Fence.wide 4 Tryd.prog 34 #[.slice a ws.length cap, .int .u64 h] w fun e w' => e = .returned (.int .i64 (met h (pts ws)).1) ∧ Below w.heap.size w w' := by
  refine callsIn_of_wp_marks Tryd.func34 rfl trivial ?_ rfl
  simp only [Tryd.ntmps34, List.size_toArray, List.length_cons, List.length_nil, Nat.reduceAdd, Nat.reduceSub, Array.replicate_succ, Array.replicate_zero, List.push_toArray, List.append_toArray, List.nil_append, List.cons_append]
  gi_wp2_with (refine ⟨trivial, ?_⟩; gi_at_call 50; refine (callsIn_wide.2 (each_any a ws.length cap _)).mono ?_; rintro e w' ⟨rfl, rfl⟩)
  obtain ⟨W0, hW0⟩ : ∃ W0, (((w.alloc (.cells #[.int .u64 h] 28)).alloc (.cells #[.int .i64 (-1)] 3)).alloc (.cells #[.int .u64 0] 28)).alloc (.cells #[.slice a ws.length cap] 22) = W0 := ⟨_, rfl⟩
  have hsz : W0.heap.size = w.heap.size + 4 := by rw [← hW0]; simp
  have bH : Boxed W0 w.heap.size 28 (.int .u64 h) := by rw [← hW0]; exact (((Boxed.new w _ _).alloc _).alloc _).alloc _
  have bO : Boxed W0 (w.heap.size + 1) 3 (.int .i64 (-1)) := by
    rw [← hW0]; have := Boxed.new (w.alloc (.cells #[.int .u64 h] 28)) 3 (.int .i64 (-1)); rw [World.size_alloc] at this; exact (this.alloc _).alloc _
  have bS : Boxed W0 (w.heap.size + 1 + 1) 28 (.int .u64 0) := by
    rw [← hW0]; have := Boxed.new ((w.alloc (.cells #[.int .u64 h] 28)).alloc (.cells #[.int .i64 (-1)] 3)) 28 (.int .u64 0); rw [World.size_alloc, World.size_alloc] at this; exact this.alloc _
  have bE : Boxed W0 (w.heap.size + 1 + 1 + 1) 22 (.slice a ws.length cap) := by
    rw [← hW0]; have := Boxed.new (((w.alloc (.cells #[.int .u64 h] 28)).alloc (.cells #[.int .i64 (-1)] 3)).alloc (.cells #[.int .u64 0] 28)) 22 (.slice a ws.length cap); rw [World.size_alloc, World.size_alloc, World.size_alloc] at this; exact this
  have hB0 : Below w.heap.size w W0 := by
    rw [← hW0]; exact ((((Below.refl _ w).alloc (Nat.le_refl _) _).alloc (by simp) _).alloc (by simp; omega) _).alloc (by simp; omega) _
  rw [hW0]
  clear hW0
  refine wpIn_rangeFunc_ownF rfl (by omega) (gf := 60) (lb := #[.pointer (some ⟨w.heap.size + 1 + 1 + 1, 0, none⟩)]) rfl trivial (enters_of Tryd.func60 (by kernel_rfl) rfl)
    (each_stops (4 - 1) (by omega) (w.heap.size + 1 + 1 + 1) cap a ws hM w W0 hl hT hB0 (by omega) bE.cell) belowK_t (belowK_b (by omega)) (Below.refl _ _) (fun _ => rfl)
    (fun pre W => Boxed W w.heap.size 28 (.int .u64 h) ∧ Boxed W (w.heap.size + 1) 3 (.int .i64 (met h pre).1) ∧ Boxed W (w.heap.size + 1 + 1) 28 (.int .u64 (met h pre).2) ∧ Below w.heap.size w W)
    (fun _ _ _ => False)
    (OwnFrom.and (Own.from (boxed_own _ _ _) _) (OwnFrom.and (Own.from (boxed_own _ _ (fun pre => .int .i64 (met h pre).1)) _) (OwnFrom.and (Own.from (boxed_own _ _ (fun pre => .int .u64 (met h pre).2)) _) (ownFrom_below (Nat.le_refl _) (by omega)))))
    (fun _ _ _ _ _ hs _ _ => hs)
    ⟨bH, bO, bS, hB0⟩
    (fun x => { tmps := #[.slice a ws.length cap, .int .u64 h, undef, .pointer (some ⟨w.heap.size, 0, none⟩), .int .i64 0, .pointer (some ⟨w.heap.size + 1, 0, none⟩), .pointer (some ⟨w.heap.size + 1 + 1, 0, none⟩), .int .i64 (x.1 : Int), .int .u64 (hp x), undef, .slice a ws.length cap, .func (.func 60) #[] #[.pointer (some ⟨w.heap.size + 1 + 1 + 1, 0, none⟩)], .int .i64 (x.1 : Int), .int .u64 (hp x), undef, undef, undef, undef, undef, undef, undef, undef, undef, undef, undef, undef, undef], defers := [] }) ?assign ?body ?done ?stop
  case assign =>
    intro l x W K hK
    dsimp only [penc]
    gi_wp2
    exact hK
  case body =>
    rintro l pre x W ⟨hH, hO, hS, hB⟩ _
    have c1 := hH.cell
    have c2 := hO.cell
    have c3 := hS.cell
    have f2 := hO.frozen
    have f3 := hS.frozen
    have HE := hide (met_snoc h pre x)
    obtain ⟨o, ho⟩ : ∃ o, (met h pre).1 = o := ⟨_, rfl⟩
    obtain ⟨q, hq⟩ : ∃ q, (met h pre).2 = q := ⟨_, rfl⟩
    have HM := hide (show met h pre = (o, q) by rw [← ho, ← hq])
    rw [ho] at c2 hO
    rw [hq] at c3 hS
    clear ho hq
    by_cases ho : o = -1
    · have e1 : met h (pre ++ [x]) = ((x.1 : Int), IntKind.u64.wrap (hp x - h)) := by rw [HE.out, HM.out, metS, if_pos (Or.inl ho)]
      have E1 := hide e1
      clear e1
      gi_wp2
      exact ⟨(KeepsOthers.setCell _ _ _).trans (KeepsOthers.setCell _ _ _), ((Below.refl w.heap.size W).setCell (p := ⟨w.heap.size + 1, 0, none⟩) (by show w.heap.size ≤ w.heap.size + 1; omega) _).setCell (p := ⟨w.heap.size + 1 + 1, 0, none⟩) (by show w.heap.size ≤ w.heap.size + 1 + 1; omega) _,
        (hH.other (by omega) _).other (by omega) _, by rw [E1.out]; exact (hO.set _).other (by omega) _, by rw [E1.out]; exact (hS.other (by omega) _).set _,
        (hB.setCell (p := ⟨w.heap.size + 1, 0, none⟩) (by show w.heap.size ≤ w.heap.size + 1; omega) _).setCell (p := ⟨w.heap.size + 1 + 1, 0, none⟩) (by show w.heap.size ≤ w.heap.size + 1 + 1; omega) _⟩
    · by_cases hlt : IntKind.u64.wrap (hp x - h) < q
      · have e1 : met h (pre ++ [x]) = ((x.1 : Int), IntKind.u64.wrap (hp x - h)) := by rw [HE.out, HM.out, metS, if_pos (Or.inr hlt)]
        have E1 := hide e1
        clear e1
        gi_wp2
        exact ⟨(KeepsOthers.setCell _ _ _).trans (KeepsOthers.setCell _ _ _), ((Below.refl w.heap.size W).setCell (p := ⟨w.heap.size + 1, 0, none⟩) (by show w.heap.size ≤ w.heap.size + 1; omega) _).setCell (p := ⟨w.heap.size + 1 + 1, 0, none⟩) (by show w.heap.size ≤ w.heap.size + 1 + 1; omega) _,
          (hH.other (by omega) _).other (by omega) _, by rw [E1.out]; exact (hO.set _).other (by omega) _, by rw [E1.out]; exact (hS.other (by omega) _).set _,
          (hB.setCell (p := ⟨w.heap.size + 1, 0, none⟩) (by show w.heap.size ≤ w.heap.size + 1; omega) _).setCell (p := ⟨w.heap.size + 1 + 1, 0, none⟩) (by show w.heap.size ≤ w.heap.size + 1 + 1; omega) _⟩
      · have e1 : met h (pre ++ [x]) = (o, q) := by rw [HE.out, HM.out, metS, if_neg (fun h1 => h1.elim ho hlt)]
        have E1 := hide e1
        clear e1
        gi_wp2
        exact ⟨KeepsOthers.refl _, Below.refl _ _, hH, by rw [E1.out]; exact hO, by rw [E1.out]; exact hS, hB⟩
  case done =>
    rintro D ys W hD rfl ⟨hH, hO, hS, hB⟩ hK
    have c2 := hO.cell
    gi_wp2
    refine ⟨by simp, .inl ⟨_, _, rfl, run_takeDeferred hK, ?_⟩⟩
    exact ⟨_, results_tmp rfl _ _ _, rfl, hB.trans (belowK_b (w := w) (Nat.le_refl _) W D _ _ (by omega) hK rfl rfl)⟩
  case stop =>
    rintro D c pre W _ _ h _
    exact h.elim

theorem met_any (a : Option Addr) (cap : Nat) (ws : List Int) (hM : May ws) (h : Int) (w : World) (hl : Lies w ienc a ws) (hT : Tab w) :
    Calls Tryd.prog 34 #[.slice a ws.length cap, .int .u64 h] w fun e w' => (∃ c, Owns ws h c ∧ e = .returned (.int .i64 (c : Int))) ∧ Below w.heap.size w w' := by
  refine (callsIn_wide.1 (met_in a cap ws hM h w hl hT)).mono ?_
  rintro e w' ⟨rfl, hb⟩
  obtain ⟨p, hp, hm⟩ := met_near h (pts ws) (lex_pts ws) hM.pts_ne
  exact ⟨⟨p.1, ⟨p, hp, rfl⟩, by rw [hm]⟩, hb⟩

/-- Of: weights that may be -/
theorem of_yes (a : Option Addr) (cap : Nat) (ws : List Int) (hM : May ws) (key : ByteArray) (hs : key.size ≤ 9223372036854775807) (w : World) (hl : Lies w ienc a ws) (hT : Tab w) :
    Calls Tryd.prog 10 #[.slice a ws.length cap, .string key] w fun e w' => (∃ c, Owns ws (hashL key.data.toList) c ∧ e = .returned (.tuple #[.int .i64 (c : Int), .int .i64 0])) ∧ Below w.heap.size w w' := by
  have hC := fun W (h : Lies W ienc a ws) => check_any a cap ws W h (by have := hM.n2; omega)
  rw [chk_yes hM] at hC
  have hH := fun W => hash_any key W hs
  have hMt := met_any a cap ws hM (hashL key.data.toList) w hl hT
  generalize hashL key.data.toList = h at hH hMt ⊢
  go_enter Tryd.func10, Tryd.ntmps10
  go_wp2_with (first | (go_at_call 30; refine (hC _ hl).mono ?_; rintro e w' ⟨rfl, hw'⟩; obtain rfl := hw'.symm) | (go_at_call 9; refine (hH _).mono ?_; rintro e w' ⟨rfl, hw'⟩; obtain rfl := hw'.symm) | (go_at_call 34; refine hMt.mono ?_; rintro e w' ⟨⟨c, hO, rfl⟩, hb⟩))
  go_ret2
  exact ⟨⟨c, hO, rfl⟩, hb⟩
theorem of_no (a : Option Addr) (cap : Nat) (ws : List Int) (hM : ¬ May ws) (key : ByteArray) (w : World) (hl : Lies w ienc a ws) (hn : ws.length ≤ 9223372036854775807) :
    Calls Tryd.prog 10 #[.slice a ws.length cap, .string key] w fun e w' => e = .returned (.tuple #[.int .i64 0, .int .i64 1]) ∧ w' = w := by
  have hC := check_any a cap ws w hl hn
  rw [chk_no hM] at hC
  go_enter Tryd.func10, Tryd.ntmps10
  go_wp2_with (go_at_call 30; refine hC.mono ?_; rintro e w' ⟨rfl, hw'⟩; obtain rfl := hw'.symm)
  go_ret2
  exact ⟨rfl, rfl⟩

end Go.Proofs.YtcmdglmcmifflaaDoor.Rg
