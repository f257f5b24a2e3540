/- Walks over points.go: inOrder. -/
import Derived.Test.YtcmdglmcmifflaaDoorRsSrd
namespace Go.Proofs.YtcmdglmcmifflaaDoor.Rg
open Go.RowKit Go.Joins Gk

attribute [local go_sem] Oper.semAt_some

theorem pheld_own (B bp : Nat) : Own (fun (pre : List Pt) W => PHeld W B bp pre) := by
  rintro s X Y row ⟨va, vc, h⟩ hg hrow
  have hne : ∀ k cs t fr, X.heap[k]? = some (Obj.cells cs t fr) → row ≠ some k := fun k cs t fr hk e => by
    obtain ⟨o, ho, hc⟩ := hrow k e
    rw [hk] at ho; cases ho; cases hc
  have hst : ∀ k cs t fr, X.heap[k]? = some (Obj.cells cs t fr) → Y.heap[k]? = X.heap[k]? := fun k cs t fr hk => hg.block k (Array.getElem?_eq_some_iff.1 hk).1 fun e => hne k cs t fr hk e.symm
  refine ⟨va, vc, (hst _ _ _ _ h.blk).trans h.blk, own_stay h.ra fun g hg' => ?_, own_stay h.rc' fun g hg' => ?_, h.low⟩
  · rcases h.ra.2 with ⟨e2, _⟩ | ⟨g', _, cur, e2, _, hh, _⟩
    · rw [e2] at hg'; simp [Value.ownBlock] at hg'
    · rw [e2] at hg'; simp only [Value.ownBlock, Option.some.injEq] at hg'
      subst hg'; exact hst _ _ _ _ hh
  · rcases h.rc'.2 with ⟨e2, _⟩ | ⟨g', _, cur, e2, _, hh, _⟩
    · rw [e2] at hg'; simp [Value.ownBlock] at hg'
    · rw [e2] at hg'; simp only [Value.ownBlock, Option.some.injEq] at hg'
      subst hg'; exact hst _ _ _ _ hh

theorem blk_own {k : Nat} {cs : Array Value} {t : TypeId} {fr : Nat × Nat} : Own (fun (_ : List Pt) W => W.heap[k]? = some (Obj.cells cs t fr)) := by
  intro s X Y row h hg hrow
  refine (hg.block k (Array.getElem?_eq_some_iff.1 h).1 fun e => ?_).trans h
  obtain ⟨o, ho, hc⟩ := hrow k e.symm
  rw [h] at ho; cases ho; cases hc

set_option maxRecDepth 100000 in
set_option maxHeartbeats 4000000 in
theorem inOrder_in (a : Option Addr) (cap : Nat) (ws : List Int) (hM : May ws) (w : World) (hl : Lies w ienc a ws) (hT : Tab w) :
    CallsIn Fence.wide 4 Tryd.prog 31 #[.slice a ws.length cap] w fun e w' => ∃ va vc l, e = .returned (.agg #[va, vc]) ∧ w'.ownsRow w.heap.size U64T 1 va l.length (rc uenc l) ∧ w'.ownsRow w.heap.size IntT 1 vc l.length (rc cenc l) ∧ Below w.heap.size w w' ∧ Srt ws l := by
  refine callsIn_of_wp_marks Tryd.func31 rfl trivial ?_ rfl
  simp only [Tryd.ntmps31, List.size_toArray, List.length_cons, List.length_nil, Nat.reduceAdd, Nat.reduceSub, Array.replicate_succ, Array.replicate_zero, List.push_toArray, List.append_toArray, List.nil_append, List.cons_append]
  gi_wp2_with (refine ⟨trivial, ?_⟩; gi_at_call 50; refine (callsIn_wide.2 (each_any a ws.length cap _)).mono ?_; rintro e w' ⟨rfl, rfl⟩)
  obtain ⟨W0, hW0⟩ : ∃ W0, ((w.alloc (.cells #[.slice none 0 0, .slice none 0 0] PtsT)).alloc (.cells #[.slice none 0 0, .slice none 0 0] PtsT)).alloc (.cells #[.slice a ws.length cap] 22) = W0 := ⟨_, rfl⟩
  have hsz : W0.heap.size = w.heap.size + 3 := by rw [← hW0]; simp
  have hB0 : Below w.heap.size w W0 := by rw [← hW0]; exact (below_alloc2 _ _ _).alloc (by simp; omega) _
  have hr0 : W0.heap[w.heap.size]? = some (.cells #[.slice none 0 0, .slice none 0 0] PtsT) := by
    rw [← hW0]; exact (((below_alloc1 _ _).block _ (by simp; omega)).trans ((below_alloc1 _ _).block _ (by simp))).trans (heap_alloc_new w _)
  have hp0 : W0.heap[w.heap.size + 1]? = some (.cells #[.slice none 0 0, .slice none 0 0] PtsT) := by
    rw [← hW0]; refine ((below_alloc1 _ _).block _ (by simp)).trans ?_
    have := heap_alloc_new (w.alloc (.cells #[.slice none 0 0, .slice none 0 0] PtsT)) (.cells #[.slice none 0 0, .slice none 0 0] PtsT)
    rwa [World.size_alloc] at this
  have he0 : W0.cell? ⟨w.heap.size + 1 + 1, 0, none⟩ = some (.slice a ws.length cap) := by
    have h1 : W0.heap[w.heap.size + 1 + 1]? = some (.cells #[.slice a ws.length cap] 22) := by
      rw [← hW0]
      have := heap_alloc_new ((w.alloc (.cells #[.slice none 0 0, .slice none 0 0] PtsT)).alloc (.cells #[.slice none 0 0, .slice none 0 0] PtsT)) (.cells #[.slice a ws.length cap] 22)
      rwa [World.size_alloc, World.size_alloc] at this
    rw [cell_of_block h1]; rfl
  have hP0 : PHeld W0 (w.heap.size + 1) (w.heap.size + 1) [] := ⟨_, _, ⟨hp0, World.ownsRow_nil _ _ _ _, World.ownsRow_nil _ _ _ _, Nat.le_refl _⟩⟩
  have hlp := length_pts_le hM
  rw [hW0]
  clear hW0 hp0
  refine wpIn_rangeFunc_ownF rfl (by omega) (gf := 60) (lb := #[.pointer (some ⟨w.heap.size + 1 + 1, 0, none⟩)]) rfl trivial (enters_of Tryd.func60 (by kernel_rfl) rfl)
    (each_stops (4 - 1) (by omega) (w.heap.size + 1 + 1) cap a ws hM w W0 hl hT hB0 (by omega) he0) belowK_t (belowK_b (by omega)) (Below.refl _ _) (fun _ => rfl)
    (fun pre W => PHeld W (w.heap.size + 1) (w.heap.size + 1) pre ∧ W.heap[w.heap.size]? = some (Obj.cells #[.slice none 0 0, .slice none 0 0] PtsT) ∧ Below w.heap.size w W)
    (fun _ _ _ => False)
    (OwnFrom.and (Own.from (pheld_own _ _) _) (OwnFrom.and (Own.from blk_own _) (ownFrom_below (Nat.le_refl _) (by omega))))
    (fun _ _ _ _ _ hs _ _ => hs)
    ⟨hP0, hr0, hB0⟩
    (fun x => { tmps := #[.slice a ws.length cap, undef, .pointer (some ⟨w.heap.size, 0, none⟩), .pointer (some ⟨w.heap.size + 1, 0, none⟩), .int .i64 (x.1 : Int), .int .u64 (hp x), .slice a ws.length cap, .func (.func 60) #[] #[.pointer (some ⟨w.heap.size + 1 + 1, 0, none⟩)], .int .i64 (x.1 : Int), .int .u64 (hp x), undef, undef, undef, undef, undef], defers := [] }) ?assign ?body ?done ?stop
  case assign =>
    intro l x W K hK
    dsimp only [penc]
    gi_wp2
    exact hK
  case body =>
    rintro l pre x W ⟨hP, hZ, hB⟩ hlen
    have hadd := fun hh => add_any x W hP hh (by omega)
    have hsz1 : w.heap.size + 1 ≤ W.heap.size := by obtain ⟨_, _, h⟩ := hP; exact Nat.le_of_lt h.lt
    replace hadd := hadd hsz1
    generalize hp x = yh at hadd
    generalize (x.1 : Int) = yc at hadd
    gi_wp2_with (refine ⟨trivial, ?_⟩; gi_at_call 51; refine (callsIn_wide.2 hadd).mono ?_; rintro e w7 ⟨rfl, hP7, hB7, hK7⟩)
    exact ⟨hK7, hB7.mono (by omega), hP7, (hB7.block _ (by omega)).trans hZ, hB.trans (hB7.mono (by omega))⟩
  case done =>
    rintro D ys W hD rfl ⟨hP, hZ, hB⟩ hK
    obtain ⟨va, vc, hP⟩ := hP
    have hne : 0 < (pts ws).length := List.length_pos_iff.2 hM.pts_ne
    obtain ⟨ga, ca, cura, rfl, _⟩ := own_form hP.ra hne
    obtain ⟨gc, cc, curc, rfl, _⟩ := own_form hP.rc' hne
    have c0 := hP.ca
    have c1 := hP.cc
    obtain ⟨N, hN⟩ : ∃ N, (pts ws).length = N + 1 := ⟨(pts ws).length - 1, by omega⟩
    have hsort := Rs.sorted_any ga ca gc cc N (pts ws) hN (by omega) (lex_pts ws) W (own_mono hP.ra (Nat.zero_le _)) (own_mono hP.rc' (Nat.zero_le _))
    clear hN hne
    gi_wp2_with (refine ⟨trivial, ?_⟩; gi_at_call 52; refine (callsIn_wide.2 hsort).mono ?_; rintro e w7 ⟨va', vc', l', rfl, ho1, ho2, hB7, hpm, hpw⟩; obtain ⟨a1, c1', rfl⟩ := own_slice ho1; obtain ⟨a2, c2', rfl⟩ := own_slice ho2; have hZ7 := (hB7.block _ (Array.getElem?_eq_some_iff.1 hZ).1).trans hZ; have hK7 := (hB7.block _ (Array.getElem?_eq_some_iff.1 hK).1).trans hK; have r0 : w7.cell? ⟨w.heap.size, 0, none⟩ = some (.slice none 0 0) := (by rw [cell_of_block hZ7]; rfl); have r1 : w7.cell? ⟨w.heap.size, 1, none⟩ = some (.slice none 0 0) := (by rw [cell_of_block hZ7]; rfl); have f0 := unfrozen_of_block hZ7 0; have f1 := unfrozen_of_block hZ7 1)
    have hz := block_setCell (block_setCell hZ7 (i := 0) (.slice a1 l'.length c1')) (i := 1) (.slice a2 l'.length c2')
    obtain ⟨w8, hw8⟩ : ∃ w8, (w7.setCell ⟨w.heap.size, 0, none⟩ (.slice a1 l'.length c1')).setCell ⟨w.heap.size, 1, none⟩ (.slice a2 l'.length c2') = w8 := ⟨_, rfl⟩
    have hoth : ∀ g, g ≠ w.heap.size → w8.heap[g]? = w7.heap[g]? := fun g hg => by
      rw [← hw8, Below.heap_setCell _ _ _ g hg, Below.heap_setCell _ _ _ g hg]
    have hDne : D ≠ w.heap.size := by omega
    have hK8 := (hoth D hDne).trans hK7
    have hB8 : Below w.heap.size w w8 := by
      rw [← hw8]
      exact ((hB.trans (hB7.mono hB.size)).setCell (p := ⟨w.heap.size, 0, none⟩) (Nat.le_refl _) _).setCell (p := ⟨w.heap.size, 1, none⟩) (Nat.le_refl _) _
    rw [hw8] at hz ⊢
    have hz' : (w8.putObj D (.deferred none)).heap[w.heap.size]? = _ := (World.putObj_heap_other hDne.symm).trans hz
    have e0 : (w8.putObj D (.deferred none)).cell? ⟨w.heap.size, 0, none⟩ = some (.slice a1 l'.length c1') := by rw [cell_of_block hz']; rfl
    have e1 : (w8.putObj D (.deferred none)).cell? ⟨w.heap.size, 1, none⟩ = some (.slice a2 l'.length c2') := by rw [cell_of_block hz']; rfl
    have hst : ∀ g, W.heap.size ≤ g → (w8.putObj D (.deferred none)).heap[g]? = w7.heap[g]? := fun g hg => by
      have hDlt := (Array.getElem?_eq_some_iff.1 hK).1
      have hwl := (Array.getElem?_eq_some_iff.1 hZ).1
      rw [World.putObj_heap_other (by omega), hoth g (by omega)]
    refine ⟨by simp, .inl ⟨_, _, rfl, run_takeDeferred hK8, ?_⟩⟩
    refine ⟨.agg #[.slice a1 l'.length c1', .slice a2 l'.length c2'], by simp [results, Tryd.results31, go_sem, e0, e1], ⟨_, _, l', rfl, ?_, ?_, hB8.trans (belowK_b (w := w) (Nat.le_refl _) w8 D _ _ (by omega) hK8 rfl rfl), ⟨hpm, hpw⟩⟩⟩
    · exact own_mono (own_stay ho1 fun g hg => hst g (ho1.lt g hg).1) hB.size
    · exact own_mono (own_stay ho2 fun g hg => hst g (ho2.lt g hg).1) hB.size
  case stop =>
    rintro D c pre W _ _ h _
    exact h.elim

theorem inOrder_any (a : Option Addr) (cap : Nat) (ws : List Int) (hM : May ws) (w : World) (hl : Lies w ienc a ws) (hT : Tab w) :
    Calls Tryd.prog 31 #[.slice a ws.length cap] w fun e w' => ∃ va vc l, e = .returned (.agg #[va, vc]) ∧ w'.ownsRow w.heap.size U64T 1 va l.length (rc uenc l) ∧ w'.ownsRow w.heap.size IntT 1 vc l.length (rc cenc l) ∧ Below w.heap.size w w' ∧ Srt ws l :=
  callsIn_wide.1 (inOrder_in a cap ws hM w hl hT)

end Go.Proofs.YtcmdglmcmifflaaDoor.Rg
