/- Layer 15: what a list of the file tells is taken: takeVote, takeCut, takeEntry. Layer 15: a list of the file is taken: take. Layer 15: a file is read up to its end, or to a frame that ends early: takeAll. -/
import Derived.Test.YtmpahgklcabihaaGreatBaSt
import Derived.Test.YtmpahgklcabihaaGreatRlApp
import Derived.Test.YtmpahgklcabihaaGreatFdRd
namespace Go.Proofs.YtmpahgklcabihaaGreat.Ba
open Go.RowKit Go.Joins Go.Proofs.YtmpahgklcabihaaGreat.Gk
open Go.Proofs.YtmpahgklcabihaaGreat.Rl (En Lo LH ER ptr blk EnT eenc step_er May1)

abbrev RgT : TypeId := 165
/-- what was read so far lies there -/
structure RG (w : World) (bg : Nat) (n : Int) (s : Bl) (v : Value) : Prop where
  box : w.heap[bg]? = some (.cells #[.int .i64 n, .int .i64 s.t, .int .i64 s.v, v] RgT (0, 0))
  row : ER w v s.es
/-- nothing but it has turned -/
structure Gt (bg : Nat) (v v' : Value) (w w' : World) : Prop where
  only : Only (fun k => k = bg ∨ blk v = some k) w w'
  new : ∀ g, blk v' = some g → blk v = some g ∨ w.heap.size ≤ g
section
variable {w w' : World} {bg : Nat} {n : Int} {s : Bl} {v : Value}
theorem RG.lt (h : RG w bg n s v) : bg < w.heap.size := (Array.getElem?_eq_some_iff.1 h.box).1
theorem RG.c0 (h : RG w bg n s v) : w.cell? ⟨bg, 0, none⟩ = some (.int .i64 n) := cell_of_block h.box 0
theorem RG.c1 (h : RG w bg n s v) : w.cell? ⟨bg, 1, none⟩ = some (.int .i64 s.t) := cell_of_block h.box 1
theorem RG.c2 (h : RG w bg n s v) : w.cell? ⟨bg, 2, none⟩ = some (.int .i64 s.v) := cell_of_block h.box 2
theorem RG.c3 (h : RG w bg n s v) : w.cell? ⟨bg, 3, none⟩ = some v := cell_of_block h.box 3
theorem RG.fz (h : RG w bg n s v) (j : Nat) : w.frozen? ⟨bg, j, none⟩ = false := unfrozen_of_block h.box j
theorem RG.ne (h : RG w bg n s v) {g : Nat} (hg : blk v = some g) : g ≠ bg := h.row.ne h.box (by decide) hg
theorem RG.stay (h : RG w bg n s v) (hb : w'.heap[bg]? = w.heap[bg]?) (hs : ∀ g, blk v = some g → w'.heap[g]? = w.heap[g]?) : RG w' bg n s v := ⟨hb.trans h.box, h.row.stay hs⟩
theorem RG.below (h : RG w bg n s v) (hb : Below w.heap.size w w') : RG w' bg n s v := h.stay (hb.block bg h.lt) fun g hg => hb.block g (h.row.lt hg)
theorem Gt.of_below (hb : Below w.heap.size w w') : Gt bg v v w w' := ⟨Only.of_below hb, fun _ h => Or.inl h⟩
theorem Gt.trans {u v' : Value} {a b c : World} (h : Gt bg v u a b) (k : Gt bg u v' b c) : Gt bg v v' a c := by
  refine ⟨⟨k.only.os.trans h.only.os, k.only.tape.trans h.only.tape, k.only.output.trans h.only.output, Nat.le_trans h.only.size k.only.size, fun i hi hn => ?_⟩, fun i hi => ?_⟩
  · refine (k.only.block i (Nat.lt_of_lt_of_le hi h.only.size) ?_).trans (h.only.block i hi hn)
    rintro (rfl | e)
    · exact hn (Or.inl rfl)
    · rcases h.new i e with e | e
      · exact hn (Or.inr e)
      · omega
  · rcases k.new i hi with e | e
    · exact h.new i e
    · exact Or.inr (Nat.le_trans h.only.size e)
/-- its entries are others -/
theorem RG.set (h : RG w bg n s v) {w1 : World} {v' : Value} {l : List En} (hr : ER w1 v' l) (hg : w.grownBy w1 (blk v)) (hat : ∀ g, blk v' = some g → blk v = some g ∨ w.heap.size ≤ g) :
    RG (w1.setCell ⟨bg, 3, none⟩ v') bg n ⟨s.t, s.v, l⟩ v' ∧ Gt bg v v' w (w1.setCell ⟨bg, 3, none⟩ v') := by
  have hb1 : w1.heap[bg]? = some (.cells #[.int .i64 n, .int .i64 s.t, .int .i64 s.v, v] RgT (0, 0)) := (hg.block bg h.lt fun e => h.ne e.symm rfl).trans h.box
  have hne : ∀ g, blk v' = some g → g ≠ bg := fun g hv => hr.ne hb1 (by decide) hv
  refine ⟨⟨by rw [block_setCell hb1 _]; rfl, hr.stay fun g hv => Below.heap_setCell w1 ⟨bg, 3, none⟩ v' g (hne g hv)⟩, ⟨⟨hg.os, hg.tape, hg.output, by simpa using hg.size, fun k hk hn => ?_⟩, hat⟩⟩
  rw [Below.heap_setCell w1 ⟨bg, 3, none⟩ v' k fun e => hn (Or.inl e)]
  exact hg.block k hk fun e => hn (Or.inr e.symm)
/-- its vote is another one -/
theorem RG.vote (h : RG w bg n s v) (x : Int) : RG (w.setCell ⟨bg, 2, none⟩ (.int .i64 x)) bg n ⟨s.t, x, s.es⟩ v ∧ Gt bg v v w (w.setCell ⟨bg, 2, none⟩ (.int .i64 x)) :=
  ⟨⟨by rw [block_setCell h.box _]; rfl, h.row.stay fun g hv => Below.heap_setCell w ⟨bg, 2, none⟩ _ g (h.ne hv)⟩, ⟨Only.of_set (a := ⟨bg, 2, none⟩) w (Or.inl rfl) _, fun _ h => Or.inl h⟩⟩
theorem RG.term (h : RG w bg n s v) (x : Int) : RG (w.setCell ⟨bg, 1, none⟩ (.int .i64 x)) bg n ⟨x, s.v, s.es⟩ v ∧ Gt bg v v w (w.setCell ⟨bg, 1, none⟩ (.int .i64 x)) :=
  ⟨⟨by rw [block_setCell h.box _]; rfl, h.row.stay fun g hv => Below.heap_setCell w ⟨bg, 1, none⟩ _ g (h.ne hv)⟩, ⟨Only.of_set (a := ⟨bg, 1, none⟩) w (Or.inl rfl) _, fun _ h => Or.inl h⟩⟩
end

set_option maxRecDepth 100000 in
set_option maxHeartbeats 1000000 in
theorem takeVote_any (bg : Nat) (n : Int) (s : Bl) (v : Value) (x : Int) (w : World) (h : RG w bg n s v) (h1 : -1 ≤ x) (h2 : x < n) (h3 : s.v = -1 ∨ x = s.v) :
    Calls Tryz.prog 183 #[ptr bg, .int .i64 x] w fun e w' => e = .returned (.bool true) ∧ RG w' bg n ⟨s.t, x, s.es⟩ v ∧ Gt bg v v w w' := by
  have c0 := h.c0
  have c2 := h.c2
  have f2 := h.fz 2
  have HV := hide (h.vote x)
  have g1 : ¬ x < -1 := by omega
  have g2 : ¬ n ≤ x := by omega
  clear h
  obtain ⟨t, sv, es⟩ := s
  simp only at *
  by_cases h4 : sv = -1
  · subst h4
    go_enter Tryz.func183, Tryz.ntmps183
    go_wp2
    go_ret
    exact ⟨rfl, HV.out⟩
  · obtain rfl : x = sv := h3.resolve_left h4
    have g3 : (x == -1) = false := by simpa using h4
    go_enter Tryz.func183, Tryz.ntmps183
    go_wp2
    go_ret
    exact ⟨rfl, HV.out⟩

set_option maxRecDepth 100000 in
set_option maxHeartbeats 1000000 in
theorem takeCut_any (bg : Nat) (n : Int) (s : Bl) (v : Value) (k : Nat) (w : World) (h : RG w bg n s v) (h1 : 1 ≤ k) (h2 : k ≤ s.es.length) (_ : s.es.length ≤ 1048576) :
    Calls Tryz.prog 185 #[ptr bg, .int .i64 k] w fun e w' => e = .returned (.bool true) ∧ ∃ v', RG w' bg n ⟨s.t, s.v, s.es.take (k - 1)⟩ v' ∧ Gt bg v v' w w' := by
  have H := hide h
  have c3 := h.c3
  have f3 := h.fz 3
  obtain ⟨a, cap, rfl, hz, hl1, hl2⟩ := h.row.slice
  obtain ⟨j, rfl⟩ : ∃ j, k = j + 1 := ⟨k - 1, by omega⟩
  obtain ⟨⟨g, o, p⟩, rfl⟩ : ∃ x, a = some x := by
    cases a with
    | none => have := hz rfl; omega
    | some x => exact ⟨x, rfl⟩
  have hp : p = none := by
    rcases h.row with ⟨e, _⟩ | ⟨_, _, _, _, e, _⟩
    · cases e
    · cases e; rfl
  subst hp
  have hT := hide (h.row.take j (by omega))
  have HS := hide (h.set (v' := .slice (some ⟨g, o, none⟩) j cap) (hT.out) (grown_refl _ _) (fun _ h => Or.inl h))
  unfold maxLen at hl2
  clear h
  have g1 : ¬ ((j : Int) + 1 < 1) := by omega
  have g2 : ¬ ((s.es.length : Int) < (j : Int) + 1) := by omega
  have g3 : IntKind.i64.wrap ((j : Int) + 1 - 1) = j := by rw [show (j : Int) + 1 - 1 = j by omega]; exact wrap_in (by omega) (by omega)
  have g4 : (j : Int) ≤ (cap : Int) := by omega
  rw [Int.natCast_add]
  go_enter Tryz.func185, Tryz.ntmps185
  go_wp2
  go_ret
  exact ⟨rfl, _, HS.out⟩

/-- of the last entry alone -/
def tip (es : List En) : Lo := ⟨0, 0, es.getLast?.toList⟩
theorem tip_last (es : List En) : (tip es).last ≤ 1 := by
  unfold tip Lo.last; cases es.getLast? <;> simp
theorem tip_tm (es : List En) : (tip es).tm (tip es).last = lt es := by
  unfold tip; rw [lt_tm]; unfold lt
  cases es.getLast? <;> simp
set_option maxRecDepth 100000 in
set_option maxHeartbeats 2000000 in
theorem takeEntry_any (bg : Nat) (n : Int) (s : Bl) (v : Value) (e : En) (w : World) (h : RG w bg n s v) (hm : (Rc.en e).may) (ho : lt s.es ≤ e.t) (hs : s.Ok n) (hes : s.es.length ≤ 1000000) :
    Calls Tryz.prog 184 #[ptr bg, .agg #[.int .i64 e.t, .string e.d]] w fun r w' => r = .returned (.bool true) ∧ ∃ v', RG w' bg n ⟨s.t, s.v, s.es ++ [e]⟩ v' ∧ Gt bg v v' w w' := by
  obtain ⟨hm1, hm2, hm3⟩ := hm
  obtain ⟨a, cap, rfl, _⟩ := h.row.slice
  have H := hide h
  obtain ⟨W0, hW0⟩ : ∃ W0, w.alloc (.cells #[.int .i64 e.t, .string e.d] EnT) = W0 := ⟨_, rfl⟩
  have hb0 : Below w.heap.size w W0 := by rw [← hW0]; exact (Below.refl _ w).alloc (Nat.le_refl _) _
  have hx0 : W0.heap[w.heap.size]? = some (.cells (eenc e).toArray EnT (0, 0)) := by rw [← hW0]; exact heap_alloc_new w _
  have hN := Rl.New_any W0
  go_enter Tryz.func184, Tryz.ntmps184
  go_wp2_with fail
  clear hW0
  refine hN.mono ?_
  rintro r w1 ⟨rfl, hL1, hw1⟩
  have hb1 : Below W0.heap.size W0 w1 := by rw [hw1]; exact (Below.refl _ _).alloc (Nat.le_refl _) _
  have hbw : Below w.heap.size w w1 := hb0.trans (hb1.mono hb0.size)
  have hz0 : w.heap.size < W0.heap.size := (Array.getElem?_eq_some_iff.1 hx0).1
  have hx1 := (hb1.block _ hz0).trans hx0
  have hown1 : ∀ k, Rl.own w1 W0.heap.size k → W0.heap.size ≤ k := by
    rintro k (rfl | hk)
    · exact Nat.le_refl _
    · rw [hL1.lbk] at hk; cases hk
  have c3 := (h.below hbw).c3
  have hbl : W0.heap.size < w1.heap.size := hL1.lt
  generalize W0.heap.size = bl at *
  clear hN hw1 hb1 hx0 hb0
  have HL1 := hide hL1
  have HOW1 := hide hown1
  have HX1 := hide hx1
  have HBW := hide hbw
  have hbelow : ∀ W W' : World, bl ≤ W.heap.size → (∀ k, Rl.own W bl k → bl ≤ k) → Rl.Tn bl W W' → Below bl W W' ∧ ∀ k, Rl.own W' bl k → bl ≤ k := fun W W' h1 h2 h3 => by
    refine ⟨Gk.Only.below h3.only h1 h2, ?_⟩
    rintro k (rfl | hk)
    · exact Nat.le_refl _
    · rcases h3.new k hk with e | e
      · exact h2 k (Or.inr e)
      · omega
  have HBE := hide hbelow
  clear hL1 hown1 hx1 hbw hbelow
  refine (Classical.em (s.es = [])).elim (fun he => ?c1) (fun he => ?c2)
  case' c1 =>
    have hl0 : s.es.length = 0 := by rw [he]; rfl
    rw [hl0] at c3
    have HTIP := hide (show tip s.es = Lo.new by rw [he]; rfl)
    obtain ⟨wT, hwT⟩ : ∃ wT, wT = w1 := ⟨_, rfl⟩
    have HLT : Hid (∃ vT, LH wT bl (tip s.es) vT) := by show ∃ vT, _; rw [HTIP.out, hwT]; exact ⟨_, HL1.out⟩
    have HOWT : Hid (∀ k, Rl.own wT bl k → bl ≤ k) := by rw [hwT]; exact HOW1.out
    have HBT : Hid (Below w.heap.size w wT) := by rw [hwT]; exact HBW.out
    have HXT : Hid (wT.heap[w.heap.size]? = some (.cells (eenc e).toArray EnT (0, 0))) := by rw [hwT]; exact HX1.out
    have x0 : wT.cell? ⟨w.heap.size, 0, none⟩ = some (.int .i64 e.t) := by rw [cell_of_block HXT.out]; rfl
    have x1 : wT.cell? ⟨w.heap.size, 1, none⟩ = some (.string e.d) := by rw [cell_of_block HXT.out]; rfl
    rw [hwT] at x0 x1
    clear he hl0 HL1 HX1 HOW1 HBW
    go_wp2_with fail
    rw [← hwT]
    clear hwT c3 x0 x1
  case' c2 =>
    obtain ⟨m, hm⟩ : ∃ m, s.es.length = m + 1 := ⟨s.es.length - 1, by have := List.length_pos_iff.2 he; omega⟩
    have HE := hide (show s.es.getLast? = some (s.es[m]'(by omega)) by rw [List.getLast?_eq_getElem?, show s.es.length - 1 = m by omega, List.getElem?_eq_getElem])
    have hmem := List.getElem_mem (l := s.es) (n := m) (by omega)
    obtain ⟨hy1, hy2, hy3⟩ := hs.each _ hmem
    have hst := hs.t1
    obtain ⟨b, off, rfl, hbl2, hc⟩ := ((H.out.below HBW.out).row.lies).at Rl.eenc_len m (by omega)
    have y0 := hc 0 _ rfl
    have y1 := hc 1 _ rfl
    rw [Nat.add_zero] at y0
    clear hc
    generalize s.es[m]'(by omega) = y at *
    have HA := hide (Rl.Append_ok bl Lo.new _ y w1 HL1.out ⟨hy1, by omega, by show (0 : Int) ≤ y.t; omega, hy3, by decide⟩)
    rw [hm] at c3
    have g1 : (0 : Int) < (m : Int) + 1 := by omega
    have g3 : IntKind.i64.wrap ((m : Int) + 1 - 1) = m := by rw [show (m : Int) + 1 - 1 = m by omega]; exact wrap_in (by omega) (by omega)
    rw [Int.natCast_add] at *
    go_wp2_with fail
    refine HA.out.mono ?_
    clear HA
    rintro r wT ⟨rfl, hLT, hT⟩
    obtain ⟨hbT, hoT⟩ := HBE.out _ _ (Nat.le_of_lt hbl) HOW1.out hT
    have HLT : Hid (∃ vT, LH wT bl (tip s.es) vT) := by show ∃ vT, _; rw [tip, HE.out]; exact hLT
    have HOWT := hide hoT
    have HBT := hide (HBW.out.trans (hbT.mono (by omega)))
    have HXT := hide ((hbT.block _ hz0).trans HX1.out)
    have x0 : wT.cell? ⟨w.heap.size, 0, none⟩ = some (.int .i64 e.t) := by rw [cell_of_block HXT.out]; rfl
    have x1 : wT.cell? ⟨w.heap.size, 1, none⟩ = some (.string e.d) := by rw [cell_of_block HXT.out]; rfl
    clear hLT hT hbT hoT HL1 HOW1 HX1 HBW y0 y1 c3
    go_wp2_with fail
    clear x0 x1 hm
  all_goals
    obtain ⟨vT, hLT⟩ := HLT.out
    have HA2 := hide (Rl.Append_ok bl (tip s.es) vT e wT hLT ⟨hm1, hm2, by rw [tip_tm]; exact ho, hm3, by have := tip_last s.es; omega⟩)
    have hblT := hLT.lt
    clear hLT HLT
    refine HA2.out.mono ?_
    clear HA2
    rintro r w3 ⟨rfl, hL3, ht3⟩
    clear hL3
    obtain ⟨hb3, _⟩ := HBE.out _ _ (Nat.le_of_lt hblT) HOWT.out ht3
    have hw3 : Below w.heap.size w w3 := HBT.out.trans (hb3.mono (by omega))
    have hx3 := (hb3.block _ hz0).trans HXT.out
    have hR3 := H.out.below hw3
    have c3 := hR3.c3
    have f3 := hR3.fz 3
    have x0 : w3.cell? ⟨w.heap.size, 0, none⟩ = some (.int .i64 e.t) := by rw [cell_of_block hx3]; rfl
    have x1 : w3.cell? ⟨w.heap.size, 1, none⟩ = some (.string e.d) := by rw [cell_of_block hx3]; rfl
    have hba := hide (((Below.refl w3.heap.size w3).drew).alloc (Nat.le_refl _) (.cells (eenc e).toArray EnT))
    have HR := hide hR3
    have HW3 := hide hw3
    have hlt3 := hR3.lt
    have hz3 := (Array.getElem?_eq_some_iff.1 hx3).1
    generalize Lo.last (tip s.es) = q1 at *
    clear hR3 hw3 hx3 hb3 ht3 HBT HXT HOWT HBE h hs ho
    go_wp2
    go_region_law (refine step_er (by rfl) (.tmp 39) (.tmp 41) (by rfl) _ s.es (by rfl) (HR.out.row.below hba.out) w3.heap.size e (by rfl) (heap_alloc_new w3.drew _) (by omega) ?_; intro ad cap3 w4 her hg4 hat4; have hh := hide ((HR.out.below hba.out).set her hg4 hat4); have hb4 := hide (hg4.block bg (HR.out.below hba.out).lt (fun e => (HR.out.below hba.out).ne e.symm rfl)); have k3 := (World.cell?_of_block (a := ⟨bg, 3, none⟩) hb4.out).trans (HR.out.below hba.out).c3; have z3 := (World.frozen?_of_block (a := ⟨bg, 3, none⟩) hb4.out).trans ((HR.out.below hba.out).fz 3))
    all_goals
      go_wp2
      go_ret
      exact ⟨rfl, _, hh.out.1, (Gt.of_below (HW3.out.trans (hba.out.mono HW3.out.size))).trans hh.out.2⟩
end Go.Proofs.YtmpahgklcabihaaGreat.Ba

namespace Go.Proofs.YtmpahgklcabihaaGreat.Ba
open Go.RowKit Go.Joins Go.Proofs.YtmpahgklcabihaaGreat.Gk
open Go.Proofs.YtmpahgklcabihaaGreat.Rl (En Lo LH ER ptr blk)
open Go.Proofs.YtmpahgklcabihaaGreat.Fd (RdH RdL Rd One)

theorem number_at (x : Int) (rest : List Fld) (br : Nat) (w : World) (h : RdH w br ⟨num x :: rest, false⟩) :
    Calls Tryz.prog 89 #[ptr br] w fun e w' => e = .returned (.int .i64 x) ∧ RdH w' br ⟨rest, false⟩ ∧ One br w w' := Fd.number_rd _ br w h
theorem text_at (x : ByteArray) (rest : List Fld) (br : Nat) (w : World) (h : RdH w br ⟨txt x :: rest, false⟩) :
    Calls Tryz.prog 180 #[ptr br] w fun e w' => e = .returned (.string x) ∧ RdH w' br ⟨rest, false⟩ ∧ One br w w' := Fd.text_rd _ br w h
theorem done_at (br : Nat) (w : World) (h : RdH w br ⟨[], false⟩) :
    Calls Tryz.prog 91 #[ptr br] w fun e w' => e = .returned (.bool true) ∧ w' = w := Fd.isDone_rd _ br w h
theorem nil_stay {w w' : World} {br : Nat} (h : RdH w br ⟨[], false⟩) (hb : w'.heap[br]? = w.heap[br]?) : RdH w' br ⟨[], false⟩ := by
  obtain ⟨a, c, h⟩ := h
  exact ⟨a, c, hb.trans h.heap, Or.inl rfl, h.room, h.most, fun _ _ _ e => absurd rfl e⟩

/-- nothing but what was read, and the reader, has turned -/
structure Tt (bg br : Nat) (v v' : Value) (w w' : World) : Prop where
  only : Only (fun k => k = bg ∨ k = br ∨ blk v = some k) w w'
  new : ∀ g, blk v' = some g → blk v = some g ∨ w.heap.size ≤ g
theorem Tt.of_one {bg br : Nat} {v : Value} {w w' : World} (h : One br w w') : Tt bg br v v w w' := ⟨h.mono fun _ _ e => Or.inr (Or.inl e), fun _ h => Or.inl h⟩
theorem Tt.of_gt {bg br : Nat} {v v' : Value} {w w' : World} (h : Gt bg v v' w w') : Tt bg br v v' w w' := ⟨h.only.mono fun _ _ e => e.elim Or.inl fun e => Or.inr (Or.inr e), h.new⟩
theorem Tt.trans {bg br : Nat} {v u v' : Value} {a b c : World} (h : Tt bg br v u a b) (k : Tt bg br u v' b c) : Tt bg br v v' a c := by
  refine ⟨⟨k.only.os.trans h.only.os, k.only.tape.trans h.only.tape, k.only.output.trans h.only.output, Nat.le_trans h.only.size k.only.size, fun i hi hn => ?_⟩, fun i hi => ?_⟩
  · refine (k.only.block i (Nat.lt_of_lt_of_le hi h.only.size) ?_).trans (h.only.block i hi hn)
    rintro (rfl | rfl | e)
    · exact hn (Or.inl rfl)
    · exact hn (Or.inr (Or.inl rfl))
    · rcases h.new i e with e | e
      · exact hn (Or.inr (Or.inr e))
      · omega
  · rcases k.new i hi with e | e
    · exact h.new i e
    · exact Or.inr (Nat.le_trans h.only.size e)
/-- the reader goes on: what was read stays -/
theorem RG.one {w w' : World} {bg br : Nat} {n : Int} {s : Bl} {v : Value} (h : RG w bg n s v) (ho : One br w w') (h1 : bg < br) (h2 : ∀ g, blk v = some g → g < br) : RG w' bg n s v :=
  h.stay (ho.block bg h.lt (by omega)) fun g hg => ho.block g (h.row.lt hg) (by have := h2 g hg; omega)
theorem Gt.reader {w w' : World} {bg br : Nat} {v v' : Value} (h : Gt bg v v' w w') (hb : br < w.heap.size) (h1 : bg < br) (h2 : ∀ g, blk v = some g → g < br) : w'.heap[br]? = w.heap[br]? := by
  refine h.only.block br hb ?_
  rintro (e | e)
  · omega
  · have := h2 br e; omega

/-- what was read is set: the reader stays -/
theorem rd_setRG {w : World} {bg br : Nat} {n : Int} {s : Bl} {v : Value} {f : Fld} {r : List Fld} {b0 : Bool} (h : RdH w br ⟨f :: r, b0⟩) (hG : RG w bg n s v) (hne : bg ≠ br) (o : Nat) (u : Value) : RdH (w.setCell ⟨bg, o, none⟩ u) br ⟨f :: r, b0⟩ := by
  obtain ⟨a, c, h⟩ := h
  obtain ⟨b, off, ea, hbl, hc⟩ := h.lies.at Fd.fenc_len 0 (by simp)
  have d0 := hc 0 _ rfl
  simp only [List.getElem_cons_zero, Nat.zero_mul, Nat.add_zero] at d0
  have hb : b ≠ bg := by
    intro e
    rw [e, cell_of_block hG.box] at d0
    match off, d0 with
    | 0, d0 => simp at d0
    | 1, d0 => simp at d0
    | 2, d0 => simp at d0
    | 3, d0 =>
      simp at d0
      obtain ⟨a2, c2, e2, _⟩ := hG.row.slice
      rw [e2] at d0; cases d0
    | j + 4, d0 => simp at d0
  refine ⟨a, c, (Below.heap_setCell w ⟨bg, o, none⟩ u br (Ne.symm hne)).trans h.heap, h.lies.later (fun b' off' e _ => ?_) (by simp), h.room, h.most, h.apart⟩
  rw [ea] at e; cases e
  exact Below.heap_setCell w ⟨bg, o, none⟩ u b hb

set_option maxRecDepth 100000 in
set_option maxHeartbeats 4000000 in
theorem take_any (bg br : Nat) (n : Int) (s : Bl) (v : Value) (r : Rc) (w : World) (hR : RG w bg n s v) (hl : RdH w br ⟨r.flds, false⟩) (h1 : bg < br) (h2 : ∀ g, blk v = some g → g < br) (hm : r.may) (ho : r.ok n s) (hs : s.Ok n) (hes : s.es.length ≤ 1000000) :
    Calls Tryz.prog 138 #[ptr bg, ptr br] w fun e w' => e = .returned (.bool true) ∧ ∃ v', RG w' bg n (r.do s) v' ∧ Tt bg br v v' w w' := by
  cases r with
  | st t x =>
    obtain ⟨m1, m2, m3, m4⟩ := hm
    obtain ⟨o1, o2⟩ := ho
    have HN1 := hide (number_at 1 [num t, num x] br w hl)
    have m5 : ¬ 1073741824 < t := by omega
    go_enter Tryz.func138, Tryz.ntmps138
    go_wp2_with fail
    refine HN1.out.mono ?_
    rintro e w1 ⟨rfl, hl1, t1⟩
    clear HN1
    go_wp2_with fail
    refine (number_at t [num x] br w1 hl1).mono ?_
    rintro e w2 ⟨rfl, hl2, t2⟩
    have hR2 := (hR.one t1 h1 h2).one t2 h1 h2
    have T2 := hide ((Tt.of_one (bg := bg) (v := v) t1).trans (Tt.of_one t2))
    clear hl1 t1 t2 hl hR
    go_wp2_with fail
    refine (isTerm_yes t w2 m1 m2).mono ?_
    rintro e w2' ⟨rfl, hw2⟩
    rw [hw2]
    clear hw2 w2'
    rcases o2 with o2 | ⟨rfl, o3⟩
    · have c1 := hR2.c1
      have f1 := hR2.fz 1
      obtain ⟨hR3, G3⟩ := hR2.term t
      have c2' := hR3.c2
      have f2' := hR3.fz 2
      obtain ⟨hR4, G4⟩ := hR3.vote (-1)
      have hl4 := rd_setRG (rd_setRG hl2 hR2 (by omega) 1 (.int .i64 t)) hR3 (by omega) 2 (.int .i64 (-1))
      obtain ⟨W4, hW4⟩ : ∃ W4, (w2.setCell ⟨bg, 1, none⟩ (.int .i64 t)).setCell ⟨bg, 2, none⟩ (.int .i64 (-1)) = W4 := ⟨_, rfl⟩
      rw [hW4] at hl4 hR4 G4
      have T4 := hide ((T2.out.trans (Tt.of_gt G3)).trans (Tt.of_gt G4))
      have HN3 := hide (number_at x [] br W4 hl4)
      clear hR2 hR3 G3 G4 T2 hl2
      go_wp2_with fail
      clear c1 f1 c2' f2'
      refine HN3.out.mono ?_
      rintro e w5 ⟨rfl, hl5, t5⟩
      have hR5 := hR4.one t5 h1 h2
      have T5 := hide (T4.out.trans (Tt.of_one t5))
      have HV := hide (takeVote_any bg n _ v x w5 hR5 m3 o1 (Or.inl rfl))
      clear hR4 T4 HN3 t5
      go_wp2_with fail
      refine HV.out.mono ?_
      rintro e w6 ⟨rfl, hR6, G6⟩
      have hl6 := nil_stay hl5 (G6.reader hl5.lt h1 h2)
      have T6 := hide (T5.out.trans (Tt.of_gt G6))
      clear HV hR5 T5 G6 hl5
      go_wp2_with fail
      refine (done_at br w6 hl6).mono ?_
      rintro e w7 ⟨rfl, rfl⟩
      go_wp2
      go_ret
      exact ⟨rfl, v, hR6, T6.out⟩
    · have c1 := hR2.c1
      have g1 : ¬ s.t < s.t := by omega
      have HN3 := hide (number_at x [] br w2 hl2)
      go_wp2_with fail
      clear c1
      refine HN3.out.mono ?_
      rintro e w5 ⟨rfl, hl5, t5⟩
      have hR5 := hR2.one t5 h1 h2
      have T5 := hide (T2.out.trans (Tt.of_one t5))
      have HV := hide (takeVote_any bg n _ v x w5 hR5 m3 o1 o3)
      clear hR2 T2 HN3 t5
      go_wp2_with fail
      refine HV.out.mono ?_
      rintro e w6 ⟨rfl, hR6, G6⟩
      have hl6 := nil_stay hl5 (G6.reader hl5.lt h1 h2)
      have T6 := hide (T5.out.trans (Tt.of_gt G6))
      clear HV hR5 T5 G6 hl5
      go_wp2_with fail
      refine (done_at br w6 hl6).mono ?_
      rintro e w7 ⟨rfl, rfl⟩
      go_wp2
      go_ret
      exact ⟨rfl, v, hR6, T6.out⟩
  | en e =>
    obtain ⟨o1, o2⟩ := ho
    have hm' := hide hm
    obtain ⟨m1, m2, m3⟩ := hm
    have HN1 := hide (number_at 2 [num e.t, txt e.d] br w hl)
    go_enter Tryz.func138, Tryz.ntmps138
    go_wp2_with fail
    refine HN1.out.mono ?_
    rintro r w1 ⟨rfl, hl1, t1⟩
    clear HN1
    go_wp2_with fail
    refine (number_at e.t [txt e.d] br w1 hl1).mono ?_
    rintro r w2 ⟨rfl, hl2, t2⟩
    have hR2 := (hR.one t1 h1 h2).one t2 h1 h2
    have T2 := hide ((Tt.of_one (bg := bg) (v := v) t1).trans (Tt.of_one t2))
    clear hl1 t1 t2 hl hR
    have c1 := hR2.c1
    have HN3 := hide (text_at e.d [] br w2 hl2)
    go_wp2_with fail
    clear c1
    refine HN3.out.mono ?_
    rintro r w5 ⟨rfl, hl5, t5⟩
    have hR5 := hR2.one t5 h1 h2
    have T5 := hide (T2.out.trans (Tt.of_one t5))
    have HV := hide (takeEntry_any bg n s v e w5 hR5 hm'.out o2 hs hes)
    clear hR2 T2 HN3 t5
    go_wp2_with fail
    refine HV.out.mono ?_
    rintro r w6 ⟨rfl, v6, hR6, G6⟩
    have hl6 := nil_stay hl5 (G6.reader hl5.lt h1 h2)
    have T6 := hide (T5.out.trans (Tt.of_gt G6))
    clear HV hR5 T5 G6 hl5
    go_wp2_with fail
    refine (done_at br w6 hl6).mono ?_
    rintro r w7 ⟨rfl, rfl⟩
    go_wp2
    go_ret
    exact ⟨rfl, v6, hR6, T6.out⟩
  | ct k =>
    obtain ⟨o1, o2⟩ := ho
    have HN1 := hide (number_at 3 [num k] br w hl)
    go_enter Tryz.func138, Tryz.ntmps138
    go_wp2_with fail
    refine HN1.out.mono ?_
    rintro r w1 ⟨rfl, hl1, t1⟩
    clear HN1
    go_wp2_with fail
    refine (number_at k [] br w1 hl1).mono ?_
    rintro r w5 ⟨rfl, hl5, t2⟩
    have hR5 := (hR.one t1 h1 h2).one t2 h1 h2
    have T5 := hide ((Tt.of_one (bg := bg) (v := v) t1).trans (Tt.of_one t2))
    clear hl1 t1 t2 hl hR
    have HV := hide (takeCut_any bg n s v k w5 hR5 o1 o2 (by omega))
    go_wp2_with fail
    refine HV.out.mono ?_
    rintro r w6 ⟨rfl, v6, hR6, G6⟩
    have hl6 := nil_stay hl5 (G6.reader hl5.lt h1 h2)
    have T6 := hide (T5.out.trans (Tt.of_gt G6))
    clear HV hR5 T5 G6 hl5
    go_wp2_with fail
    refine (done_at br w6 hl6).mono ?_
    rintro r w7 ⟨rfl, rfl⟩
    go_wp2
    go_ret
    exact ⟨rfl, v6, hR6, T6.out⟩
end Go.Proofs.YtmpahgklcabihaaGreat.Ba

namespace Go.Proofs.YtmpahgklcabihaaGreat.Ba
open Go.RowKit Go.Joins Go.Proofs.YtmpahgklcabihaaGreat.Gk
open Go.Proofs.YtmpahgklcabihaaGreat.Dk (Bs)
open Go.Proofs.YtmpahgklcabihaaGreat.Rl (En Lo LH ER ptr blk)
open Go.Proofs.YtmpahgklcabihaaGreat.Fd (RdH RdL Rd One)

theorem frs_at (l : List Rc) (i : Nat) (h : i < l.length) : frs l = frs (l.take i) ++ (l[i].fr ++ frs (l.drop (i + 1))) := by
  conv => lhs; rw [← List.take_append_drop i l, List.drop_eq_getElem_cons h, frs_append, frs_cons]
theorem frs_next (l : List Rc) (i : Nat) (h : i < l.length) : frs (l.take (i + 1)) = frs (l.take i) ++ l[i].fr := by
  rw [List.take_succ_eq_append_getElem h, frs_append, frs_one]
theorem run_next (s : Bl) (l : List Rc) (i : Nat) (h : i < l.length) : run s (l.take (i + 1)) = l[i].do (run s (l.take i)) := by
  rw [List.take_succ_eq_append_getElem h, run_append]; rfl
theorem Oks.at {n : Int} {s : Bl} {l : List Rc} (h : Oks n s l) (i : Nat) (hi : i < l.length) : l[i].may ∧ l[i].ok n (run s (l.take i)) := by
  rw [← List.take_append_drop i l, List.drop_eq_getElem_cons hi] at h
  obtain ⟨_, h1, h2, _⟩ := Oks.append.1 h
  exact ⟨h1, h2⟩
theorem only_trans {A B : Nat → Prop} {a b c : World} (h : Only A a b) (k : Only B b c) (hk : ∀ i, i < a.heap.size → B i → A i) : Only A a c :=
  ⟨k.os.trans h.os, k.tape.trans h.tape, k.output.trans h.output, Nat.le_trans h.size k.size, fun i hi hn => (k.block i (Nat.lt_of_lt_of_le hi h.size) fun e => hn (hk i hi e)).trans (h.block i hi hn)⟩
/-- what was read so far, in a loop: all of it is new but its box -/
structure RA (w W : World) (bg : Nat) (n : Int) (s : Bl) (v : Value) : Prop where
  rg : RG W bg n s v
  only : Only (fun k => k = bg) w W
  new : ∀ g, blk v = some g → w.heap.size ≤ g
theorem RA.below {w W W' : World} {bg : Nat} {n : Int} {s : Bl} {v : Value} (h : RA w W bg n s v) (hb : Below W.heap.size W W') : RA w W' bg n s v :=
  ⟨h.rg.below hb, h.only.trans (Only.of_below hb), h.new⟩
theorem RA.take {w W W' : World} {bg br : Nat} {n : Int} {s s' : Bl} {v v' : Value} (h : RA w W bg n s v) (hr : RG W' bg n s' v') (ht : Tt bg br v v' W W') (hbr : w.heap.size ≤ br) : RA w W' bg n s' v' := by
  refine ⟨hr, only_trans h.only ht.only fun k hk e => ?_, fun g hg => ?_⟩
  · rcases e with e | e | e
    · exact e
    · omega
    · have := h.new k e; omega
  · rcases ht.new g hg with e | e
    · exact h.new g e
    · exact Nat.le_trans h.only.size e

set_option maxRecDepth 100000 in
set_option maxHeartbeats 4000000 in
theorem takeAll_any (bg : Nat) (n : Int) (s : Bl) (rs : List Rc) (tl : Bs) (file : ByteArray) (w : World) (hR : RG w bg n s (.slice none 0 0)) (hd : file.data.toList = frs rs ++ tl) (ht : Torn tl) (ho : Oks n s rs) (hs : s.Ok n) (hes : s.es = []) (hf : file.size ≤ 262144) :
    Calls Tryz.prog 92 #[ptr bg, .string file] w fun e w' => e = .returned (.tuple #[.int .i64 (frs rs).length, .bool true]) ∧ ∃ v', RA w w' bg n (run s rs) v' := by
  have hsz : file.size = (frs rs).length + tl.length := by rw [Lib.size_eq, hd, List.length_append]
  have hmany : rs.length ≤ 32768 := by have := frs_many rs; omega
  have HSZ := hide hsz
  have hsz1 : (frs rs).length ≤ file.size := by omega
  have HO := hide ho
  have HS := hide hs
  have HD := hide hd
  have HTN := hide ht
  clear hd ho hs ht hsz
  go_enter Tryz.func92, Tryz.ntmps92
  go_wp2
  go_loopw [4] (fun i W => ∃ k : Nat, k ≤ rs.length ∧ i = .int .i64 (frs (rs.take k)).length ∧ ∃ v, RA w W bg n (run s (rs.take k)) v) (fun i _ => file.size - (intOf i).toNat)
  case atStart => exact ⟨0, Nat.zero_le _, rfl, _, hR, Only.refl _ _, fun g hg => by cases hg⟩
  case round =>
    obtain ⟨k, hk, rfl, v, hA⟩ := hrel
    by_cases hlt : k < rs.length
    · have HF := hide (frs_at rs k hlt)
      have HX := hide (frs_next rs k hlt)
      have HU := hide (run_next s rs k hlt)
      obtain ⟨hm, hok⟩ := HO.out.at k hlt
      have hsk := HS.out.run (HO.out.take k)
      have hesk : (run s (rs.take k)).es.length ≤ 1000000 := by have := run_many s (rs.take k); rw [hes, List.length_take] at this; simp only [List.length_nil] at this; omega
      generalize rs[k] = r at *
      generalize run s (rs.take k) = sk at *
      obtain ⟨p, hp⟩ : ∃ p, (frs (rs.take k)).length = p := ⟨_, rfl⟩
      have hp2 : p + r.fr.length + (frs (rs.drop (k + 1))).length = (frs rs).length := by rw [HF.out, List.length_append, List.length_append, hp]; omega
      have hfr := fr_pos r
      have hps : p < file.size := by omega
      have hel := encs_len hm
      have hsz2 : (ByteArray.mk (encs r.flds).toArray).size = (encs r.flds).length := by show (encs r.flds).toArray.size = _; simp
      have hUn : ∀ W, Calls Tryz.prog 137 #[.string file, .int .i64 p] W fun e w' => e = .returned (.tuple #[.string ⟨(encs r.flds).toArray⟩, .int .i64 ((p + r.fr.length : Nat) : Int), .agg #[.int .i64 0, .int .i64 0]]) ∧ Below W.heap.size W w' := fun W => by
        have hdp : file.data.toList.drop p = frm (encs r.flds) ++ (frs (rs.drop (k + 1)) ++ tl) := by
          rw [HD.out, HF.out, List.append_assoc, ← hp, List.drop_left, List.append_assoc]; rfl
        have h := Unframe_any file p W (by omega) (by omega) (by omega)
        rw [unframeV, unframe_good (by omega) (by rw [hdp]; exact unf_frame _ _ (by omega))] at h
        refine h.mono ?_
        rintro e w' ⟨rfl, hb⟩
        refine ⟨?_, hb⟩
        rw [fr_length]; simp only [Int.natCast_add]
      have hDe : ∀ W, Calls Tryz.prog 86 #[.string ⟨(encs r.flds).toArray⟩] W fun e w' => ∃ v, e = .returned (.tuple #[v, .agg #[.int .i64 0, .int .i64 0]]) ∧ w'.ownsRow W.heap.size 120 3 v r.flds.length (fcells r.flds) ∧ Below W.heap.size W w' := fun W => by
        have h := Decode_any ⟨(encs r.flds).toArray⟩ W (by rw [hsz2]; omega)
        rw [Rc.dec hm] at h
        exact h
      have HP1 := hide (show (frs (rs.take (k + 1))).length = p + r.fr.length by rw [HX.out, List.length_append, hp])
      have HM := hide (show file.size - (p + r.fr.length) < file.size - p by omega)
      rw [hp]
      generalize hq : p + r.fr.length = q at *
      clear hp hq HF HX hp2 hfr hel hsz2
      generalize (ByteArray.mk (encs r.flds).toArray) = b0 at *
      go_wp2_with fail
      refine (hUn _).mono ?_
      rintro e w1 ⟨rfl, hb1⟩
      clear hUn
      have hA1 := hA.below hb1
      have hz1 : w.heap.size ≤ w1.heap.size := hA1.only.size
      clear hA hb1
      go_wp2_with fail
      refine (hDe _).mono ?_
      rintro e w2 ⟨u, rfl, ho2, hb2⟩
      clear hDe
      have hA2 := (hA1.below ((Below.refl _ w1).alloc (Nat.le_refl _) _)).below hb2
      have hB2 : w2.heap[w1.heap.size]? = some (.cells #[.int .i64 0, .int .i64 0] 156 (0, 0)) := (hb2.block _ (by simp)).trans (heap_alloc_new w1 _)
      have hz2 : w1.heap.size < w2.heap.size := by have := hb2.size; simp at this; omega
      have f0 : w2.cell? ⟨w1.heap.size, 0, none⟩ = some (.int .i64 0) := cell_of_block hB2 0
      have f1 : w2.cell? ⟨w1.heap.size, 1, none⟩ = some (.int .i64 0) := cell_of_block hB2 1
      have y0 := unfrozen_of_block hB2 0
      have y1 := unfrozen_of_block hB2 1
      obtain ⟨W3, hW3⟩ : ∃ W3, (w2.setCell ⟨w1.heap.size, 0, none⟩ (.int .i64 0)).setCell ⟨w1.heap.size, 1, none⟩ (.int .i64 0) = W3 := ⟨_, rfl⟩
      have k3 : ∀ k, k ≠ w1.heap.size → W3.heap[k]? = w2.heap[k]? := fun k hk => by rw [← hW3, Below.heap_setCell _ _ _ k hk, Below.heap_setCell _ _ _ k hk]
      have hB3 : W3.heap[w1.heap.size]? = some (.cells #[.int .i64 0, .int .i64 0] 156 (0, 0)) := by rw [← hW3, block_setCell (block_setCell hB2 _) _]; rfl
      have hzz : W3.heap.size ≤ w2.heap.size ∧ w2.heap.size ≤ W3.heap.size := by rw [← hW3]; simp
      have f3 : W3.cell? ⟨w1.heap.size, 1, none⟩ = some (.int .i64 0) := cell_of_block hB3 1
      have hbg := hA1.rg.lt
      have hA3 : RA w W3 bg n sk v := by
        refine ⟨hA2.rg.stay (k3 _ (by omega)) fun g hg => k3 g fun e => ?_, only_trans (B := fun i => i = w1.heap.size) hA2.only ⟨by rw [← hW3]; rfl, by rw [← hW3]; rfl, by rw [← hW3]; rfl, by omega, fun i _ hn => k3 i hn⟩ (fun i hi e => by omega), hA2.new⟩
        have := hA1.rg.row.lt hg; omega
      have ho3 : W3.ownsRow (w1.heap.size + 1) 120 3 u r.flds.length (fcells r.flds) := by
        rw [World.size_alloc] at ho2
        exact Dk.ownsRow_stay ho2 fun g hg => k3 g (by have := (ho2.lt g hg).1; omega)
      obtain ⟨ua, uc, rfl⟩ := own_slice ho3
      have hrl : r.flds.length ≤ 4096 := by cases r <;> simp [Rc.flds]
      have HRd := hide (Fd.RdH.new ho3 hrl)
      have hRe := Fd.Read_rd ua r.flds.length uc W3
      clear ho2 hB2 hb2 hA2 hA1 hB3
      go_wp2_with fail
      clear f0 f1 y0 y1 f3 k3
      clear hW3
      refine hRe.mono ?_
      rintro e w4 ⟨rfl, hw4⟩
      have hA4 : RA w w4 bg n sk v := by rw [hw4]; exact hA3.below ((Below.refl _ _).alloc (Nat.le_refl _) _)
      have hRd4 : RdH w4 W3.heap.size ⟨r.flds, false⟩ := by rw [hw4]; exact HRd.out
      have HTk := hide (take_any bg W3.heap.size n sk v r w4 hA4.rg hRd4 hA3.rg.lt (fun g hg => hA3.rg.row.lt hg) hm hok hsk hesk)
      clear hRe HRd hw4 hRd4
      go_wp2_with fail
      refine HTk.out.mono ?_
      rintro e w5 ⟨rfl, v5, hR5, hT5⟩
      have hA5 := hA4.take hR5 hT5 (by omega)
      clear HTk hA4 hR5 hT5
      go_wp2
      go_roundw
      case rel => exact ⟨k + 1, by omega, by rw [HP1.out], v5, by rw [HU.out]; exact hA5⟩
      case measure => simp only [intOf, Int.toNat_natCast]; exact HM.out
    · obtain rfl : k = rs.length := by omega
      rw [List.take_length] at *
      by_cases htl : tl = []
      · have hps : ¬ (frs rs).length < file.size := by rw [HSZ.out, htl]; simp
        go_wp2
        go_ret2
        exact ⟨rfl, v, hA⟩
      · have hps : (frs rs).length < file.size := by have := List.length_pos_iff.2 htl; have := HSZ.out; omega
        have hUn : ∀ W, Calls Tryz.prog 137 #[.string file, .int .i64 (frs rs).length] W fun e w' => e = .returned (.tuple #[.string ⟨#[]⟩, .int .i64 0, .agg #[.int .i64 (frs rs).length, .int .i64 11]]) ∧ Below W.heap.size W w' := fun W => by
          have h := Unframe_any file (frs rs).length W (by omega) (by omega) (by omega)
          rw [unframeV, unframe_bad (e := 11) (by omega) (by rw [HD.out, List.drop_left]; exact HTN.out.unf htl) (by decide)] at h
          exact h
        go_wp2_with fail
        refine (hUn _).mono ?_
        rintro e w1 ⟨rfl, hb1⟩
        have hA1 := hA.below hb1
        clear hUn hA
        go_wp2
        go_ret2
        exact ⟨rfl, v, hA1.below ((Below.refl _ w1).alloc (Nat.le_refl _) _)⟩
end Go.Proofs.YtmpahgklcabihaaGreat.Ba
