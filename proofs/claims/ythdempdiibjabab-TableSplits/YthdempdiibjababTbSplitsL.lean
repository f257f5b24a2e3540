/- Layer 9: TableSplits: the law's walk; what a span reads as, when it is a law's argument. -/
import Derived.Test.YthdempdiibjababTbTk
import Derived.Test.YthdempdiibjababTbGot
import Derived.Test.YthdempdiibjababTbBook
import Derived.Test.YthdempdiibjababOpArgO
namespace Go.Proofs.Ythdempdiibjabab.Tb
open Go.ChangeShapes Go.WideShapes Go.ChangeAt Go.RowKit Go.Deep Go.Joins Go.Proofs.Ythdempdiibjabab.Gk Go.Proofs.Ythdempdiibjabab.Oq Go.Proofs.Ythdempdiibjabab.Sp

theorem cells_span : Try.prog.cellsOf 24 = 2 := by kernel_rfl
set_option maxRecDepth 100000 in
theorem open_span {H : Type} {enc : TypeId × Value → H} {W : World} {fuel : Nat} {cs : List Value} {x : DataW H × List MemPlace} (h : DataW.trod enc Try.prog W 0 (fun _ => true) true fuel 24 cs = some x) (_ : ∀ n ∈ x.1.weights Try.prog 24, n ≤ reachBytes) :
    ∃ f : Sp.Sp, cs = [.string f.fr, .string f.to] ∧ True := by
  obtain ⟨xs, n, _, rfl, hl, hxl, hf⟩ := DataW.trod_struct Try.underlying24 h
  rw [cells_span] at hl
  match cs, hl, xs, hxl with
  | [v0, v1], _, [y0, y1], _ =>
    have h0 := hf 0 _ rfl
    have h1 := hf 1 _ rfl
    simp [cells_string] at h0 h1
    obtain ⟨s0, e0, _⟩ := DataW.trod_string Try.underlying9 h0
    obtain ⟨s1, e1, _⟩ := DataW.trod_string Try.underlying9 h1
    simp only [List.cons.injEq, and_true] at e0 e1
    subst e0 e1
    exact ⟨⟨s0, s1⟩, rfl, trivial⟩
theorem span_eq {cs : Array Value} {x : Sp.Sp} (h : (Value.agg cs).cells.toList = [.string x.fr, .string x.to]) : Value.agg cs = spv x := by
  have : cs.toList = [.string x.fr, .string x.to] := h
  rw [show cs = #[.string x.fr, .string x.to] from Array.toList_inj.1 (by rw [this])]

theorem row?_puts : ∀ {m l : List Rw}, Rise m → ∀ q, row? (puts l m) q = (row? m q).or (row? l q)
  | [], _, _, q => by simp [puts, row?]
  | r :: m, l, h, q => by
    show row? (puts (put l r) m) q = _
    rw [row?_puts h.cons, row?_put, row?_cons]
    by_cases e : r.key = q
    · subst e
      have : row? m r.key = none := by
        rw [row?, List.find?_eq_none]; intro z hz hc; exact B4.ne (h.head z hz) (of_decide_eq_true hc).symm
      rw [this, if_pos rfl, if_pos rfl]; rfl
    · rw [if_neg e, if_neg e]
theorem row?_filter (l : List Rw) (f : ByteArray → Bool) (q : ByteArray) : row? (l.filter fun r => f r.key) q = if f q = true then row? l q else none := by
  unfold row?
  rw [List.find?_filter]
  split
  · rename_i h
    congr 1; funext r
    by_cases e : r.key = q
    · subst e; simp [h]
    · simp [e]
  · rename_i h
    rw [List.find?_eq_none]
    intro r _ hc
    simp only [decide_eq_true_eq] at hc
    rw [hc.2] at hc; exact h hc.1
theorem puts_nil {R : List Rw} (h : Rise R) : puts [] R = R :=
  Rise.ext (puts_rise List.Pairwise.nil) h fun q => by
    rw [row?_puts h, show row? ([] : List Rw) q = none from rfl]
    cases row? R q <;> rfl
/-- what was taken out, put in again -/
theorem split_back {T : List Rw} (h : Rise T) (s : Sp.Sp) : puts (T.filter fun r => !s.has r.key) (T.filter fun r => s.has r.key) = T := by
  have h1 : Rise (T.filter fun r => s.has r.key) := List.Pairwise.filter _ h
  have h2 : Rise (T.filter fun r => !s.has r.key) := List.Pairwise.filter _ h
  refine Rise.ext (puts_rise h2) h fun q => ?_
  rw [row?_puts h1, row?_filter T (fun k => s.has k), row?_filter T (fun k => !s.has k)]
  cases s.has q
  · simp
  · simp
theorem fil_fil (T : List Rw) (s : Sp.Sp) : ((T.filter fun r => !s.has r.key).filter fun r => s.has r.key) = [] := by
  rw [List.filter_eq_nil_iff]
  intro r hr
  have := (List.mem_filter.1 hr).2
  simp only [Bool.not_eq_true'] at this
  simp [this]
theorem fil_self (T : List Rw) (s : Sp.Sp) : ((T.filter fun r => s.has r.key).filter fun r => s.has r.key) = (T.filter fun r => s.has r.key) :=
  List.filter_eq_self.2 fun _ hr => (List.mem_filter.1 hr).2

set_option maxRecDepth 100000 in
set_option maxHeartbeats 1600000 in
theorem splits_law (la : Option Addr) (lc : Nat) (l : List OpsA) (s : Sp.Sp) (w : World) (hl : Lies w osenc la l) (he : ∀ x ∈ l, Lies w oenc x.a x.ops) (_ : True) :
    Calls Try.prog 3 #[.slice la l.length lc, spv s] w fun e w' => e = .returned (.bool true) ∧ Below w.heap.size w w' := by
  obtain ⟨fr, to⟩ := s
  go_enter Try.func3, Try.ntmps3
  go_wp2_with fail
  have hb0 := below_a1 w (.cells #[.string fr, .string to] 24)
  have hxs0 := heap_alloc_new w (.cells #[.string fr, .string to] 24)
  obtain ⟨w0, hw0⟩ : ∃ w0, w0 = w.alloc (.cells #[.string fr, .string to] 24) := ⟨_, rfl⟩
  rw [← hw0] at hb0 hxs0 ⊢
  clear hw0
  refine (works_tb w0).mono ?_
  rintro e w1 ⟨rfl, hb⟩
  have hb1 := hb0.trans (hb.mono hb0.size)
  have hxs1 := (hb.block _ (Array.getElem?_eq_some_iff.1 hxs0).1).trans hxs0
  have x1a : w1.cell? ⟨w.heap.size, 0, none⟩ = some (.string fr) := cellB hxs1 0 rfl
  have x1b : w1.cell? ⟨w.heap.size, 1, none⟩ = some (.string to) := cellB hxs1 1 rfl
  have hP := fun W (hb : Below w.heap.size w W) => played_tb la lc l W (hl.below hb) (fun x hx => (he x hx).below hb)
  generalize plays [] (l.take 40) = TT at hP
  clear hb hb0
  go_wp2_with fail
  refine (hP _ hb1).mono ?_
  rintro e w2 ⟨bt, rfl, ht2, lt2, hb⟩
  have hb2 := hb1.trans (hb.mono hb1.size)
  have s2 := Nat.le_trans hb1.size lt2
  have nb : w.heap.size < bt := Nat.lt_of_lt_of_le (Array.getElem?_eq_some_iff.1 hxs1).1 lt2
  have hxs2 := (hb.block _ (Array.getElem?_eq_some_iff.1 hxs1).1).trans hxs1
  have x2a : w2.cell? ⟨w.heap.size, 0, none⟩ = some (.string fr) := cellB hxs2 0 rfl
  have x2b : w2.cell? ⟨w.heap.size, 1, none⟩ = some (.string to) := cellB hxs2 1 rfl
  clear hb hP hb1 lt2 x1a x1b
  go_wp2_with fail
  refine (New_tb w2).mono ?_
  rintro e w3 ⟨bu, rfl, hu3, ltu, hb⟩
  have hb3 := hb2.trans (hb.mono hb2.size)
  have su := Nat.le_trans hb2.size ltu
  have nu : bt < bu := Nat.lt_of_lt_of_le ht2.lt ltu
  have ht3 := ht2.below hb
  have hxs3 := (hb.block _ (Array.getElem?_eq_some_iff.1 hxs2).1).trans hxs2
  have x3a : w3.cell? ⟨w.heap.size, 0, none⟩ = some (.string fr) := cellB hxs3 0 rfl
  have x3b : w3.cell? ⟨w.heap.size, 1, none⟩ = some (.string to) := cellB hxs3 1 rfl
  clear hb ht2 hb2 ltu x2a x2b
  have HRi := hide ht3.1.rise
  have hTl := ht3.1.len
  go_wp2_with fail
  refine (Rows_all bt TT w3 ht3).mono ?_
  rintro e w4 ⟨g4, rfl, ho4, hb⟩
  have hb4 := hb3.trans (hb.mono hb3.size)
  have ht4 := ht3.below hb
  have hu4 := hu3.below hb
  have hr4 := RL.of_own ho4
  have hxs4 := (hb.block _ (Array.getElem?_eq_some_iff.1 hxs3).1).trans hxs3
  have x4a : w4.cell? ⟨w.heap.size, 0, none⟩ = some (.string fr) := cellB hxs4 0 rfl
  have x4b : w4.cell? ⟨w.heap.size, 1, none⟩ = some (.string to) := cellB hxs4 1 rfl
  clear hb ht3 hu3 hb3 ho4 x3a x3b
  go_wp2_with fail
  refine (Rows_tb bt TT ⟨fr, to⟩ w4 ht4).mono ?_
  rintro e w5 ⟨g5, R, rfl, hR0, ho5, hb⟩
  have HR := hide hR0
  clear hR0
  have hb5 := hb4.trans (hb.mono hb4.size)
  have ht5 := ht4.below hb
  have hu5 := hu4.below hb
  have hr5 := hr4.below hb
  have hq5 := RL.of_own ho5
  have hxs5 := (hb.block _ (Array.getElem?_eq_some_iff.1 hxs4).1).trans hxs4
  have x5a : w5.cell? ⟨w.heap.size, 0, none⟩ = some (.string fr) := cellB hxs5 0 rfl
  have x5b : w5.cell? ⟨w.heap.size, 1, none⟩ = some (.string to) := cellB hxs5 1 rfl
  clear hb ht4 hu4 hb4 hr4 ho5 x4a x4b
  have hRt : Tok R := by rw [HR.out]; exact ht5.1.filter _
  have hRl := hRt.len
  have hfn : freshN [] R ≤ R.length := freshN_le _ _
  have htk : takes [] R = (0, R) := by rw [takes_ok (chkR_ok hRt.each hRt.rise) (by simp; omega), puts_nil hRt.rise]
  have hTk := Take_tb bu [] (some ⟨g5, 0, none⟩) R.length R w5 hu5 hq5.lies (by omega)
  rw [htk] at hTk
  have HRt := hide hRt
  clear htk hfn hRt
  go_wp2_with fail
  refine hTk.mono ?_
  rintro e w6 ⟨rfl, hu6, hTu⟩
  have hb6 := turn_below hb5 su hTu
  have ht6 := ht5.turn hu5 (by omega) hTu
  have hr6 := hr5.turn hu5 hTu
  have hq6 := hq5.turn hu5 hTu
  have hxs6 := (hTu.block _ (Array.getElem?_eq_some_iff.1 hxs5).1 (by show w.heap.size ≠ bu; omega)).trans hxs5
  have x6a : w6.cell? ⟨w.heap.size, 0, none⟩ = some (.string fr) := cellB hxs6 0 rfl
  have x6b : w6.cell? ⟨w.heap.size, 1, none⟩ = some (.string to) := cellB hxs6 1 rfl
  clear hTu hTk ht5 hu5 hb5 hr5 hq5 x5a x5b
  have hDr := Drop_tb bt TT ⟨fr, to⟩ w6 ht6
  rw [← HR.out] at hDr
  obtain ⟨U, hU⟩ : ∃ U, U = TT.filter fun r => !Sp.Sp.has ⟨fr, to⟩ r.key := ⟨_, rfl⟩
  rw [← hU] at hDr
  have hbk : puts U R = TT := by rw [hU, HR.out]; exact split_back HRi.out _
  have hUR : (U.filter fun r => Sp.Sp.has ⟨fr, to⟩ r.key) = [] := by rw [hU]; exact fil_fil _ _
  have hRR : (R.filter fun r => Sp.Sp.has ⟨fr, to⟩ r.key) = R := by rw [HR.out]; exact fil_self _ _
  have hUr : Rise U := by rw [hU]; exact List.Pairwise.filter _ HRi.out
  have HB := hide hbk
  have HUR := hide hUR
  have HRR := hide hRR
  have HUr := hide hUr
  clear hU hbk hUR hRR hUr HR
  have nR : ((R.length : Int) != (R.length : Int)) = false := by simp
  go_wp2_with fail
  refine hDr.mono ?_
  rintro e w7 ⟨rfl, ht7, hTu⟩
  have hb7 := turn_below hb6 s2 hTu
  have hu7 := hu6.turn ht6 (by omega) hTu
  have hr7 := hr6.turn ht6 hTu
  have hq7 := hq6.turn ht6 hTu
  have hxs7 := (hTu.block _ (Array.getElem?_eq_some_iff.1 hxs6).1 (by show w.heap.size ≠ bt; omega)).trans hxs6
  have x7a : w7.cell? ⟨w.heap.size, 0, none⟩ = some (.string fr) := cellB hxs7 0 rfl
  have x7b : w7.cell? ⟨w.heap.size, 1, none⟩ = some (.string to) := cellB hxs7 1 rfl
  clear hTu hDr ht6 hu6 hb6 hr6 hq6 x6a x6b
  go_wp2_with fail
  refine (Rows_tb bt U ⟨fr, to⟩ w7 ht7).mono ?_
  rintro e w8 ⟨g8, R8, rfl, hR8, ho8, hb⟩
  rw [HUR.out] at hR8
  subst hR8
  have hb8 := hb7.trans (hb.mono hb7.size)
  have ht8 := ht7.below hb
  have hu8 := hu7.below hb
  have hr8 := hr7.below hb
  have hq8 := hq7.below hb
  have hxs8 := (hb.block _ (Array.getElem?_eq_some_iff.1 hxs7).1).trans hxs7
  have x8a : w8.cell? ⟨w.heap.size, 0, none⟩ = some (.string fr) := cellB hxs8 0 rfl
  have x8b : w8.cell? ⟨w.heap.size, 1, none⟩ = some (.string to) := cellB hxs8 1 rfl
  clear hb ht7 hu7 hb7 hr7 hq7 ho8 x7a x7b
  simp only [List.length_nil]
  go_wp2_with fail
  refine (Rows_tb bu R ⟨fr, to⟩ w8 hu8).mono ?_
  rintro e w9 ⟨g9, R9, rfl, hR9, ho9, hb⟩
  rw [HRR.out] at hR9
  rw [hR9] at ho9 ⊢
  clear hR9
  have hb9 := hb8.trans (hb.mono hb8.size)
  have ht9 := ht8.below hb
  have hu9 := hu8.below hb
  have hr9 := hr8.below hb
  have hq9 := hq8.below hb
  clear hb ht8 hu8 hb8 hr8 hq8 x8a x8b
  go_wp2_with fail
  refine (sameRows_any _ _ _ _ R w9 (RL.of_own ho9).lies hq9.lies (by omega)).mono ?_
  rintro e w10 ⟨rfl, hb⟩
  have hb10 := hb9.trans (hb.mono hb9.size)
  have ht10 := ht9.below hb
  have hu10 := hu9.below hb
  have hr10 := hr9.below hb
  clear hb ht9 hu9 hb9 hr9 hq9 ho9
  go_wp2_with fail
  refine (Rows_all bu R w10 hu10).mono ?_
  rintro e w11 ⟨g11, rfl, ho11, hb⟩
  have hb11 := hb10.trans (hb.mono hb10.size)
  have ht11 := ht10.below hb
  have hr11 := hr10.below hb
  clear hb ht10 hu10 hb10 hr10
  have hTk := Take_tb bt U (some ⟨g11, 0, none⟩) R.length R w11 ht11 (RL.of_own ho11).lies (by omega)
  have hpl := puts_len HUr.out HRt.out.rise
  rw [HB.out] at hpl
  rw [takes_ok (chkR_ok HRt.out.each HRt.out.rise) (by omega), HB.out] at hTk
  clear hpl
  go_wp2_with fail
  refine hTk.mono ?_
  rintro e w12 ⟨rfl, ht12, hTu⟩
  have hb12 := turn_below hb11 s2 hTu
  have hr12 := hr11.turn ht11 hTu
  clear hTu hTk ht11 hb11 hr11 ho11
  go_wp2_with fail
  refine (Rows_all bt TT w12 ht12).mono ?_
  rintro e w13 ⟨g13, rfl, ho13, hb⟩
  have hb13 := hb12.trans (hb.mono hb12.size)
  have hr13 := hr12.below hb
  clear hb ht12 hb12 hr12
  go_wp2_with fail
  refine (sameRows_any _ _ _ _ TT w13 (RL.of_own ho13).lies hr13.lies (by omega)).mono ?_
  rintro e w14 ⟨rfl, hb⟩
  have hb14 := hb13.trans (hb.mono hb13.size)
  clear hb
  go_wp2
  go_ret
  exact ⟨rfl, hb14⟩

end Go.Proofs.Ythdempdiibjabab.Tb
