/- Walks over span.go: reckon, Normal, Minus. -/
import Derived.Test.YtolgpdjimfodkaaSpKept
namespace Go.Proofs.Ytolgpdjimfodkaa.Sp
open Go.RowKit Go.Joins Gk

theorem wrongL_zero {l : List Sp} (hn : l.length ≤ 4096) (hm : MayL l) : wrongL l = 0 := by
  rw [wrongL, if_neg (by omega), if_pos (List.all_eq_true.2 fun x hx => (may_iff x).2 (hm x hx))]
theorem wrongL_may {l : List Sp} (h : wrongL l = 0) : l.length ≤ 4096 ∧ MayL l := by
  unfold wrongL at h
  split at h
  · cases h
  · split at h
    · rename_i h1 h2
      exact ⟨by omega, fun s hs => (may_iff s).1 (List.all_eq_true.1 h2 s hs)⟩
    · cases h

set_option maxHeartbeats 3200000 in
set_option maxRecDepth 100000 in
/-- two lists that may be -/
theorem reckon_ok {g : Nat} {K : Bool → Bool → Bool} (hK : Keeps g K) (h0 : K false false = false) (a b : Option Addr) (ca cb : Nat) (la lb : List Sp) (w : World) (hla : Lies w senc a la) (hlb : Lies w senc b lb) (hma : MayL la) (hmb : MayL lb) (hn : la.length + lb.length ≤ 2048) :
    Calls Try.prog 24 #[rval g, .slice a la.length ca, .slice b lb.length cb] w fun e w' => ∃ v', e = .returned (.tuple #[v', .int .i64 0]) ∧ w'.ownsRow w.heap.size SpT 2 v' (nrm K la lb).length (rc senc (nrm K la lb)) ∧ Below w.heap.size w w' := by
  have hc1 := fun W (hb : Below w.heap.size w W) => checkList_any a ca la W (hla.below hb) (by omega)
  have hc2 := fun W (hb : Below w.heap.size w W) => checkList_any b cb lb W (hlb.below hb) (by omega)
  have hkp := fun W (hb : Below w.heap.size w W) => kept_any hK h0 a b ca cb la lb W (hla.below hb) (hlb.below hb) hma hmb (by omega)
  rw [wrongL_zero (by omega) hma] at hc1
  rw [wrongL_zero (by omega) hmb] at hc2
  have hlen := (nrm_made h0 hma hmb).2.2.2
  generalize nrm K la lb = l at *
  have hl' : ¬ (4096 : Int) < (l.length : Int) := by omega
  clear hK h0 hma hmb hla hlb
  have hb0 := below_alloc1 w (.cells #[.func (.func 35) #[] #[], .func (.func g) #[] #[]] 43)
  have hR := heap_alloc_new w (.cells #[.func (.func 35) #[] #[], .func (.func g) #[] #[]] 43)
  go_enter Try.func24, Try.ntmps24
  go_wp2_with fail
  refine (hc1 _ hb0).mono ?_
  rintro e w1 ⟨rfl, hb1⟩
  have hb1' : Below w.heap.size w w1 := hb0.trans (hb1.mono (by simp))
  have hR1 := (hb1.block _ (by simp)).trans hR
  go_wp2_with fail
  refine (hc2 _ hb1').mono ?_
  rintro e w2 ⟨rfl, hb2⟩
  have hb2' : Below w.heap.size w w2 := hb1'.trans (hb2.mono hb1'.size)
  have hlt1 : w.heap.size < w1.heap.size := (Array.getElem?_eq_some_iff.1 hR1).1
  have hR2 := (hb2.block _ hlt1).trans hR1
  have r0 : w2.cell? ⟨w.heap.size, 0, none⟩ = some (.func (.func 35) #[] #[]) := by rw [cell_of_block hR2]; rfl
  have r1 : w2.cell? ⟨w.heap.size, 1, none⟩ = some (.func (.func g) #[] #[]) := by rw [cell_of_block hR2]; rfl
  have hk2 := hkp w2 hb2'
  clear hc1 hc2 hkp hb0 hb1 hb2 hR hR1 hR2
  go_wp2_with fail
  refine hk2.mono ?_
  rintro e w3 ⟨v3, rfl, hr3, hb3⟩
  obtain ⟨a3, c3, rfl⟩ := own_slice hr3
  have hr := own_mono hr3 hb2'.size
  have hb3' : Below w.heap.size w w3 := hb2'.trans (hb3.mono hb2'.size)
  clear hk2 hr3 hb3
  go_wp2
  go_ret2
  exact ⟨_, rfl, hr, hb3'⟩

set_option maxHeartbeats 1600000 in
theorem Minus_ok (a b : Option Addr) (ca cb : Nat) (la lb : List Sp) (w : World) (hla : Lies w senc a la) (hlb : Lies w senc b lb) (hma : MayL la) (hmb : MayL lb) (hn : la.length + lb.length ≤ 2048) :
    Calls Try.prog 15 #[.slice a la.length ca, .slice b lb.length cb] w fun e w' => ∃ v', e = .returned (.tuple #[v', .int .i64 0]) ∧ w'.ownsRow w.heap.size SpT 2 v' (nrm kNot la lb).length (rc senc (nrm kNot la lb)) ∧ Below w.heap.size w w' := by
  have hR := fun W (hb : Below w.heap.size w W) => reckon_ok minusRule_keeps rfl a b ca cb la lb W (hla.below hb) (hlb.below hb) hma hmb hn
  go_enter Try.func15, Try.ntmps15
  go_wp2_with fail
  refine (minusRule_any _).mono ?_
  rintro e w1 ⟨rfl, hb1⟩
  go_wp2_with fail
  refine (hR _ hb1).mono ?_
  rintro e w2 ⟨v2, rfl, hr2, hb2⟩
  have hb3 : Below w.heap.size w w2 := hb1.trans (hb2.mono hb1.size)
  have hr3 := own_mono hr2 hb1.size
  clear hR hr2
  go_wp2
  go_ret2
  exact ⟨_, rfl, hr3, hb3⟩

set_option maxHeartbeats 1600000 in
theorem Normal_ok (a : Option Addr) (ca : Nat) (la : List Sp) (w : World) (hla : Lies w senc a la) (hma : MayL la) (hn : la.length ≤ 2048) :
    Calls Try.prog 10 #[.slice a la.length ca] w fun e w' => ∃ v', e = .returned (.tuple #[v', .int .i64 0]) ∧ w'.ownsRow w.heap.size SpT 2 v' (nrm kOr la []).length (rc senc (nrm kOr la [])) ∧ Below w.heap.size w w' := by
  have hR := fun W (hb : Below w.heap.size w W) => reckon_ok unionRule_keeps rfl a none ca 0 la [] W (hla.below hb) (Or.inl rfl) hma MayL.nil (by simpa using hn)
  go_enter Try.func10, Try.ntmps10
  go_wp2_with fail
  refine (unionRule_any _).mono ?_
  rintro e w1 ⟨rfl, hb1⟩
  go_wp2_with fail
  refine (hR _ hb1).mono ?_
  rintro e w2 ⟨v2, rfl, hr2, hb2⟩
  have hb3 : Below w.heap.size w w2 := hb1.trans (hb2.mono hb1.size)
  have hr3 := own_mono hr2 hb1.size
  clear hR hr2
  go_wp2
  go_ret2
  exact ⟨_, rfl, hr3, hb3⟩

end Go.Proofs.Ytolgpdjimfodkaa.Sp
