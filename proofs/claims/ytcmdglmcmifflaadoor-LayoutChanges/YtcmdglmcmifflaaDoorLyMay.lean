/- Walks over layout.go and stand.go: which layouts and changes may be. -/
import Derived.Test.YtcmdglmcmifflaaDoorRgHash
import Derived.Test.YtcmdglmcmifflaaDoorGQuiet
namespace Go.Proofs.YtcmdglmcmifflaaDoor.Ly
open Go.RowKit Go.Joins Go.Sort Gk Rg

/-- a layout, where it lies -/
structure La where
  v : Int
  a : Option Addr
  c : Nat
  ws : List Int
abbrev La.val (x : La) : Value := .agg #[.int .i64 x.v, .slice x.a x.ws.length x.c]
structure La.At (w : World) (x : La) : Prop where
  lies : Lies w ienc x.a x.ws
  len : x.ws.length ≤ 9223372036854775807
theorem La.At.below {w w' : World} {x : La} (h : x.At w) (hb : Below w.heap.size w w') : x.At w' := ⟨h.lies.below hb, h.len⟩
/-- a change -/
structure Ch where
  was : La
  will : La
  cur : ByteArray
  done : Bool
abbrev Ch.val (c : Ch) : Value := .agg #[.int .i64 c.was.v, .slice c.was.a c.was.ws.length c.was.c, .int .i64 c.will.v, .slice c.will.a c.will.ws.length c.will.c, .string c.cur, .bool c.done]
structure Ch.At (w : World) (c : Ch) : Prop where
  h1 : c.was.At w
  h2 : c.will.At w
theorem Ch.At.below {w w' : World} {c : Ch} (h : c.At w) (hb : Below w.heap.size w w') : c.At w' := ⟨h.h1.below hb, h.h2.below hb⟩

def La.may (x : La) : Bool := decide (1 ≤ x.v) && decide (x.v ≤ 1073741824) && mayB x.ws
def La.chk (x : La) : Int := if x.may then 0 else 70
theorem La.may_iff {x : La} : x.may = true ↔ 1 ≤ x.v ∧ x.v ≤ 1073741824 ∧ May x.ws := by
  simp only [La.may, Bool.and_eq_true, decide_eq_true_eq, mayB_iff, and_assoc]
theorem La.chk_yes {x : La} (h : x.may = true) : x.chk = 0 := by rw [La.chk, if_pos h]
theorem La.chk_no {x : La} (h : ¬ x.may = true) : x.chk = 70 := by rw [La.chk, if_neg h]

set_option maxHeartbeats 1600000 in
theorem layCheck_any (x : La) (w : World) (h : x.At w) :
    Calls Tryd.prog 19 #[x.val] w fun e w' => e = .returned (.int .i64 x.chk) ∧ Gr w w' := by
  have hC := fun W (h : Lies W ienc x.a x.ws) hn => check_any x.a x.c x.ws W h hn
  have hl := fun o => h.lies.below (below_alloc1 w o)
  have hn := h.len
  obtain ⟨v, a, c, ws⟩ := x
  dsimp only at hC hl hn
  by_cases h1 : v < 1
  · rw [La.chk_no (by rw [La.may_iff]; dsimp only; omega)]
    go_enter Tryd.func19, Tryd.ntmps19
    go_wp2
    go_ret
    exact ⟨rfl, Gr.alloc1 _ _⟩
  · by_cases h2 : 1073741824 < v
    · rw [La.chk_no (by rw [La.may_iff]; dsimp only; omega)]
      go_enter Tryd.func19, Tryd.ntmps19
      go_wp2
      go_ret
      exact ⟨rfl, Gr.alloc1 _ _⟩
    · by_cases hM : May ws
      · rw [La.chk_yes (La.may_iff.2 ⟨by dsimp only; omega, by dsimp only; omega, hM⟩)]
        rw [Rg.chk_yes hM] at hC
        go_enter Tryd.func19, Tryd.ntmps19
        go_wp2_with fail
        refine (hC _ (hl _) hn).mono ?_
        rintro e w1 ⟨rfl, rfl⟩
        go_wp2
        go_ret
        exact ⟨rfl, Gr.alloc1 _ _⟩
      · rw [La.chk_no (fun h => hM (La.may_iff.1 h).2.2)]
        rw [Rg.chk_no hM] at hC
        go_enter Tryd.func19, Tryd.ntmps19
        go_wp2_with fail
        refine (hC _ (hl _) hn).mono ?_
        rintro e w1 ⟨rfl, rfl⟩
        go_wp2
        go_ret
        exact ⟨rfl, Gr.alloc1 _ _⟩

abbrev sval (s : ByteArray) (d : Bool) : Value := .agg #[.string s, .bool d]
set_option maxHeartbeats 800000 in
theorem stands_any (c : Ch) (w : World) :
    Calls Tryd.prog 35 #[c.val] w fun e w' => e = .returned (sval c.cur c.done) ∧ Gr w w' := by
  obtain ⟨⟨v, a, n, ws⟩, ⟨v', a', n', ws'⟩, s, d⟩ := c
  go_enter Tryd.func35, Tryd.ntmps35
  dsimp only [Ch.val]
  go_wp2
  exact bodyPost_ret (v := sval s d) (by simp [results, Tryd.results35, go_sem]) rfl ⟨rfl, ((Gr.refl _).alloc _).alloc _⟩
set_option maxHeartbeats 800000 in
theorem end_any (w : World) :
    Calls Tryd.prog 38 #[] w fun e w' => e = .returned (sval ⟨#[]⟩ true) ∧ Gr w w' := by
  go_enter Tryd.func38, Tryd.ntmps38
  go_wp2
  exact bodyPost_ret (v := sval ⟨#[]⟩ true) (by simp [results, Tryd.results38, go_sem]) rfl ⟨rfl, (Gr.refl _).alloc _⟩

theorem toList_nil {s : ByteArray} : s.toList = [] ↔ s = ⟨#[]⟩ := by
  rw [Lib.toList_data]
  constructor
  · intro h
    obtain ⟨⟨x⟩⟩ := s
    simp at h
    rw [h]
  · rintro rfl; rfl
theorem less_list : ∀ (a b : List UInt8), Op.bytesLess a b = bytesBefore a b
  | [], [] => rfl
  | [], _ :: _ => rfl
  | _ :: _, [] => rfl
  | x :: r, y :: t => by
    simp only [Op.bytesLess, bytesBefore, less_list r t]
/-- one text is below another one -/
def bl (a b : ByteArray) : Bool := bytesBefore a.data.toList b.data.toList
theorem less_bl (a b : ByteArray) : Op.bytesLess a.toList b.toList = bl a b := by rw [less_list, Lib.toList_data, Lib.toList_data]; rfl

def isEnd (s : ByteArray) (d : Bool) : Bool := s.toList.isEmpty && d
def mayS (s : ByteArray) (d : Bool) : Bool := decide (s.size ≤ 64) && (!d || isEnd s d)
set_option maxHeartbeats 1600000 in
theorem isPast_any (s : ByteArray) (d : Bool) (k : ByteArray) (w : World) :
    Calls Tryd.prog 36 #[sval s d, .string k] w fun e w' => e = .returned (.bool (isEnd s d || bl k s)) ∧ Gr w w' := by
  have mixed : Tryd.prog.follows .mixedOrders = true := by kernel_rfl
  have hE := fun (W : World) n os => end_any (grow (W.drewN n) os)
  go_enter Tryd.func36, Tryd.ntmps36
  go_wp2_with fail
  obtain ⟨W0, hW0⟩ : ∃ W0, w.alloc (Obj.cells #[Value.string s, Value.bool d] 68) = W0 := ⟨_, rfl⟩
  obtain ⟨b, hb⟩ : ∃ b, w.heap.size = b := ⟨_, rfl⟩
  have hblk : W0.heap[b]? = some (Obj.cells #[Value.string s, Value.bool d] 68) := by rw [← hW0, ← hb]; exact heap_alloc_new w _
  have hlt : b < W0.heap.size := (Array.getElem?_eq_some_iff.1 hblk).1
  have c0 := fun n os => cell_grown (w := W0) (a := ⟨b, 0, none⟩) (v := .string s) hlt (by rw [cell_of_block hblk]; rfl) n os
  have c1 := fun n os => cell_grown (w := W0) (a := ⟨b, 1, none⟩) (v := .bool d) hlt (by rw [cell_of_block hblk]; rfl) n os
  have hG : Gr w W0 := by rw [← hW0]; exact Gr.alloc1 _ _
  rw [hW0, hb]
  clear hW0 hb hblk hlt
  have HL := hide (less_bl k s)
  cases d
  · go_quiet_grown (first | (go_at_call 38; refine Calls.grown_of (hE _ _ _)))
    go_wp2
    go_ret
    exact ⟨by simp [isEnd, HL.out], hG.grow _ _⟩
  · by_cases hs : s.toList = []
    · go_quiet_grown (first | (go_at_call 38; refine Calls.grown_of (hE _ _ _)))
      go_wp2
      go_ret
      exact ⟨by simp [isEnd, hs], hG.grow _ _⟩
    · go_quiet_grown (first | (go_at_call 38; refine Calls.grown_of (hE _ _ _)))
      go_wp2
      go_ret
      exact ⟨by simp [isEnd, hs, HL.out], hG.grow _ _⟩
set_option maxHeartbeats 1600000 in
theorem mayBe_any (s : ByteArray) (d : Bool) (w : World) (hs0 : s.size ≤ 9223372036854775807) :
    Calls Tryd.prog 43 #[sval s d] w fun e w' => e = .returned (.bool (mayS s d)) ∧ Gr w w' := by
  have mixed : Tryd.prog.follows .mixedOrders = true := by kernel_rfl
  have hE := fun (W : World) n os => end_any (grow (W.drewN n) os)
  go_enter Tryd.func43, Tryd.ntmps43
  go_wp2_with fail
  obtain ⟨W0, hW0⟩ : ∃ W0, w.alloc (Obj.cells #[Value.string s, Value.bool d] 68) = W0 := ⟨_, rfl⟩
  obtain ⟨b, hb⟩ : ∃ b, w.heap.size = b := ⟨_, rfl⟩
  have hblk : W0.heap[b]? = some (Obj.cells #[Value.string s, Value.bool d] 68) := by rw [← hW0, ← hb]; exact heap_alloc_new w _
  have hlt : b < W0.heap.size := (Array.getElem?_eq_some_iff.1 hblk).1
  have c0 := fun n os => cell_grown (w := W0) (a := ⟨b, 0, none⟩) (v := .string s) hlt (by rw [cell_of_block hblk]; rfl) n os
  have c1 := fun n os => cell_grown (w := W0) (a := ⟨b, 1, none⟩) (v := .bool d) hlt (by rw [cell_of_block hblk]; rfl) n os
  have hG : Gr w W0 := by rw [← hW0]; exact Gr.alloc1 _ _
  rw [hW0, hb]
  clear hW0 hb hblk hlt
  by_cases h64 : s.size ≤ 64
  · have hd : decide ((s.size : Int) ≤ 64) = true := decide_eq_true (by omega)
    cases d
    · go_quiet_grown (first | (go_at_call 38; refine Calls.grown_of (hE _ _ _)))
      go_wp2
      go_ret
      exact ⟨by simp [mayS, isEnd, h64], hG.grow _ _⟩
    · by_cases hs : s.toList = []
      · go_quiet_grown (first | (go_at_call 38; refine Calls.grown_of (hE _ _ _)))
        go_wp2
        go_ret
        exact ⟨by simp [mayS, isEnd, hs, h64], hG.grow _ _⟩
      · go_quiet_grown (first | (go_at_call 38; refine Calls.grown_of (hE _ _ _)))
        go_wp2
        go_ret
        exact ⟨by simp [mayS, isEnd, hs, h64], hG.grow _ _⟩
  · have hd : decide ((s.size : Int) ≤ 64) = false := decide_eq_false (by omega)
    go_quiet_grown (first | (go_at_call 38; refine Calls.grown_of (hE _ _ _)))
    go_wp2
    go_ret
    exact ⟨by simp [mayS, h64], hG.grow _ _⟩
set_option maxHeartbeats 800000 in
theorem follows_any (x y : La) (w : World) (hx : x.ws.length ≤ 9223372036854775807) (hy : y.ws.length ≤ 9223372036854775807) :
    Calls Tryd.prog 42 #[x.val, y.val] w fun e w' => e = .returned (.bool (decide (y.v = wrap64 (x.v + 1)) && decide (x.ws.length ≤ y.ws.length))) ∧ Gr w w' := by
  obtain ⟨v, a, n, ws⟩ := x
  obtain ⟨v', a', n', ws'⟩ := y
  dsimp only [La.val] at hx hy ⊢
  by_cases hv : v' = wrap64 (v + 1)
  · go_enter Tryd.func42, Tryd.ntmps42
    go_wp2
    go_ret
    exact ⟨by simp [hv], ((Gr.refl _).alloc _).alloc _⟩
  · go_enter Tryd.func42, Tryd.ntmps42
    go_wp2
    go_ret
    exact ⟨by simp [hv], ((Gr.refl _).alloc _).alloc _⟩

end Go.Proofs.YtcmdglmcmifflaaDoor.Ly
