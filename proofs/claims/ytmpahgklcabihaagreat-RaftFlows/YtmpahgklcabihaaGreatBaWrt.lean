/- Layer 15: lists are written to the file, as one piece, and all is synced. -/
import Derived.Test.YtmpahgklcabihaaGreatBaWr
import Derived.Test.YtmpahgklcabihaaGreatBaSt
import Derived.Test.YtmpahgklcabihaaGreatBaSb
import Derived.Test.YtmpahgklcabihaaGreatDAppend
import Derived.Test.YtmpahgklcabihaaGreatDCrash
namespace Go.Proofs.YtmpahgklcabihaaGreat.Ba
open Go.RowKit Go.Joins Go.Proofs.YtmpahgklcabihaaGreat.Gk
open Go.Proofs.YtmpahgklcabihaaGreat.Dk (St Bs named)
open Go.Proofs.YtmpahgklcabihaaGreat.Rl (ptr)

def nmB : Bs := [98, 97, 108, 108, 111, 116]
theorem nmB_named : named nmB = true := by decide
abbrev nmS : ByteArray := ⟨#[98, 97, 108, 108, 111, 116]⟩
/-- what is written, and all is synced -/
def wrt (S : St) (p : Bs) : Nat × St := if (S.append nmB p).1 = 0 then (S.append nmB p).2.sync else S.append nmB p

/-- lists of fields, each in a slice -/
abbrev LX := Rc × Option Addr × Nat
abbrev lv (x : LX) : Value := .slice x.2.1 x.1.flds.length x.2.2
def lenc (x : LX) : List Value := [lv x]
theorem lenc_len (x : LX) : (lenc x).length = 1 := rfl
theorem lenc_one (x : LX) : ∀ u ∈ lenc x, u.oneCell' = true := by
  intro u hu
  rw [List.mem_singleton.1 hu]; rfl
def LR (w : World) (l : List LX) : Prop := ∀ x ∈ l, x.1.may ∧ w.ownsRow 0 FdT 3 (lv x) x.1.flds.length (fcells x.1.flds)
theorem LR.below {w w' : World} {l : List LX} (h : LR w l) (hb : Below w.heap.size w w') : LR w' l := fun x hx => ⟨(h x hx).1, Gk.own_below (h x hx).2 hb⟩
abbrev rcs (l : List LX) : List Rc := l.map (·.1)
abbrev SbT : TypeId := 267
abbrev U8T : TypeId := 5
theorem sb_below {B b : Nat} {bs : List Value} {w w' : World} (h : Lib.IsBuilder SbT U8T B b bs w) (hb : Below w.heap.size w w') : Lib.IsBuilder SbT U8T B b bs w' := by
  have hh : ∀ p, Lib.BuilderAt SbT U8T B b p bs w → Lib.BuilderAt SbT U8T B b p bs w' := by
    rintro p ⟨hB, v, h1, h2, h3⟩
    exact ⟨hB, v, (hb.block b (Array.getElem?_eq_some_iff.1 h1).1).trans h1, Gk.own_below h2 hb, h3⟩
  rcases h with h | h
  · exact Or.inl (hh _ h)
  · exact Or.inr (hh _ h)

set_option maxRecDepth 100000 in
set_option maxHeartbeats 400000 in
theorem write_none (bb : Nat) (a : Option Addr) (cap : Nat) (w : World) :
    Calls Tryz.prog 167 #[ptr bb, .slice a 0 cap] w fun e w' => e = .returned (.int .i64 0) ∧ w' = w := by
  go_enter Tryz.func167, Tryz.ntmps167
  go_wp2
  go_ret
  exact ⟨rfl, rfl⟩

set_option maxRecDepth 100000 in
set_option maxHeartbeats 4000000 in
theorem write_any (bb bd : Nat) (n : Int) (S : St) (s : Bl) (X : Nat → Prop) (a : Option Addr) (cap : Nat) (l : List LX) (w : World) (hB : BB w bb bd n S s X) (hl : Gk.Lies w lenc a l) (hr : LR w l) (hne : l ≠ []) (hp : (frs (rcs l)).length ≤ 262144) :
    Calls Tryz.prog 167 #[ptr bb, .slice a l.length cap] w fun e w' => e = .returned (.int .i64 (wrt S (frs (rcs l))).1) ∧ ∃ X', BB w' bb bd n (wrt S (frs (rcs l))).2 s X' ∧ Tu X X' w w' := by
  have hlen : 8 * l.length ≤ 262144 := by have := frs_many (rcs l); rw [List.length_map] at this; omega
  have hpos : 0 < l.length := List.length_pos_iff.2 hne
  have h0 : ((l.length : Int) == 0) = false := by rw [beq_eq_false_iff_ne]; omega
  have h0' : ¬ l.length = 0 := by omega
  have hbox : Lib.IsBuilder SbT U8T w.heap.size w.heap.size [] (w.alloc (.cells #[.pointer none, .slice none 0 0] SbT)) :=
    Or.inl ⟨Nat.le_refl _, _, heap_alloc_new w _, World.ownsRow_nil _ _ _ _, by simp [Value.ownBlock]⟩
  go_enter Tryz.func167, Tryz.ntmps167
  go_wp2
  go_loopw [16] (fun i W => ∃ k : Nat, k ≤ l.length ∧ i = .int .i64 k ∧ Lib.IsBuilder SbT U8T w.heap.size w.heap.size (Lib.byteCells (frs (rcs (l.take k)))) W ∧ Below w.heap.size w W) (fun i _ => l.length - (intOf i).toNat)
  case atStart => exact ⟨0, Nat.zero_le _, rfl, hbox, (Below.refl _ w).alloc (Nat.le_refl _) _⟩
  case round =>
    clear hbox
    obtain ⟨k, hk, rfl, hb, hw⟩ := hrel
    by_cases hlt : k < l.length
    · obtain ⟨b, off, rfl, hbl, hc⟩ := (hl.below hw).at lenc_len k hlt
      have c0 := hc 0 _ rfl
      simp only [Nat.mul_one, Nat.add_zero] at c0
      clear hc
      obtain ⟨hm, ho⟩ := hr.below hw l[k] (List.getElem_mem hlt)
      have HT := hide (show frs (rcs (l.take (k + 1))) = frs (rcs (l.take k)) ++ l[k].1.fr by
        rw [List.take_succ_eq_append_getElem hlt]; simp only [rcs, List.map_append, frs_append]; simp [frs])
      have hlek : (frs (rcs (l.take (k + 1)))).length ≤ 262144 := by
        refine Nat.le_trans ?_ hp
        conv => rhs; rw [← List.take_append_drop (k + 1) l]
        simp only [rcs, List.map_append, frs_append, List.length_append]; omega
      obtain ⟨⟨r, ua, uc⟩, hx⟩ : ∃ x, l[k] = x := ⟨_, rfl⟩
      rw [hx] at hm ho c0 HT
      simp only [lv] at hm ho c0 HT
      clear hx
      obtain ⟨p0, hp0⟩ : ∃ p0, frs (rcs (l.take k)) = p0 := ⟨_, rfl⟩
      obtain ⟨p1, hp1⟩ : ∃ p1, frs (rcs (l.take (k + 1))) = p1 := ⟨_, rfl⟩
      rw [hp1] at hlek HT
      rw [hp0] at hb HT
      clear hp0
      have HP1 := hide hp1
      clear hp1
      have hpl : p0.length + r.fr.length ≤ 262144 := by rw [HT.out, List.length_append] at hlek; exact hlek
      have hF := frameOf_any r hm 0 _ wr ho
      have hfs : (ByteArray.mk r.fr.toArray).size = r.fr.length := by show r.fr.toArray.size = _; simp
      have hcells : Lib.byteCells p0 ++ Lib.strCells (ByteArray.mk r.fr.toArray) = Lib.byteCells p1 := by rw [HT.out]; simp [Lib.byteCells, Lib.strCells]
      have hWS := fun W1 (hw1 : w.heap.size ≤ W1.heap.size) (h : Lib.IsBuilder SbT U8T w.heap.size w.heap.size (Lib.byteCells p0) W1) => Tryz.sb_WriteString w.heap.size w.heap.size (Lib.byteCells p0) ⟨r.fr.toArray⟩ W1 h (by rw [hfs]; simp [Lib.byteCells]; omega) hw1
      rw [hcells] at hWS
      have hp1l : ((Lib.byteCells p1).length : Int) ≤ 262144 := by simp [Lib.byteCells]; omega
      clear hcells hfs hl hr hB hp hpl
      go_wp2_with fail
      refine hF.mono ?_
      rintro e w1 ⟨rfl, hb1⟩
      clear hF
      have hw1 : Below w.heap.size w w1 := hw.trans (hb1.mono hw.size)
      have hWS1 := hWS w1 hw1.size (sb_below hb hb1)
      clear hWS
      go_wp2_with (go_at_call 201; refine hWS1.mono ?_; rintro e w2 ⟨rfl, hb2, hb2'⟩)
      have hLn := Tryz.sb_Len w.heap.size w.heap.size (Lib.byteCells p1) w2 (Or.inr hb2)
      have hw2 : Below w.heap.size w w2 := hw1.trans hb2'
      refine hLn.mono ?_
      rintro e w3 ⟨rfl, rfl⟩
      clear hLn
      generalize (Lib.byteCells p1).length = pl at *
      go_wp2
      go_roundw
      case rel => exact ⟨k + 1, by omega, by go_num, by rw [HP1.out]; exact Or.inr hb2, hw2⟩
      case measure => simp [intOf]; omega
    · have hkl : k = l.length := by omega
      subst hkl
      rw [List.take_length] at hb
      have hStr := fun W1 (h1 : w.heap.size ≤ W1.heap.size) (h : Lib.IsBuilder SbT U8T w.heap.size w.heap.size (Lib.byteCells (frs (rcs l))) W1) => Tryz.sb_String w.heap.size w.heap.size (frs (rcs l)) W1 h h1
      have hAp := fun W1 (h : BB W1 bb bd n S s X) => h.call (fun own h1 h2 h3 => Dk.append_any W1 h2 h3 nmS ⟨(frs (rcs l)).toArray⟩ (by decide) (by show (frs (rcs l)).toArray.size ≤ _; simp; omega))
      have hBW := hB.below hw
      have hlt := hB.blt
      have HX : Hid (∀ W1, Below w.heap.size w W1 → W1.cell? ⟨bb, 0, none⟩ = some (ptr bd)) := fun W1 h1 => by
        obtain ⟨bl0, v0, D0, h2, _⟩ := hB.below h1; exact h2.c.1
      have c0 := HX.out _ hw
      obtain ⟨R, hR⟩ : ∃ R, S.append nmB (frs (rcs l)) = R := ⟨_, rfl⟩
      have HR := hide hR
      rw [show (ByteArray.mk (frs (rcs l)).toArray).data.toList = frs (rcs l) by simp, show nmS.data.toList = nmB from rfl, hR] at hAp
      have HP := hide (show wrt S (frs (rcs l)) = if R.1 = 0 then R.2.sync else R by rw [wrt, hR])
      clear hR hBW hl hr hp hk h0 h0'
      generalize (ByteArray.mk (frs (rcs l)).toArray) = pc at *
      go_wp2
      go_region_law (first | (go_simp; go_at_call 204; refine (hStr wr.drew hw.drew.size hb).mono ?_; rintro e w1 ⟨rfl, hb1⟩; have hw1 : Below w.heap.size w w1 := hw.drew.trans hb1; have c1 := HX.out _ hw1) | (go_simp; go_at_call 203; refine (hAp _ (hB.below hw1)).mono ?_; rintro e w2 ⟨rfl, X2, hB2, ht2⟩))
      all_goals
        obtain ⟨c, S1⟩ := R
        simp only at hB2
        have HT := hide ((Tu.of_below hw1).trans ht2)
        have HC : Hid (∃ bl0 v0 D0, BH w2 bb bd bl0 v0 n S1 s D0) := by obtain ⟨bl0, v0, D0, h2, _⟩ := hB2; exact ⟨bl0, v0, D0, h2⟩
        obtain ⟨bl0, v0, D0, h20⟩ := HC.out
        have c2 := h20.c.1
        clear h20 HC hStr hAp hb hw hw1 hb1 c1 c0 HX ht2 hB
        by_cases hc : c = 0
        · subst hc
          have HS := hide (hB2.call (fun own h1 h2 h3 => Dk.sync_any w2 h2))
          have HP2 := hide (show wrt S (frs (rcs l)) = S1.sync by rw [HP.out, if_pos rfl])
          clear HP
          generalize S1.sync = R2 at *
          go_wp2_with (go_at_call 205; refine HS.out.mono ?_; rintro e w3 ⟨rfl, X3, hB3, ht3⟩)
          go_ret
          rw [HP2.out]
          exact ⟨rfl, X3, hB3, HT.out.trans ht3⟩
        · have hc2 : ((c : Int) == 0) = false := by rw [beq_eq_false_iff_ne]; omega
          have HP2 := hide (show wrt S (frs (rcs l)) = (c, S1) by rw [HP.out, if_neg hc])
          clear HP
          go_wp2
          go_ret
          rw [HP2.out]
          exact ⟨rfl, X2, hB2, HT.out⟩
end Go.Proofs.YtmpahgklcabihaaGreat.Ba
