/- Layer 9, the document's answer: where its table lies; Find. Layer 9, the document's answer: put. Layer 9, the document's answer: what its table's methods work in: the operation's box, the result's, the table's cell. -/
import Derived.Test.YthdempdiibjabaaTbFr
import Derived.Test.YthdempdiibjabaaGFull
namespace Go.Proofs.Ythdempdiibjabaa.Tr
open Go.RowKit Go.Joins Go.Proofs.Ythdempdiibjabaa.Gk Go.Proofs.Ythdempdiibjabaa.Oq Go.Proofs.Ythdempdiibjabaa.Sp Go.Proofs.Ythdempdiibjabaa.Tb

abbrev RTabT : TypeId := 28
/-- the document's table lies there -/
def RH (w : World) (br : Nat) (l : List Rw) : Prop := Tok l ∧ ∃ a cap, w.heap[br]? = some (.cells #[.slice a l.length cap] RTabT (0, 0)) ∧ RL w a cap l
theorem RH.lt {w : World} {bt : Nat} {l : List Rw} (h : RH w bt l) : bt < w.heap.size := by
  obtain ⟨_, a, cap, hg, _⟩ := h
  exact (Array.getElem?_eq_some_iff.1 hg).1
theorem RH.below {w w' : World} {bt : Nat} {l : List Rw} (h : RH w bt l) (hb : Below w.heap.size w w') : RH w' bt l := by
  obtain ⟨ht, a, cap, hg, hr⟩ := h
  exact ⟨ht, a, cap, (hb.block bt (Array.getElem?_eq_some_iff.1 hg).1).trans hg, hr.below hb⟩
theorem RL.turnR {w w' : World} {a : Option Addr} {cap : Nat} {l m : List Rw} {bt : Nat} (h : RL w a cap l) (ht : RH w bt m) (k : Turn bt w w') : RL w' a cap l := by
  refine h.stay fun g hg => ?_
  obtain ⟨cur, hc⟩ := h.lt hg
  refine k.block g (Array.getElem?_eq_some_iff.1 hc).1 ?_
  rintro rfl
  obtain ⟨_, a', cap', hg', _⟩ := ht
  rw [hc] at hg'
  simp only [Option.some.injEq, Obj.cells.injEq] at hg'
  exact absurd hg'.2.1 (by decide)
theorem tabBlk_isR {w : World} {bt : Nat} {a : Option Addr} {n cap : Nat} (h : w.heap[bt]? = some (.cells #[.slice a n cap] RTabT (0, 0))) : tabBlk w bt = blk a := by unfold tabBlk; rw [h]; rfl
theorem less_list : ∀ (a b : List UInt8), Op.bytesLess a b = bytesBefore a b
  | [], [] => rfl
  | _ :: _, [] => rfl
  | [], _ :: _ => rfl
  | a :: r, b :: t => by
    simp only [Op.bytesLess, bytesBefore, less_list r t]
theorem less_b4 (a b : ByteArray) : Op.bytesLess a.toList b.toList = B4 a b := by rw [less_list, Lib.toList_data, Lib.toList_data]; rfl
theorem eqb_dec (a b : ByteArray) : (a.toList == b.toList) = decide (a = b) := by
  by_cases e : a = b
  · subst e; simp
  · have : a.toList ≠ b.toList := fun h => e (ba_ext (by rw [← Lib.toList_data, ← Lib.toList_data, h]))
    rw [beq_eq_false_iff_ne.2 this, decide_eq_false e]

set_option maxRecDepth 100000 in
set_option maxHeartbeats 1600000 in
theorem Find_ref (br : Nat) (l : List Rw) (k : ByteArray) (w : World) (hR : RH w br l) :
    Calls Try.prog 57 #[ptr br, .string k] w fun e w' => e = .returned (.tuple #[.int .i64 (pos l k : Nat), .bool (there l k)]) ∧ Below w.heap.size w w' := by
  obtain ⟨hok, a, cap, hg, hl⟩ := id hR
  have hlen := hok.len
  have HT := hide (there_pos hok.rise k)
  have HLO := hide (fun t ht => pos_lo hok.rise k t ht)
  have HHI := hide (fun t ht => pos_hi hok.rise k t ht)
  have hlt := hR.lt
  go_enter Try.func57, Try.ntmps57
  go_wp2
  go_loopw [6] (fun i wr => ∃ j : Nat, j ≤ l.length ∧ j ≤ pos l k ∧ i = .int .i64 j ∧ Below w.heap.size w wr) (fun i _ => l.length - (intOf i).toNat)
  case atStart => exact ⟨0, Nat.zero_le _, Nat.zero_le _, rfl, Below.refl _ _⟩
  case round =>
    obtain ⟨j, hj, hjp, rfl, hbel⟩ := hrel
    have t0 : wr.cell? ⟨br, 0, none⟩ = some (.slice a l.length cap) := cellB ((hbel.block br hlt).trans hg) 0 rfl
    have j0 : (0 : Int) ≤ (j : Int) := by omega
    by_cases hjl : j < l.length
    · obtain ⟨b, off, rfl, _, hc⟩ := (hl.lies.below hbel).at (k := 3) rwenc_len j hjl
      have c0 := hc 0 _ rfl
      rw [Nat.add_zero] at c0
      clear hc
      have j1 : (j : Int) < (l.length : Int) := by omega
      have HL1 := hide (HLO.out j hjl)
      have HH1 := hide (HHI.out j hjl)
      have HK : Hid (pos l k = j → there l k = decide (l[j].key = k)) := by
        intro e
        rw [Bool.eq_iff_iff, HT.out, decide_eq_true_eq]
        refine ⟨fun ⟨_, h⟩ => ?_, fun h => ⟨by rw [e]; exact hjl, ?_⟩⟩
        · simpa only [e] using h
        · simpa only [e] using h
      generalize (l[j]'hjl) = x at *
      cases hB : B4 x.key k
      · have hpj : pos l k = j := by
          by_cases h : j < pos l k
          · have := HL1.out h; rw [hB] at this; cases this
          · omega
        have HP := hide hpj
        have HTH := hide (HK.out hpj)
        have hB2 : Op.bytesLess x.key.toList k.toList = false := by rw [less_b4]; exact hB
        clear hpj hB HK HL1 HH1 hjp
        go_wp2
        go_quiet (fail)
        go_wp2
        go_ret2
        refine ⟨?_, below_drewN hbel nq⟩
        rw [HP.out, HTH.out, ← eqb_dec]; rfl
      · have hB2 : Op.bytesLess x.key.toList k.toList = true := by rw [less_b4]; exact hB
        have hjp' : j + 1 ≤ pos l k := by
          by_cases h : j < pos l k
          · omega
          · have := HH1.out (by omega); rw [hB] at this; cases this
        clear hB HK HL1 HH1
        go_wp2
        exact ⟨⟨j + 1, by omega, hjp', by go_num, hbel⟩, by simp [intOf]; omega⟩
    · have hpj : pos l k = j := by have := pos_le l k; omega
      have HP := hide hpj
      have j1 : ¬ (j : Int) < (l.length : Int) := by omega
      have HTH : Hid (there l k = false) := by
        show _ = _
        rw [← Bool.not_eq_true, HT.out]
        rintro ⟨h, _⟩
        omega
      clear hpj
      go_wp2
      go_quiet (fail)
      go_wp2
      go_ret2
      refine ⟨?_, below_drewN hbel nq⟩
      rw [HP.out, HTH.out]; rfl

end Go.Proofs.Ythdempdiibjabaa.Tr

namespace Go.Proofs.Ythdempdiibjabaa.Tr
open Go.RowKit Go.Joins Go.Proofs.Ythdempdiibjabaa.Gk Go.Proofs.Ythdempdiibjabaa.Oq Go.Proofs.Ythdempdiibjabaa.Sp Go.Proofs.Ythdempdiibjabaa.Tb

theorem put_split {l : List Rw} (h : Rise l) (r : Rw) : put l r = l.take (pos l r.key) ++ [r] ++ l.drop (pos l r.key + if there l r.key then 1 else 0) := by
  unfold put
  rw [← take_pos h, List.append_assoc, List.singleton_append]
  congr 2
  unfold there
  cases ho : row? l r.key with
  | none => rw [← drop_no h ho]; rfl
  | some x => rw [← drop_yes h ho]; rfl

theorem put_ownR {W : World} {bt B n m cap : Nat} {v : Value} {a : Option Addr} {xs : List Value} (hW : W.heap[bt]? = some (.cells #[v] RTabT (0, 0))) (ho : W.ownsRow B RowT 3 (.slice a n cap) m xs) {C : Nat} (hC : C ≤ B) : ∀ g, tabBlk (W.setCell ⟨bt, 0, none⟩ (.slice a n cap)) bt = some g → C ≤ g := fun g hg => by
  rw [tabBlk_isR (block_setCell hW _)] at hg
  exact Nat.le_trans hC (own_blk ho hg)
theorem RH.put {W : World} {bt : Nat} {v : Value} (hW : W.heap[bt]? = some (.cells #[v] RTabT (0, 0))) {a : Option Addr} {cap : Nat} {l : List Rw} (hl : RL W a cap l) (hok : Tok l) : RH (W.setCell ⟨bt, 0, none⟩ (.slice a l.length cap)) bt l := by
  refine ⟨hok, a, cap, block_setCell hW _, hl.stay fun g hg => Below.heap_setCell _ _ _ _ ?_⟩
  rintro rfl
  obtain ⟨cur, hc⟩ := hl.lt hg
  rw [hW] at hc
  simp only [Option.some.injEq, Obj.cells.injEq] at hc
  exact absurd hc.2.1 (by decide)

set_option maxRecDepth 100000 in
set_option maxHeartbeats 1600000 in
theorem put_ref (br : Nat) (l : List Rw) (r : Rw) (w : World) (hR : RH w br l) (hok' : Tok (put l r)) :
    Calls Try.prog 58 #[ptr br, r.v] w fun e w' => e = .returned (.tuple #[]) ∧ RH w' br (put l r) ∧ Turn br w w' ∧ (∀ g, tabBlk w' br = some g → w.heap.size ≤ g) := by
  obtain ⟨hok, a, cap, hg, hl⟩ := id hR
  have hlen := hok.len
  have hroom := hl.room
  have hlt := hR.lt
  have HP := hide (put_split hok.rise r)
  have hpl := pos_le l r.key
  have hx0 := heap_alloc_new w (.cells #[.string r.key, .int .i64 r.stamp, .string r.val] RowT)
  have hb0 := below_a1 w (.cells #[.string r.key, .int .i64 r.stamp, .string r.val] RowT)
  have hFx := Find_ref br l r.key _ (hR.below hb0)
  have hthl := there_pos hok.rise r.key
  rcases hl with ⟨rfl, rfl, rfl⟩ | ⟨g, off, cur, rfl, hgr, hsz, hroom2, hmax, hcc⟩
  · rw [show pos ([] : List Rw) r.key = 0 from rfl, show there ([] : List Rw) r.key = false from rfl] at hFx
    have HQ : Hid (put [] r = [] ++ [r] ++ []) := HP.out
    go_enter Try.func58, Try.ntmps58
    go_wp2_with fail
    refine hFx.mono ?_
    rintro e w1 ⟨rfl, hb1⟩
    have hb2 := hb0.trans (hb1.mono hb0.size)
    have hx1 := (hb1.block _ (Array.getElem?_eq_some_iff.1 hx0).1).trans hx0
    have t0 : w1.cell? ⟨br, 0, none⟩ = some (.slice Option.none 0 0) := cellB ((hb2.block br hlt).trans hg) 0 rfl
    clear hb0 hx0 hFx hb1
    go_wp2_with (first
      | (at_builtin; refine wpList_append_row (enc := rwenc) (k := 3) rfl (.tmp 14) (.tmp 20) RowsT rfl RowT noRw 40 Try.underlying26 row_info rfl (by decide) rwenc_len rwenc_one w.heap.size _ ([] : List Rw) rfl (World.ownsRow_nil _ _ _ _) Option.none ([] : List Rw) 0 0 rfl rfl (Or.inl rfl) (fun _ => rfl) (by first | omega | (simp; done) | (simp; omega)) (by first | omega | (simp; done) | (simp; omega)) hb2.size ?_; intro v3 w3 hown3 hg3 hat3; simp only [List.nil_append] at hown3; have hb3 := hide (hb2.grown hg3 hb2.size (fun k hk => by cases hk)); have hx3 : w3.heap[w.heap.size]? = some (.cells #[.string r.key, .int .i64 r.stamp, .string r.val] RowT (0, 0)) := (hg3.block _ (Array.getElem?_eq_some_iff.1 hx1).1 (fun e => by cases e)).trans hx1; have s0 : w3.cell? ⟨w.heap.size, 0, none⟩ = some (.string r.key) := cellB hx3 0 rfl; have s1 : w3.cell? ⟨w.heap.size, 1, none⟩ = some (.int .i64 r.stamp) := cellB hx3 1 rfl; have s2 : w3.cell? ⟨w.heap.size, 2, none⟩ = some (.string r.val) := cellB hx3 2 rfl; obtain ⟨a3, c3, rfl⟩ := Gk.own_slice hown3; have HO3 := hide hown3; have hz3 := hb3.out.size; clear hown3 hg3 hat3 hx3)
      | (at_builtin; refine wpList_push (enc := rwenc) (k := 3) rfl (.tmp 22) (.tmp 24) RowsT rfl RowT noRw 40 Try.underlying26 row_info rfl (by decide) rwenc_len rwenc_one w.heap.size _ ([] : List Rw) rfl (own_below HO3.out (below_a1 w3 _)) w3.heap.size r rfl (heap_alloc_new w3 _) (by first | omega | (simp; done) | (simp; omega)) (by first | omega | (simp; done) | (simp; omega)) (by first | omega | (simp; done) | (simp; omega)) ?_; intro v4 w4 hown4 hg4 hat4; have hb4 := hide ((hb3.out.alloc hz3 _).grown hg4 (by simp; omega) (fun k hk => (HO3.out.lt k hk).1)); have t4 : w4.cell? ⟨br, 0, none⟩ = some (Value.slice Option.none 0 0) := cellB ((hb4.out.block br hlt).trans hg) 0 rfl; obtain ⟨a4, c4, rfl⟩ := Gk.own_slice hown4; have hL4 : (([] : List Rw) ++ [r]).length = 1 := (by rfl); have HO4 : Hid (w4.ownsRow w.heap.size RowT 3 (.slice a4 (1) c4) (([] : List Rw) ++ [r]).length (rc rwenc (([] : List Rw) ++ [r]))) := (by rw [← hL4]; exact hown4); have hz4 := hb4.out.size; clear hown4 hg4 hat4 hL4)
      | (at_builtin; refine wpList_append_row (enc := rwenc) (k := 3) rfl (.tmp 30) (.tmp 36) RowsT rfl RowT noRw 40 Try.underlying26 row_info rfl (by decide) rwenc_len rwenc_one w.heap.size _ (([] : List Rw) ++ [r]) rfl HO4.out Option.none ([] : List Rw) 0 0 rfl rfl (Or.inl rfl) (fun _ => rfl) (by first | omega | (simp; done) | (simp; omega)) (by first | omega | (simp; done) | (simp; omega)) hz4 ?_; intro v5 w5 hown5 hg5 hat5; have hb5 := hide (hb4.out.grown hg5 hz4 (fun k hk => (HO4.out.lt k hk).1)); have hg6 := hide ((hb5.out.block br hlt).trans hg); have t5 : w5.cell? ⟨br, 0, none⟩ = some (Value.slice Option.none 0 0) := cellB hg6.out 0 rfl; have f5 := unfrozen_of_block hg6.out 0; obtain ⟨M, hM⟩ : ∃ M, M = ([] : List Rw) ++ [r] ++ [] := ⟨_, rfl⟩; rw [← hM] at hown5; have HM := hide (HQ.out.trans hM.symm); have HO5 := hide hown5; obtain ⟨a5, c5, rfl⟩ := Gk.own_slice hown5; clear hown5 hg5 hat5 hM))
    all_goals
     have HR5 := hide (RH.put hg6.out (l := M) (RL.of_own HO5.out) (HM.out ▸ hok'))
     have HTu : Hid (Turn br w (w5.setCell ⟨br, 0, none⟩ (.slice a5 (M).length c5))) := (Only.of_below hb5.out).trans (Only.of_set (own := fun b => b = br) _ rfl _)
     have HW5 := hide (put_ownR hg6.out HO5.out (Nat.le_refl _))
     go_end0
     rw [HM.out]
     exact ⟨rfl, HR5.out, HTu.out, HW5.out⟩
  · have hL1 : RL w (some ⟨g, off, none⟩) cap l := Or.inr ⟨g, off, cur, rfl, hgr, hsz, hroom2, hmax, hcc⟩
    have hA : RL w (some ⟨g, off, none⟩) cap (l.take (pos l r.key)) := by
      have := hL1.part 0 (pos l r.key) cap (Nat.zero_le _) hpl (by omega) (Nat.le_refl _)
      simpa using this
    have hTl : (l.take (pos l r.key)).length = pos l r.key := by rw [List.length_take]; omega
    have hat : pos l r.key + (if there l r.key then 1 else 0) ≤ l.length := by
      cases hq : there l r.key
      · simpa using hpl
      · obtain ⟨h1, _⟩ := hthl.1 hq
        simp only [if_true]; omega
    have hD := hL1.sub (pos l r.key + if there l r.key then 1 else 0) l.length hat (Nat.le_refl _)
    rw [List.take_length] at hD
    have hDl : (l.drop (pos l r.key + if there l r.key then 1 else 0)).length = l.length - (pos l r.key + if there l r.key then 1 else 0) := List.length_drop
    obtain ⟨P, hP⟩ : ∃ P, P = l.take (pos l r.key) := ⟨_, rfl⟩
    obtain ⟨D, hDD⟩ : ∃ D, D = l.drop (pos l r.key + if there l r.key then 1 else 0) := ⟨_, rfl⟩
    have HQ : Hid (Tb.put l r = P ++ [r] ++ D) := by show _ = _; rw [hP, hDD]; exact HP.out
    rw [← hP] at hA hTl
    rw [← hDD] at hD hDl
    have hDn := hD.nocap
    simp only [Option.map_some, Go.WideShapes.add_plain] at hD hDn
    have HTL := hide hTl
    have HA := hide hA
    clear hP hDD HP hA hTl hL1 hgr hsz hmax hcc hthl
    generalize pos l r.key = p at *
    have i5 : (0 : Int) ≤ (p : Int) := by omega
    have i6 : (p : Int) ≤ (cap : Int) := by omega
    have i7 : (p : Int) ≤ (l.length : Int) := by omega
    have i8 : (l.length : Int) ≤ (cap : Int) := by omega
    cases hth : there l r.key
    · rw [hth] at hFx hD hDl hat hDn
      simp only [Bool.false_eq_true, if_false, Nat.add_zero] at hD hDl hat hDn
      have HD := hide hD
      have HDL := hide hDl
      have HDN := hide hDn
      clear hD hDl hDn
      go_enter Try.func58, Try.ntmps58
      go_wp2_with fail
      refine hFx.mono ?_
      rintro e w1 ⟨rfl, hb1⟩
      have hb2 := hb0.trans (hb1.mono hb0.size)
      have hx1 := (hb1.block _ (Array.getElem?_eq_some_iff.1 hx0).1).trans hx0
      have t0 : w1.cell? ⟨br, 0, none⟩ = some (.slice (some ⟨g, off, none⟩) l.length cap) := cellB ((hb2.block br hlt).trans hg) 0 rfl
      clear hb0 hx0 hFx hb1
      go_wp2_with (first
        | (at_builtin; refine wpList_append_row (enc := rwenc) (k := 3) rfl (.tmp 14) (.tmp 20) RowsT rfl RowT noRw 40 Try.underlying26 row_info rfl (by decide) rwenc_len rwenc_one w.heap.size _ ([] : List Rw) rfl (World.ownsRow_nil _ _ _ _) (some ⟨g, off, none⟩) P p cap rfl HTL.out.symm (HA.out.below hb2).lies (fun e => by cases e) (by have := HTL.out; simp; omega) (by have := HTL.out; simp; omega) hb2.size ?_; intro v3 w3 hown3 hg3 hat3; simp only [List.nil_append] at hown3; have hb3 := hide (hb2.grown hg3 hb2.size (fun k hk => by cases hk)); have hx3 : w3.heap[w.heap.size]? = some (.cells #[.string r.key, .int .i64 r.stamp, .string r.val] RowT (0, 0)) := (hg3.block _ (Array.getElem?_eq_some_iff.1 hx1).1 (fun e => by cases e)).trans hx1; have s0 : w3.cell? ⟨w.heap.size, 0, none⟩ = some (.string r.key) := cellB hx3 0 rfl; have s1 : w3.cell? ⟨w.heap.size, 1, none⟩ = some (.int .i64 r.stamp) := cellB hx3 1 rfl; have s2 : w3.cell? ⟨w.heap.size, 2, none⟩ = some (.string r.val) := cellB hx3 2 rfl; obtain ⟨a3, c3, rfl⟩ := Gk.own_slice hown3; have HO3 := hide hown3; have hz3 := hb3.out.size; clear hown3 hg3 hat3 hx3)
        | (at_builtin; refine wpList_push (enc := rwenc) (k := 3) rfl (.tmp 22) (.tmp 24) RowsT rfl RowT noRw 40 Try.underlying26 row_info rfl (by decide) rwenc_len rwenc_one w.heap.size _ P rfl (own_below HO3.out (below_a1 w3 _)) w3.heap.size r rfl (heap_alloc_new w3 _) (by have := HTL.out; simp; omega) (by have := HTL.out; simp; omega) (by have := HTL.out; simp; omega) ?_; intro v4 w4 hown4 hg4 hat4; have hb4 := hide ((hb3.out.alloc hz3 _).grown hg4 (by simp; omega) (fun k hk => (HO3.out.lt k hk).1)); have t4 : w4.cell? ⟨br, 0, none⟩ = some (Value.slice (some ⟨g, off, none⟩) l.length cap) := cellB ((hb4.out.block br hlt).trans hg) 0 rfl; obtain ⟨a4, c4, rfl⟩ := Gk.own_slice hown4; have hL4 : (P ++ [r]).length = P.length + 1 := (by simp); have HO4 : Hid (w4.ownsRow w.heap.size RowT 3 (.slice a4 (P.length + 1) c4) (P ++ [r]).length (rc rwenc (P ++ [r]))) := (by rw [← hL4]; exact hown4); have hz4 := hb4.out.size; clear hown4 hg4 hat4 hL4)
        | (at_builtin; refine wpList_append_row (enc := rwenc) (k := 3) rfl (.tmp 30) (.tmp 36) RowsT rfl RowT noRw 40 Try.underlying26 row_info rfl (by decide) rwenc_len rwenc_one w.heap.size _ (P ++ [r]) rfl HO4.out (if cap = p then some ⟨g, off, none⟩ else some ⟨g, off + p * 3, none⟩) D (l.length - p) (cap - p) rfl HDL.out.symm (HD.out.below hb4.out).lies HDN.out (by have := HTL.out; have := HDL.out; simp; omega) (by have := HTL.out; have := HDL.out; simp; omega) hz4 ?_; intro v5 w5 hown5 hg5 hat5; have hb5 := hide (hb4.out.grown hg5 hz4 (fun k hk => (HO4.out.lt k hk).1)); have hg6 := hide ((hb5.out.block br hlt).trans hg); have t5 : w5.cell? ⟨br, 0, none⟩ = some (Value.slice (some ⟨g, off, none⟩) l.length cap) := cellB hg6.out 0 rfl; have f5 := unfrozen_of_block hg6.out 0; obtain ⟨M, hM⟩ : ∃ M, M = P ++ [r] ++ D := ⟨_, rfl⟩; rw [← hM] at hown5; have HM := hide (HQ.out.trans hM.symm); have HO5 := hide hown5; obtain ⟨a5, c5, rfl⟩ := Gk.own_slice hown5; clear hown5 hg5 hat5 hM))
      all_goals
       have HR5 := hide (RH.put hg6.out (l := M) (RL.of_own HO5.out) (HM.out ▸ hok'))
       have HTu : Hid (Turn br w (w5.setCell ⟨br, 0, none⟩ (.slice a5 (M).length c5))) := (Only.of_below hb5.out).trans (Only.of_set (own := fun b => b = br) _ rfl _)
       have HW5 := hide (put_ownR hg6.out HO5.out (Nat.le_refl _))
       go_end0
       rw [HM.out]
       exact ⟨rfl, HR5.out, HTu.out, HW5.out⟩
    · rw [hth] at hFx hD hDl hat hDn
      simp only [if_true] at hD hDl hat hDn
      have HD := hide hD
      have HDL := hide hDl
      have HDN := hide hDn
      have i9 : (0 : Int) ≤ (p : Int) + 1 := by omega
      have i10 : (p : Int) + 1 ≤ (l.length : Int) := by omega
      have i11 : ((p : Int) + 1).toNat = p + 1 := by omega
      clear hD hDl hDn
      go_enter Try.func58, Try.ntmps58
      go_wp2_with fail
      refine hFx.mono ?_
      rintro e w1 ⟨rfl, hb1⟩
      have hb2 := hb0.trans (hb1.mono hb0.size)
      have hx1 := (hb1.block _ (Array.getElem?_eq_some_iff.1 hx0).1).trans hx0
      have t0 : w1.cell? ⟨br, 0, none⟩ = some (.slice (some ⟨g, off, none⟩) l.length cap) := cellB ((hb2.block br hlt).trans hg) 0 rfl
      clear hb0 hx0 hFx hb1
      go_wp2_with (first
        | (at_builtin; refine wpList_append_row (enc := rwenc) (k := 3) rfl (.tmp 14) (.tmp 20) RowsT rfl RowT noRw 40 Try.underlying26 row_info rfl (by decide) rwenc_len rwenc_one w.heap.size _ ([] : List Rw) rfl (World.ownsRow_nil _ _ _ _) (some ⟨g, off, none⟩) P p cap rfl HTL.out.symm (HA.out.below hb2).lies (fun e => by cases e) (by have := HTL.out; simp; omega) (by have := HTL.out; simp; omega) hb2.size ?_; intro v3 w3 hown3 hg3 hat3; simp only [List.nil_append] at hown3; have hb3 := hide (hb2.grown hg3 hb2.size (fun k hk => by cases hk)); have hx3 : w3.heap[w.heap.size]? = some (.cells #[.string r.key, .int .i64 r.stamp, .string r.val] RowT (0, 0)) := (hg3.block _ (Array.getElem?_eq_some_iff.1 hx1).1 (fun e => by cases e)).trans hx1; have s0 : w3.cell? ⟨w.heap.size, 0, none⟩ = some (.string r.key) := cellB hx3 0 rfl; have s1 : w3.cell? ⟨w.heap.size, 1, none⟩ = some (.int .i64 r.stamp) := cellB hx3 1 rfl; have s2 : w3.cell? ⟨w.heap.size, 2, none⟩ = some (.string r.val) := cellB hx3 2 rfl; obtain ⟨a3, c3, rfl⟩ := Gk.own_slice hown3; have HO3 := hide hown3; have hz3 := hb3.out.size; clear hown3 hg3 hat3 hx3)
        | (at_builtin; refine wpList_push (enc := rwenc) (k := 3) rfl (.tmp 22) (.tmp 24) RowsT rfl RowT noRw 40 Try.underlying26 row_info rfl (by decide) rwenc_len rwenc_one w.heap.size _ P rfl (own_below HO3.out (below_a1 w3 _)) w3.heap.size r rfl (heap_alloc_new w3 _) (by have := HTL.out; simp; omega) (by have := HTL.out; simp; omega) (by have := HTL.out; simp; omega) ?_; intro v4 w4 hown4 hg4 hat4; have hb4 := hide ((hb3.out.alloc hz3 _).grown hg4 (by simp; omega) (fun k hk => (HO3.out.lt k hk).1)); have t4 : w4.cell? ⟨br, 0, none⟩ = some (Value.slice (some ⟨g, off, none⟩) l.length cap) := cellB ((hb4.out.block br hlt).trans hg) 0 rfl; obtain ⟨a4, c4, rfl⟩ := Gk.own_slice hown4; have hL4 : (P ++ [r]).length = P.length + 1 := (by simp); have HO4 : Hid (w4.ownsRow w.heap.size RowT 3 (.slice a4 (P.length + 1) c4) (P ++ [r]).length (rc rwenc (P ++ [r]))) := (by rw [← hL4]; exact hown4); have hz4 := hb4.out.size; clear hown4 hg4 hat4 hL4)
        | (at_builtin; refine wpList_append_row (enc := rwenc) (k := 3) rfl (.tmp 30) (.tmp 36) RowsT rfl RowT noRw 40 Try.underlying26 row_info rfl (by decide) rwenc_len rwenc_one w.heap.size _ (P ++ [r]) rfl HO4.out (if cap = (p + 1) then some ⟨g, off, none⟩ else some ⟨g, off + (p + 1) * 3, none⟩) D (l.length - (p + 1)) (cap - (p + 1)) rfl HDL.out.symm (HD.out.below hb4.out).lies HDN.out (by have := HTL.out; have := HDL.out; simp; omega) (by have := HTL.out; have := HDL.out; simp; omega) hz4 ?_; intro v5 w5 hown5 hg5 hat5; have hb5 := hide (hb4.out.grown hg5 hz4 (fun k hk => (HO4.out.lt k hk).1)); have hg6 := hide ((hb5.out.block br hlt).trans hg); have t5 : w5.cell? ⟨br, 0, none⟩ = some (Value.slice (some ⟨g, off, none⟩) l.length cap) := cellB hg6.out 0 rfl; have f5 := unfrozen_of_block hg6.out 0; obtain ⟨M, hM⟩ : ∃ M, M = P ++ [r] ++ D := ⟨_, rfl⟩; rw [← hM] at hown5; have HM := hide (HQ.out.trans hM.symm); have HO5 := hide hown5; obtain ⟨a5, c5, rfl⟩ := Gk.own_slice hown5; clear hown5 hg5 hat5 hM))
      all_goals
       have HR5 := hide (RH.put hg6.out (l := M) (RL.of_own HO5.out) (HM.out ▸ hok'))
       have HTu : Hid (Turn br w (w5.setCell ⟨br, 0, none⟩ (.slice a5 (M).length c5))) := (Only.of_below hb5.out).trans (Only.of_set (own := fun b => b = br) _ rfl _)
       have HW5 := hide (put_ownR hg6.out HO5.out (Nat.le_refl _))
       go_end0
       rw [HM.out]
       exact ⟨rfl, HR5.out, HTu.out, HW5.out⟩

end Go.Proofs.Ythdempdiibjabaa.Tr

namespace Go.Proofs.Ythdempdiibjabaa.Tr
open Go.RowKit Go.Joins Go.Proofs.Ythdempdiibjabaa.Gk Go.Proofs.Ythdempdiibjabaa.Oq Go.Proofs.Ythdempdiibjabaa.Sp Go.Proofs.Ythdempdiibjabaa.Tb

/-- the boxes -/
structure RFr (w : World) (bt : Nat) (k : Int) (key val : ByteArray) (s t m : Int) (v : Value) (W : World) : Prop where
  box : W.heap[w.heap.size]? = some (.cells (opC k key val s t m) OpT (0, 0))
  res : W.heap[w.heap.size + 1]? = some (.cells rs0 ResT (0, 0))
  tab : W.heap[bt]? = some (.cells #[v] RTabT (0, 0))
  bel : Below w.heap.size w W
section
variable {w : World} {bt : Nat} {k : Int} {key val : ByteArray} {s t m : Int} {v : Value} {W W' : World}
theorem RFr.start (hg : w.heap[bt]? = some (.cells #[v] RTabT (0, 0))) : RFr w bt k key val s t m v ((w.alloc (.cells (opC k key val s t m) OpT)).alloc (.cells rs0 ResT)) := by
  refine ⟨?_, ?_, ?_, below_a2 _ _ _⟩
  · rw [heap_alloc_old _ _ (by simp)]; exact heap_alloc_new _ _
  · have := heap_alloc_new (w.alloc (.cells (opC k key val s t m) OpT)) (.cells rs0 ResT); simpa using this
  · have hlt := (Array.getElem?_eq_some_iff.1 hg).1
    exact ((below_a2 w _ _).block bt hlt).trans hg
theorem RFr.call (h : RFr w bt k key val s t m v W) (hb : Below W.heap.size W W') : RFr w bt k key val s t m v W' :=
  ⟨(hb.block _ (Array.getElem?_eq_some_iff.1 h.box).1).trans h.box, (hb.block _ (Array.getElem?_eq_some_iff.1 h.res).1).trans h.res, (hb.block _ (Array.getElem?_eq_some_iff.1 h.tab).1).trans h.tab, h.bel.trans (hb.mono h.bel.size)⟩
theorem RFr.drew (h : RFr w bt k key val s t m v W) : RFr w bt k key val s t m v W.drew := h.call (Below.refl _ _).drew
theorem RFr.xs (h : RFr w bt k key val s t m v W) : W.cell? ⟨w.heap.size, 0, none⟩ = some (.int .i64 k) ∧ W.cell? ⟨w.heap.size, 1, none⟩ = some (.string key) ∧ W.cell? ⟨w.heap.size, 2, none⟩ = some (.string val) ∧ W.cell? ⟨w.heap.size, 3, none⟩ = some (.int .i64 s) ∧ W.cell? ⟨w.heap.size, 4, none⟩ = some (.int .i64 t) ∧ W.cell? ⟨w.heap.size, 5, none⟩ = some (.int .i64 m) :=
  ⟨cellB h.box 0 rfl, cellB h.box 1 rfl, cellB h.box 2 rfl, cellB h.box 3 rfl, cellB h.box 4 rfl, cellB h.box 5 rfl⟩
theorem RFr.rs (h : RFr w bt k key val s t m v W) : W.cell? ⟨w.heap.size + 1, 0, none⟩ = some (.int .i64 0) ∧ W.cell? ⟨w.heap.size + 1, 1, none⟩ = some (.int .i64 0) ∧ W.cell? ⟨w.heap.size + 1, 2, none⟩ = some (.string ⟨#[]⟩) ∧ W.cell? ⟨w.heap.size + 1, 3, none⟩ = some (.slice none 0 0) :=
  ⟨cellB h.res 0 rfl, cellB h.res 1 rfl, cellB h.res 2 rfl, cellB h.res 3 rfl⟩
theorem RFr.fs (h : RFr w bt k key val s t m v W) : W.frozen? ⟨w.heap.size + 1, 0, none⟩ = false ∧ W.frozen? ⟨w.heap.size + 1, 1, none⟩ = false ∧ W.frozen? ⟨w.heap.size + 1, 2, none⟩ = false ∧ W.frozen? ⟨w.heap.size + 1, 3, none⟩ = false ∧ W.frozen? ⟨bt, 0, none⟩ = false :=
  ⟨unfrozen_of_block h.res 0, unfrozen_of_block h.res 1, unfrozen_of_block h.res 2, unfrozen_of_block h.res 3, unfrozen_of_block h.tab 0⟩
theorem RFr.tb (h : RFr w bt k key val s t m v W) : W.cell? ⟨bt, 0, none⟩ = some v := cellB h.tab 0 rfl
theorem RFr.lt (h : RFr w bt k key val s t m v W) : w.heap.size + 1 < W.heap.size := (Array.getElem?_eq_some_iff.1 h.res).1
end
theorem RH.stay {w w' : World} {bt : Nat} {l : List Rw} (h : RH w bt l) (hs : ∀ k, k < w.heap.size → w'.heap[k]? = w.heap[k]?) : RH w' bt l := by
  obtain ⟨ht, a, cap, hg, hr⟩ := h
  exact ⟨ht, a, cap, (hs bt (Array.getElem?_eq_some_iff.1 hg).1).trans hg, hr.stay fun g hb => hs g (by obtain ⟨cur, hc⟩ := hr.lt hb; exact (Array.getElem?_eq_some_iff.1 hc).1)⟩
/-- a result's contract -/
structure RsP (br : Nat) (w : World) (res : Rs × List Rw) (R : RsA) (w' : World) : Prop where
  eq : R.r = res.1
  rows : RL w' R.a R.cap R.r.rows
  tab : RH w' br res.2
  turn : Turn br w w'
  own : ∀ g, tabBlk w' br = some g → tabBlk w br = some g ∨ w.heap.size ≤ g
def OneR (f : Nat) (l : List Rw) (x : Opn) (res : Rs × List Rw) : Prop :=
  ∀ (br : Nat) (w : World), RH w br l → Calls Try.prog f #[ptr br, x.v] w fun e w' => ∃ R, e = .returned (RsA.v R) ∧ RsP br w res R w'
theorem RsP.plain {bt : Nat} {w w' : World} {l : List Rw} {c s : Int} {v : ByteArray} (hT : RH w bt l) (hb : Below w.heap.size w w') : RsP bt w (Tb.rs c s v, l) ⟨Tb.rs c s v, none, 0⟩ w' :=
  ⟨rfl, Or.inl ⟨rfl, rfl, rfl⟩, hT.below hb, Only.of_below hb, fun g hg => Or.inl (by rw [← hg]; exact (tabBlk_same (hb.block bt hT.lt)).symm)⟩
theorem RH.neRes {W : World} {bt b : Nat} {l : List Rw} {cs : Array Value} (h : RH W bt l) (hb : W.heap[b]? = some (.cells cs ResT (0, 0))) : bt ≠ b := by
  obtain ⟨_, a, cap, hg, _⟩ := h
  rintro rfl
  rw [hb] at hg
  simp only [Option.some.injEq, Obj.cells.injEq] at hg
  exact absurd hg.2.1 (by decide)
theorem RH.set4 {W : World} {bt b : Nat} {l : List Rw} {cs : Array Value} (h : RH W bt l) (hb : W.heap[b]? = some (.cells cs ResT (0, 0))) (u0 u1 u2 u3 : Value) : RH (set4 W b u0 u1 u2 u3) bt l := by
  obtain ⟨ht, a, cap, hg, hr⟩ := h
  have h1 : bt ≠ b := by
    rintro rfl
    rw [hb] at hg
    simp only [Option.some.injEq, Obj.cells.injEq] at hg
    exact absurd hg.2.1 (by decide)
  refine ⟨ht, a, cap, (set4_other _ _ _ h1 _ _ _ _).trans hg, hr.stay fun g hgb => set4_other _ _ _ ?_ _ _ _ _⟩
  rintro rfl
  obtain ⟨cur, hc⟩ := hr.lt hgb
  rw [hb] at hc
  simp only [Option.some.injEq, Obj.cells.injEq] at hc
  exact absurd hc.2.1 (by decide)
section
variable {w : World} {bt : Nat} {k : Int} {key val : ByteArray} {s t m : Int} {v : Value} {W W' w1 : World} {res : Rs × List Rw} {R : RsA}
theorem RFr.res1 (hF : RFr w bt k key val s t m v W) (hlt : bt < w.heap.size) (h : Turn bt W w1) : w1.heap[w.heap.size + 1]? = some (.cells rs0 ResT (0, 0)) :=
  (h.block _ hF.lt (by show w.heap.size + 1 ≠ bt; omega)).trans hF.res
theorem RsP.lift (hF : RFr w bt k key val s t m v W) (hlt : bt < w.heap.size) (h : RsP bt W res R w1) (u0 u1 u2 u3 : Value) : RsP bt w res R (Tb.set4 w1 (w.heap.size + 1) u0 u1 u2 u3) := by
  have hr := hF.res1 hlt h.turn
  refine ⟨h.eq, h.rows.set4 hr _ _ _ _, h.tab.set4 hr _ _ _ _, Turn.set4 ((Only.of_below hF.bel).trans h.turn) (Nat.le_succ _) _ _ _ _, fun g hg => ?_⟩
  rw [tabBlk_same (set4_other _ _ _ (h.tab.neRes hr) _ _ _ _)] at hg
  rcases h.own g hg with h1 | h1
  · exact Or.inl (by rw [← h1]; exact (tabBlk_same (hF.bel.block bt hlt)).symm)
  · exact Or.inr (Nat.le_trans hF.bel.size h1)
/-- the table has turned, the result has no rows -/
theorem RsP.put {l' : List Rw} {c s' : Int} {v' : ByteArray} (hF : RFr w bt k key val s t m v W) (hlt : bt < w.heap.size) (hR : RH w1 bt l') (h : Turn bt W w1) (hw : ∀ g, tabBlk w1 bt = some g → W.heap.size ≤ g) (u0 u1 u2 u3 : Value) : RsP bt w (Tb.rs c s' v', l') ⟨Tb.rs c s' v', none, 0⟩ (Tb.set4 w1 (w.heap.size + 1) u0 u1 u2 u3) :=
  RsP.lift hF hlt (res := (Tb.rs c s' v', l')) ⟨rfl, Or.inl ⟨rfl, rfl, rfl⟩, hR, h, fun g hg => Or.inr (hw g hg)⟩ u0 u1 u2 u3
end
theorem below_a3 (w : World) (o o' o'' : Obj) : Below w.heap.size w (((w.alloc o).alloc o').alloc o'') := (below_a2 w o o').alloc (by simp; omega) o''

end Go.Proofs.Ythdempdiibjabaa.Tr
