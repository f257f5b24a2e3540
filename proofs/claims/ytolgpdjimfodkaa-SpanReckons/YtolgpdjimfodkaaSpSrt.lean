/- Walks over the document's answer: sorted. -/
import Derived.Test.YtolgpdjimfodkaaSpRefP
import Derived.Test.YtolgpdjimfodkaaSpSame
import Derived.Test.YtolgpdjimfodkaaGArgs
namespace Go.Proofs.Ytolgpdjimfodkaa.Sp
open Go.RowKit Go.Joins Gk

/-- what sorting gives -/
structure SrtL (l r : List ByteArray) : Prop where
  ris : Ris r
  mem : ∀ t, t ∈ r ↔ t ∈ l
  len : r.length ≤ l.length
/-- texts lie there, with room -/
structure TL (w : World) (a : Option Addr) (cap : Nat) (l : List ByteArray) : Prop where
  lies : Lies w tenc a l
  room : l.length ≤ cap
  max : cap ≤ 9223372036854775807
theorem TL.below {w w' : World} {a : Option Addr} {cap : Nat} {l : List ByteArray} (h : TL w a cap l) (hb : Below w.heap.size w w') : TL w' a cap l := ⟨h.lies.below hb, h.room, h.max⟩
theorem lies_front {w : World} {b off : Nat} {l : List ByteArray} (h : Lies w tenc (some ⟨b, off, none⟩) l) (k : Nat) : Lies w tenc (some ⟨b, off, none⟩) (l.take k) := by
  rcases h with rfl | ⟨b', off', e, hlt, hl⟩
  · exact Or.inl (by simp)
  · cases e
    refine Or.inr ⟨b, off, rfl, hlt, fun j u hj => hl j u ?_⟩
    rw [← List.take_append_drop k l, rc_append, List.getElem?_append_left (List.getElem?_eq_some_iff.1 hj).1]; exact hj
theorem lies_back {w : World} {b off : Nat} {l : List ByteArray} (h : Lies w tenc (some ⟨b, off, none⟩) l) (k : Nat) (hk : k ≤ l.length) : Lies w tenc (some ⟨b, off + k, none⟩) (l.drop k) := by
  rcases h with rfl | ⟨b', off', e, hlt, hl⟩
  · exact Or.inl (by simp)
  · cases e
    refine Or.inr ⟨b, off + k, rfl, hlt, fun j u hj => ?_⟩
    rw [Nat.add_assoc]
    refine hl (k + j) u ?_
    have hlen : (rc tenc (l.take k)).length = k := by rw [rc_length tenc_len, List.length_take, Nat.min_eq_left hk, Nat.mul_one]
    rw [← List.take_append_drop k l, rc_append, List.getElem?_append_right (by omega), hlen, Nat.add_sub_cancel_left]; exact hj

theorem own_room {w : World} {B e size n cap : Nat} {a : Option Addr} {l : List Value} (h : w.ownsRow B e size (.slice a n cap) n l) : n ≤ cap ∧ cap ≤ 9223372036854775807 := by
  rcases h.2 with ⟨e1, h0⟩ | ⟨g, c', cur, e1, _, _, k1, k2, _⟩
  · cases e1; exact ⟨by omega, by omega⟩
  · cases e1; unfold maxLen at k2; exact ⟨k1, by omega⟩
abbrev StrT : TypeId := 9
theorem str_info : (Try.prog.info? StrT).map (fun i => (i.zero, i.size, i.bytes)) = some (some (.string ⟨#[]⟩), 1, 16) := by kernel_rfl

/-- what has been merged: i of the first, k of the second -/
structure MInv (r1 r2 : List ByteArray) (i k : Nat) (o : List ByteArray) : Prop where
  ris : Ris o
  mem : ∀ t, t ∈ o ↔ t ∈ r1.take i ∨ t ∈ r2.take k
  low : ∀ x ∈ o, ∀ y, y ∈ r1.drop i ∨ y ∈ r2.drop k → B4 x y = true
  len : o.length ≤ i + k
theorem MInv.zero (r1 r2 : List ByteArray) : MInv r1 r2 0 0 [] := ⟨List.Pairwise.nil, by simp, by simp, by simp⟩
section
variable {r1 r2 o : List ByteArray} {i k : Nat}
theorem MInv.push (h : MInv r1 r2 i k o) {x : ByteArray} (hx : x ∈ r1.drop i ∨ x ∈ r2.drop k) : Ris (o ++ [x]) :=
  List.pairwise_append.2 ⟨h.ris, List.pairwise_singleton _ _, fun y hy z hz => by rw [List.mem_singleton.1 hz]; exact h.low y hy x hx⟩
theorem ris_drop {r : List ByteArray} (h : Ris r) {i : Nat} (hi : i < r.length) : ∀ y ∈ r.drop (i + 1), B4 r[i] y = true := by
  have : Ris (r.drop i) := h.sublist (List.drop_sublist _ _)
  rw [List.drop_eq_getElem_cons hi] at this
  exact (List.pairwise_cons.1 this).1
theorem low_drop {r : List ByteArray} (h : Ris r) {i : Nat} (hi : i < r.length) {x : ByteArray} (hx : B4 x r[i] = true) : ∀ y ∈ r.drop i, B4 x y = true := by
  intro y hy
  rw [List.drop_eq_getElem_cons hi] at hy
  rcases List.mem_cons.1 hy with e | e
  · rw [e]; exact hx
  · exact B4.tr hx (ris_drop h hi y e)
theorem mem_drop_head {r : List ByteArray} {i : Nat} (hi : i < r.length) : r[i] ∈ r.drop i := by rw [List.drop_eq_getElem_cons hi]; exact List.mem_cons_self
theorem mem_drop_succ {r : List ByteArray} {i : Nat} {y : ByteArray} (hi : i < r.length) (h : y ∈ r.drop (i + 1)) : y ∈ r.drop i := by rw [List.drop_eq_getElem_cons hi]; exact List.mem_cons_of_mem _ h
theorem mem_take_succ {r : List ByteArray} {i : Nat} (hi : i < r.length) (t : ByteArray) : t ∈ r.take (i + 1) ↔ t ∈ r.take i ∨ t = r[i] := by rw [List.take_succ_eq_append_getElem hi, List.mem_append, List.mem_singleton]
theorem MInv.a (h : MInv r1 r2 i k o) (hr : Ris r1) (hi : i < r1.length) (hb : ∀ y ∈ r2.drop k, B4 r1[i] y = true) : MInv r1 r2 (i + 1) k (o ++ [r1[i]]) := by
  refine ⟨h.push (Or.inl (mem_drop_head hi)), fun t => ?_, fun x hx y hy => ?_, by have := h.len; simp; omega⟩
  · rw [List.mem_append, List.mem_singleton, h.mem, mem_take_succ hi]
    constructor
    · rintro ((h | h) | h)
      · exact Or.inl (Or.inl h)
      · exact Or.inr h
      · exact Or.inl (Or.inr h)
    · rintro ((h | h) | h)
      · exact Or.inl (Or.inl h)
      · exact Or.inr h
      · exact Or.inl (Or.inr h)
  · rcases List.mem_append.1 hx with hx | hx
    · exact h.low x hx y (hy.imp_left (mem_drop_succ hi))
    · rw [List.mem_singleton.1 hx]
      exact hy.elim (ris_drop hr hi y) (hb y)
theorem MInv.b (h : MInv r1 r2 i k o) (hr : Ris r2) (hk : k < r2.length) (ha : ∀ y ∈ r1.drop i, B4 r2[k] y = true) : MInv r1 r2 i (k + 1) (o ++ [r2[k]]) := by
  refine ⟨h.push (Or.inr (mem_drop_head hk)), fun t => ?_, fun x hx y hy => ?_, by have := h.len; simp; omega⟩
  · rw [List.mem_append, List.mem_singleton, h.mem, mem_take_succ hk, or_assoc]
  · rcases List.mem_append.1 hx with hx | hx
    · exact h.low x hx y (hy.imp_right (mem_drop_succ hk))
    · rw [List.mem_singleton.1 hx]
      exact hy.elim (ha y) (ris_drop hr hk y)
theorem MInv.e (h : MInv r1 r2 i k o) (h1 : Ris r1) (h2 : Ris r2) (hi : i < r1.length) (hk : k < r2.length) (he : r1[i] = r2[k]) : MInv r1 r2 (i + 1) (k + 1) (o ++ [r1[i]]) := by
  refine ⟨h.push (Or.inl (mem_drop_head hi)), fun t => ?_, fun x hx y hy => ?_, by have := h.len; simp; omega⟩
  · rw [List.mem_append, List.mem_singleton, h.mem, mem_take_succ hi, mem_take_succ hk, ← he]
    constructor
    · rintro ((h | h) | h)
      · exact Or.inl (Or.inl h)
      · exact Or.inr (Or.inl h)
      · exact Or.inl (Or.inr h)
    · rintro ((h | h) | (h | h))
      · exact Or.inl (Or.inl h)
      · exact Or.inr h
      · exact Or.inl (Or.inr h)
      · exact Or.inr h
  · rcases List.mem_append.1 hx with hx | hx
    · exact h.low x hx y (hy.imp (mem_drop_succ hi) (mem_drop_succ hk))
    · rw [List.mem_singleton.1 hx]
      exact hy.elim (ris_drop h1 hi y) (fun hy => by rw [he]; exact ris_drop h2 hk y hy)
theorem MInv.done {l : List ByteArray} {h : Nat} (hh : h ≤ l.length) (m : MInv r1 r2 r1.length r2.length o) (h1 : SrtL (l.take h) r1) (h2 : SrtL (l.drop h) r2) : SrtL l o := by
  refine ⟨m.ris, fun t => ?_, ?_⟩
  · rw [m.mem, List.take_length, List.take_length, h1.mem, h2.mem, ← List.mem_append, List.take_append_drop]
  · have a := m.len; have b := h1.len; have c := h2.len
    rw [List.length_take] at b; rw [List.length_drop] at c; omega
end

/-- the walk of a quiet region, sealed -/
structure QW (P : Program) (ops : Array Oper) (C : World → Prop) (Q : Act → Prop) (l : List Oper) (a : Act) : Prop where
  out : wpQuiet P ops C Q l a
section
variable {P : Program} {ops : Array Oper} {C : World → Prop} {Q : Act → Prop} {o : Oper} {rest : List Oper} {a : Act}
theorem QW.step (h : ∀ K : Act → Prop, (∀ a, QW P ops C Q rest a → K a) → if Region.wanted o (yielded ops a.tmps) then o.quiet P a C K else K (a.put o.dst undef)) : QW P ops C Q (o :: rest) a :=
  ⟨wpQuiet_step fun K hK => h K fun a q => hK a q.out⟩
theorem QW.skip (h : Region.wanted o (yielded ops a.tmps) = false) (hr : QW P ops C Q rest (a.put o.dst undef)) : QW P ops C Q (o :: rest) a :=
  ⟨by unfold wpQuiet; rw [if_neg (by rw [h]; decide)]; exact hr.out⟩
theorem QW.nil (h : Q a) : QW P ops C Q [] a := ⟨h⟩
end

abbrev SBel (w W : World) : Prop := Below w.heap.size w W
theorem SBel.drew {w a : World} (h : SBel w a) : SBel w a.drew := Below.drew h
theorem SBel.call {w a b : World} (hb : Below a.heap.size a b) (h : SBel w a) : SBel w b := Below.trans h (hb.mono h.size)

set_option maxHeartbeats 6400000 in
set_option maxRecDepth 100000 in
theorem sorted_any (n : Nat) : ∀ (a : Option Addr) (cap : Nat) (l : List ByteArray) (w : World), l.length ≤ n → TL w a cap l → l.length ≤ 1000000 →
    Calls Try.prog 47 #[.slice a l.length cap] w fun e w' => ∃ a' c' r, e = .returned (.slice a' r.length c') ∧ TL w' a' c' r ∧ SrtL l r ∧ Below w.heap.size w w' := by
  induction n with
  | zero =>
    intro a cap l w hn hT hm
    have h2 : (l.length : Int) < 2 := by omega
    go_enter Try.func47, Try.ntmps47
    go_wp2
    go_ret
    have h0 : l = [] := List.eq_nil_of_length_eq_zero (by omega)
    exact ⟨a, cap, l, rfl, hT, ⟨by rw [h0]; exact List.Pairwise.nil, fun _ => Iff.rfl, Nat.le_refl _⟩, Below.refl _ _⟩
  | succ n ih =>
    intro a cap l w hn hT hm
    by_cases hl2 : l.length < 2
    · have h2 : (l.length : Int) < 2 := by omega
      go_enter Try.func47, Try.ntmps47
      go_wp2
      go_ret
      refine ⟨a, cap, l, rfl, hT, ⟨?_, fun _ => Iff.rfl, Nat.le_refl _⟩, Below.refl _ _⟩
      match l, hl2 with
      | [], _ => exact List.Pairwise.nil
      | [x], _ => exact List.pairwise_singleton _ _
      | _ :: _ :: _, h => simp at h; omega
    · have h2 : ¬ (l.length : Int) < 2 := by omega
      obtain ⟨b, off, rfl, hbl, -⟩ := hT.lies.at tenc_len 0 (by omega)
      obtain ⟨h, hh⟩ : ∃ h, h = l.length / 2 := ⟨_, rfl⟩
      have hq : (l.length : Int).tdiv 2 = (h : Int) := by rw [hh, Int.tdiv_eq_ediv_of_nonneg (by omega)]; omega
      have hq' : (l.length : Int) / 2 = (h : Int) := by rw [hh]; omega
      have hc1 : h ≤ cap := by have := hT.room; omega
      have hc2 : h ≤ l.length := by omega
      have ha := fun W (hb : Below w.heap.size w W) => ih (some ⟨b, off, none⟩) cap (l.take h) W (by rw [List.length_take]; omega) ⟨lies_front (hT.below hb).lies h, by rw [List.length_take]; omega, hT.max⟩ (by rw [List.length_take]; omega)
      have hbk := fun W (hb : Below w.heap.size w W) => ih (some ⟨b, off + h, none⟩) (cap - h) (l.drop h) W (by rw [List.length_drop]; omega) ⟨lies_back (hT.below hb).lies h hc2, by rw [List.length_drop]; have := hT.room; omega, by have := hT.max; omega⟩ (by rw [List.length_drop]; omega)
      rw [show (l.take h).length = h by rw [List.length_take]; omega] at ha
      rw [show (l.drop h).length = l.length - h by rw [List.length_drop]] at hbk
      have hroom := hT.room
      have hw1 : IntKind.i64.wrap (h : Int) = (h : Int) := by rw [IntKind.wrap_i64]; omega
      have hw2 : (0 : Int) ≤ (h : Int) := by omega
      have hw3 : (h : Int) ≤ (cap : Int) := by omega
      have hw4 : (h : Int) ≤ (l.length : Int) := by omega
      have hw5 : ¬ cap = h := by omega
      have hmax := hT.max
      have HT := hide hT
      clear hT hh
      go_enter Try.func47, Try.ntmps47
      go_wp2_with fail
      have hS0 : SBel w w := Below.refl _ _
      go_region_held3 (SBel w) (first | exact SBel.call (by assumption) (by assumption) | exact SBel.drew (by assumption) | assumption)
        (first
          | (go_at_call 47; refine (ha _ (by assumption)).mono ?_; rintro e w1 ⟨a1, c1, r1, rfl, hT1, hS1, hb1⟩; clear ha)
          | (go_at_call 47; refine (hbk _ (by assumption)).mono ?_; rintro e w2 ⟨a2, c2, r2, rfl, hT2, hS2, hb2⟩))
      replace hT1 := hT1.below hb2
      have hbw : Below w.heap.size w w2 := by assumption
      have HS1 := hide hS1
      have HS2 := hide hS2
      have hlen1 : r1.length ≤ l.length := by have := hS1.len; rw [List.length_take] at this; omega
      have hlen2 : r2.length ≤ l.length := by have := hS2.len; rw [List.length_drop] at this; omega
      clear hbk hb1 hb2 hS0 hS1 hS2 hq hq' hw1 hw2 hw3 hw4 hw5 hl2 h2 ih HT
      go_wp2
      go_loopw [5, 6, 7] (fun v iv kv wr => ∃ (i k : Nat) (o : List ByteArray), i ≤ r1.length ∧ k ≤ r2.length ∧ iv = .int .i64 i ∧ kv = .int .i64 k ∧ (∃ n1, n1 = o.length ∧ wr.ownsRow w2.heap.size StrT 1 v n1 (rc tenc o)) ∧ Below w2.heap.size w2 wr ∧ Hid (MInv r1 r2 i k o)) (fun _ iv kv _ => r1.length + r2.length - (intOf iv).toNat - (intOf kv).toNat)
      case atStart => exact ⟨0, 0, [], Nat.zero_le _, Nat.zero_le _, rfl, rfl, ⟨0, rfl, World.ownsRow_nil _ _ _ _⟩, Below.refl _ _, MInv.zero _ _⟩
      case round =>
        obtain ⟨i, k, o, hi, hk, rfl, rfl, ⟨n1, hn1, ho⟩, hb, HM⟩ := hrel
        subst hn1
        obtain ⟨av, cv, rfl⟩ := own_slice ho
        have hol := HM.out.len
        have HO := hide ho
        clear ho
        by_cases hi' : i < r1.length
        · by_cases hk' : k < r2.length
          · skip
            obtain ⟨b1, o1, rfl, hl1, hc1'⟩ := (hT1.lies.below hb).at tenc_len i hi'
            have ca := hc1' 0 _ rfl
            rw [Nat.mul_one, Nat.add_zero] at ca
            have i1 : (0 : Int) ≤ (i : Int) := by omega
            have i2 : (i : Int) < (r1.length : Int) := by omega
            have i3 : ¬ (i : Int) = (r1.length : Int) := by omega
            have i4 : ¬ i = r1.length := by omega
            have HX := hide (show r1[i] = r1[i] from rfl)
            clear hc1'
            obtain ⟨b2, o2, rfl, hl2', hc2'⟩ := (hT2.lies.below hb).at tenc_len k hk'
            have cb := hc2' 0 _ rfl
            rw [Nat.mul_one, Nat.add_zero] at cb
            have k1 : (0 : Int) ≤ (k : Int) := by omega
            have k2 : (k : Int) < (r2.length : Int) := by omega
            have k3 : ¬ (k : Int) = (r2.length : Int) := by omega
            have k4 : ¬ k = r2.length := by omega
            clear hc2'
            by_cases hab : B4 r1[i] r2[k] = true
            · have g1 : Op.bytesLess r1[i].toList r2[k].toList = true := by rw [less_b4]; exact hab
              have HN := hide (HM.out.a HS1.out.ris hi' (low_drop HS2.out.ris hk' hab))
              obtain ⟨x, hx⟩ : ∃ x, r1[i] = x := ⟨_, rfl⟩
              obtain ⟨y, hy⟩ : ∃ y, r2[k] = y := ⟨_, rfl⟩
              rw [hx] at ca
              rw [hy] at cb
              rw [hx, hy] at g1
              rw [hx] at HN
              clear hx hy hab HX
              go_wp2_with fail
              refine wp_region_quiet_lit (by kernel_rfl) (by kernel_rfl) ?_
              refine QW.out ?_
              refine QW.step (fun K hK => ?_)
              go_simp
              refine hK _ ?_
              clear hK K
              refine QW.step (fun K hK => ?_)
              go_simp
              refine hK _ ?_
              clear hK K
              refine QW.step (fun K hK => ?_)
              go_simp
              refine hK _ ?_
              clear hK K
              refine QW.step (fun K hK => ?_)
              go_simp
              refine hK _ ?_
              clear hK K
              refine QW.step (fun K hK => ?_)
              go_simp
              refine hK _ ?_
              clear hK K
              refine QW.step (fun K hK => ?_)
              go_simp
              refine hK _ ?_
              clear hK K
              refine QW.step (fun K hK => ?_)
              go_simp
              refine hK _ ?_
              clear hK K
              refine QW.step (fun K hK => ?_)
              go_simp
              refine hK _ ?_
              clear hK K
              refine QW.step (fun K hK => ?_)
              go_simp
              refine hK _ ?_
              clear hK K
              refine QW.step (fun K hK => ?_)
              go_simp
              refine hK _ ?_
              clear hK K
              refine QW.step (fun K hK => ?_)
              go_simp
              refine hK _ ?_
              clear hK K
              refine QW.step (fun K hK => ?_)
              go_simp
              refine hK _ ?_
              clear hK K
              refine QW.step (fun K hK => ?_)
              go_simp
              refine hK _ ?_
              clear hK K
              refine QW.step (fun K hK => ?_)
              go_simp
              refine hK _ ?_
              clear hK K
              refine QW.step (fun K hK => ?_)
              go_simp
              refine hK _ ?_
              clear hK K
              refine QW.step (fun K hK => ?_)
              go_simp
              refine hK _ ?_
              clear hK K
              refine QW.step (fun K hK => ?_)
              go_simp
              refine hK _ ?_
              clear hK K
              refine QW.step (fun K hK => ?_)
              go_simp
              refine hK _ ?_
              clear hK K
              refine QW.step (fun K hK => ?_)
              go_simp
              refine hK _ ?_
              clear hK K
              refine QW.step (fun K hK => ?_)
              go_simp
              refine hK _ ?_
              clear hK K
              refine QW.step (fun K hK => ?_)
              go_simp
              refine hK _ ?_
              clear hK K
              refine QW.nil ?_
              rintro w3 ⟨nq, rfl⟩
              have hd := below_draws wr.heap.size wr nq
              replace ca := (hd.cell (p := ⟨b1, o1 + i, none⟩) hl1).trans ca
              replace cb := (hd.cell (p := ⟨b2, o2 + k, none⟩) hl2').trans cb
              replace hb := hb.trans (hd.mono hb.size)
              replace HO := hide (own_below HO.out hd)
              replace hl1 := Nat.lt_of_lt_of_le hl1 hd.size
              replace hl2' := Nat.lt_of_lt_of_le hl2' hd.size
              generalize wr.drewN nq = W at *
              clear hd
              have hz := hb.size
              go_wp2_with (at_builtin; refine wpList_push (enc := tenc) (k := 1) rfl (.tmp 55) (.tmp 60) 50 rfl StrT (.string ⟨#[]⟩) 16 Try.underlying50 str_info rfl (by decide) tenc_len tenc_one w2.heap.size _ o rfl (own_below HO.out (below_alloc1 W _)) W.heap.size x rfl (heap_alloc_new W _) (by omega) (by omega) (by simp; omega) ?_; intro v4 w4 ho4 hg4 hat4; obtain ⟨a4, d4, rfl⟩ := own_slice ho4; have HO4 := hide ho4; have hB4 := hide ((hb.alloc hz _).grown hg4 (by simp; omega) (fun k hk => (HO.out.lt k hk).1)); simp only [List.length_append, List.length_cons, List.length_nil, Nat.zero_add] at HO4; clear ho4 hg4 hat4)
              go_wp2
              go_roundw
              case rel => exact ⟨i + 1, k, o ++ [x], by omega, by omega, by first | rfl | go_num, by first | rfl | go_num, ⟨o.length + 1, by rw [List.length_append]; rfl, HO4.out⟩, hB4.out, HN⟩
              case measure => simp [intOf]; omega
            · have hab' : B4 r1[i] r2[k] = false := by simpa using hab
              have g1 : Op.bytesLess r1[i].toList r2[k].toList = false := by rw [less_b4]; exact hab'
              by_cases hba : B4 r2[k] r1[i] = true
              · have g2 : Op.bytesLess r2[k].toList r1[i].toList = true := by rw [less_b4]; exact hba
                have HN := hide (HM.out.b HS2.out.ris hk' (low_drop HS1.out.ris hi' hba))
                obtain ⟨x, hx⟩ : ∃ x, r1[i] = x := ⟨_, rfl⟩
                obtain ⟨y, hy⟩ : ∃ y, r2[k] = y := ⟨_, rfl⟩
                rw [hx] at ca
                rw [hy] at cb
                rw [hx, hy] at g1
                rw [hx, hy] at g2
                rw [hy] at HN
                clear hx hy hab hab' hba HX
                go_wp2_with fail
                refine wp_region_quiet_lit (by kernel_rfl) (by kernel_rfl) ?_
                refine QW.out ?_
                refine QW.step (fun K hK => ?_)
                go_simp
                refine hK _ ?_
                clear hK K
                refine QW.step (fun K hK => ?_)
                go_simp
                refine hK _ ?_
                clear hK K
                refine QW.step (fun K hK => ?_)
                go_simp
                refine hK _ ?_
                clear hK K
                refine QW.step (fun K hK => ?_)
                go_simp
                refine hK _ ?_
                clear hK K
                refine QW.step (fun K hK => ?_)
                go_simp
                refine hK _ ?_
                clear hK K
                refine QW.step (fun K hK => ?_)
                go_simp
                refine hK _ ?_
                clear hK K
                refine QW.step (fun K hK => ?_)
                go_simp
                refine hK _ ?_
                clear hK K
                refine QW.step (fun K hK => ?_)
                go_simp
                refine hK _ ?_
                clear hK K
                refine QW.step (fun K hK => ?_)
                go_simp
                refine hK _ ?_
                clear hK K
                refine QW.step (fun K hK => ?_)
                go_simp
                refine hK _ ?_
                clear hK K
                refine QW.step (fun K hK => ?_)
                go_simp
                refine hK _ ?_
                clear hK K
                refine QW.step (fun K hK => ?_)
                go_simp
                refine hK _ ?_
                clear hK K
                refine QW.step (fun K hK => ?_)
                go_simp
                refine hK _ ?_
                clear hK K
                refine QW.step (fun K hK => ?_)
                go_simp
                refine hK _ ?_
                clear hK K
                refine QW.step (fun K hK => ?_)
                go_simp
                refine hK _ ?_
                clear hK K
                refine QW.step (fun K hK => ?_)
                go_simp
                refine hK _ ?_
                clear hK K
                refine QW.step (fun K hK => ?_)
                go_simp
                refine hK _ ?_
                clear hK K
                refine QW.step (fun K hK => ?_)
                go_simp
                refine hK _ ?_
                clear hK K
                refine QW.step (fun K hK => ?_)
                go_simp
                refine hK _ ?_
                clear hK K
                refine QW.step (fun K hK => ?_)
                go_simp
                refine hK _ ?_
                clear hK K
                refine QW.step (fun K hK => ?_)
                go_simp
                refine hK _ ?_
                clear hK K
                refine QW.nil ?_
                rintro w3 ⟨nq, rfl⟩
                have hd := below_draws wr.heap.size wr nq
                replace ca := (hd.cell (p := ⟨b1, o1 + i, none⟩) hl1).trans ca
                replace cb := (hd.cell (p := ⟨b2, o2 + k, none⟩) hl2').trans cb
                replace hb := hb.trans (hd.mono hb.size)
                replace HO := hide (own_below HO.out hd)
                replace hl1 := Nat.lt_of_lt_of_le hl1 hd.size
                replace hl2' := Nat.lt_of_lt_of_le hl2' hd.size
                generalize wr.drewN nq = W at *
                clear hd
                go_wp2_with fail
                refine wp_region_quiet_lit (by kernel_rfl) (by kernel_rfl) ?_
                refine QW.out ?_
                refine QW.step (fun K hK => ?_)
                go_simp
                refine hK _ ?_
                clear hK K
                refine QW.step (fun K hK => ?_)
                go_simp
                refine hK _ ?_
                clear hK K
                refine QW.step (fun K hK => ?_)
                go_simp
                refine hK _ ?_
                clear hK K
                refine QW.step (fun K hK => ?_)
                go_simp
                refine hK _ ?_
                clear hK K
                refine QW.step (fun K hK => ?_)
                go_simp
                refine hK _ ?_
                clear hK K
                refine QW.step (fun K hK => ?_)
                go_simp
                refine hK _ ?_
                clear hK K
                refine QW.step (fun K hK => ?_)
                go_simp
                refine hK _ ?_
                clear hK K
                refine QW.step (fun K hK => ?_)
                go_simp
                refine hK _ ?_
                clear hK K
                refine QW.step (fun K hK => ?_)
                go_simp
                refine hK _ ?_
                clear hK K
                refine QW.step (fun K hK => ?_)
                go_simp
                refine hK _ ?_
                clear hK K
                refine QW.step (fun K hK => ?_)
                go_simp
                refine hK _ ?_
                clear hK K
                refine QW.step (fun K hK => ?_)
                go_simp
                refine hK _ ?_
                clear hK K
                refine QW.step (fun K hK => ?_)
                go_simp
                refine hK _ ?_
                clear hK K
                refine QW.step (fun K hK => ?_)
                go_simp
                refine hK _ ?_
                clear hK K
                refine QW.step (fun K hK => ?_)
                go_simp
                refine hK _ ?_
                clear hK K
                refine QW.nil ?_
                rintro w3 ⟨nq, rfl⟩
                have hd := below_draws W.heap.size W nq
                replace ca := (hd.cell (p := ⟨b1, o1 + i, none⟩) hl1).trans ca
                replace cb := (hd.cell (p := ⟨b2, o2 + k, none⟩) hl2').trans cb
                replace hb := hb.trans (hd.mono hb.size)
                replace HO := hide (own_below HO.out hd)
                replace hl1 := Nat.lt_of_lt_of_le hl1 hd.size
                replace hl2' := Nat.lt_of_lt_of_le hl2' hd.size
                generalize W.drewN nq = V at *
                clear hd
                have hz := hb.size
                go_wp2_with (at_builtin; refine wpList_push (enc := tenc) (k := 1) rfl (.tmp 79) (.tmp 84) 50 rfl StrT (.string ⟨#[]⟩) 16 Try.underlying50 str_info rfl (by decide) tenc_len tenc_one w2.heap.size _ o rfl (own_below HO.out (below_alloc1 V _)) V.heap.size y rfl (heap_alloc_new V _) (by omega) (by omega) (by simp; omega) ?_; intro v4 w4 ho4 hg4 hat4; obtain ⟨a4, d4, rfl⟩ := own_slice ho4; have HO4 := hide ho4; have hB4 := hide ((hb.alloc hz _).grown hg4 (by simp; omega) (fun k hk => (HO.out.lt k hk).1)); simp only [List.length_append, List.length_cons, List.length_nil, Nat.zero_add] at HO4; clear ho4 hg4 hat4)
                go_wp2
                go_roundw
                case rel => exact ⟨i, k + 1, o ++ [y], by omega, by omega, by first | rfl | go_num, by first | rfl | go_num, ⟨o.length + 1, by rw [List.length_append]; rfl, HO4.out⟩, hB4.out, HN⟩
                case measure => simp [intOf]; omega
              · have hba' : B4 r2[k] r1[i] = false := by simpa using hba
                have g2 : Op.bytesLess r2[k].toList r1[i].toList = false := by rw [less_b4]; exact hba'
                have HN := hide (HM.out.e HS1.out.ris HS2.out.ris hi' hk' (B4.eq hab' hba'))
                obtain ⟨x, hx⟩ : ∃ x, r1[i] = x := ⟨_, rfl⟩
                obtain ⟨y, hy⟩ : ∃ y, r2[k] = y := ⟨_, rfl⟩
                rw [hx] at ca
                rw [hy] at cb
                rw [hx, hy] at g1
                rw [hx, hy] at g2
                rw [hx] at HN
                clear hx hy hab hab' hba hba' HX
                go_wp2_with fail
                refine wp_region_quiet_lit (by kernel_rfl) (by kernel_rfl) ?_
                refine QW.out ?_
                refine QW.step (fun K hK => ?_)
                go_simp
                refine hK _ ?_
                clear hK K
                refine QW.step (fun K hK => ?_)
                go_simp
                refine hK _ ?_
                clear hK K
                refine QW.step (fun K hK => ?_)
                go_simp
                refine hK _ ?_
                clear hK K
                refine QW.step (fun K hK => ?_)
                go_simp
                refine hK _ ?_
                clear hK K
                refine QW.step (fun K hK => ?_)
                go_simp
                refine hK _ ?_
                clear hK K
                refine QW.step (fun K hK => ?_)
                go_simp
                refine hK _ ?_
                clear hK K
                refine QW.step (fun K hK => ?_)
                go_simp
                refine hK _ ?_
                clear hK K
                refine QW.step (fun K hK => ?_)
                go_simp
                refine hK _ ?_
                clear hK K
                refine QW.step (fun K hK => ?_)
                go_simp
                refine hK _ ?_
                clear hK K
                refine QW.step (fun K hK => ?_)
                go_simp
                refine hK _ ?_
                clear hK K
                refine QW.step (fun K hK => ?_)
                go_simp
                refine hK _ ?_
                clear hK K
                refine QW.step (fun K hK => ?_)
                go_simp
                refine hK _ ?_
                clear hK K
                refine QW.step (fun K hK => ?_)
                go_simp
                refine hK _ ?_
                clear hK K
                refine QW.step (fun K hK => ?_)
                go_simp
                refine hK _ ?_
                clear hK K
                refine QW.step (fun K hK => ?_)
                go_simp
                refine hK _ ?_
                clear hK K
                refine QW.step (fun K hK => ?_)
                go_simp
                refine hK _ ?_
                clear hK K
                refine QW.step (fun K hK => ?_)
                go_simp
                refine hK _ ?_
                clear hK K
                refine QW.step (fun K hK => ?_)
                go_simp
                refine hK _ ?_
                clear hK K
                refine QW.step (fun K hK => ?_)
                go_simp
                refine hK _ ?_
                clear hK K
                refine QW.step (fun K hK => ?_)
                go_simp
                refine hK _ ?_
                clear hK K
                refine QW.step (fun K hK => ?_)
                go_simp
                refine hK _ ?_
                clear hK K
                refine QW.nil ?_
                rintro w3 ⟨nq, rfl⟩
                have hd := below_draws wr.heap.size wr nq
                replace ca := (hd.cell (p := ⟨b1, o1 + i, none⟩) hl1).trans ca
                replace cb := (hd.cell (p := ⟨b2, o2 + k, none⟩) hl2').trans cb
                replace hb := hb.trans (hd.mono hb.size)
                replace HO := hide (own_below HO.out hd)
                replace hl1 := Nat.lt_of_lt_of_le hl1 hd.size
                replace hl2' := Nat.lt_of_lt_of_le hl2' hd.size
                generalize wr.drewN nq = W at *
                clear hd
                go_wp2_with fail
                refine wp_region_quiet_lit (by kernel_rfl) (by kernel_rfl) ?_
                refine QW.out ?_
                refine QW.step (fun K hK => ?_)
                go_simp
                refine hK _ ?_
                clear hK K
                refine QW.step (fun K hK => ?_)
                go_simp
                refine hK _ ?_
                clear hK K
                refine QW.step (fun K hK => ?_)
                go_simp
                refine hK _ ?_
                clear hK K
                refine QW.step (fun K hK => ?_)
                go_simp
                refine hK _ ?_
                clear hK K
                refine QW.step (fun K hK => ?_)
                go_simp
                refine hK _ ?_
                clear hK K
                refine QW.step (fun K hK => ?_)
                go_simp
                refine hK _ ?_
                clear hK K
                refine QW.step (fun K hK => ?_)
                go_simp
                refine hK _ ?_
                clear hK K
                refine QW.step (fun K hK => ?_)
                go_simp
                refine hK _ ?_
                clear hK K
                refine QW.step (fun K hK => ?_)
                go_simp
                refine hK _ ?_
                clear hK K
                refine QW.step (fun K hK => ?_)
                go_simp
                refine hK _ ?_
                clear hK K
                refine QW.step (fun K hK => ?_)
                go_simp
                refine hK _ ?_
                clear hK K
                refine QW.step (fun K hK => ?_)
                go_simp
                refine hK _ ?_
                clear hK K
                refine QW.step (fun K hK => ?_)
                go_simp
                refine hK _ ?_
                clear hK K
                refine QW.step (fun K hK => ?_)
                go_simp
                refine hK _ ?_
                clear hK K
                refine QW.step (fun K hK => ?_)
                go_simp
                refine hK _ ?_
                clear hK K
                refine QW.nil ?_
                rintro w3 ⟨nq, rfl⟩
                have hd := below_draws W.heap.size W nq
                replace ca := (hd.cell (p := ⟨b1, o1 + i, none⟩) hl1).trans ca
                replace cb := (hd.cell (p := ⟨b2, o2 + k, none⟩) hl2').trans cb
                replace hb := hb.trans (hd.mono hb.size)
                replace HO := hide (own_below HO.out hd)
                replace hl1 := Nat.lt_of_lt_of_le hl1 hd.size
                replace hl2' := Nat.lt_of_lt_of_le hl2' hd.size
                generalize W.drewN nq = V at *
                clear hd
                have hz := hb.size
                go_wp2_with (at_builtin; refine wpList_push (enc := tenc) (k := 1) rfl (.tmp 88) (.tmp 93) 50 rfl StrT (.string ⟨#[]⟩) 16 Try.underlying50 str_info rfl (by decide) tenc_len tenc_one w2.heap.size _ o rfl (own_below HO.out (below_alloc1 V _)) V.heap.size x rfl (heap_alloc_new V _) (by omega) (by omega) (by simp; omega) ?_; intro v4 w4 ho4 hg4 hat4; obtain ⟨a4, d4, rfl⟩ := own_slice ho4; have HO4 := hide ho4; have hB4 := hide ((hb.alloc hz _).grown hg4 (by simp; omega) (fun k hk => (HO.out.lt k hk).1)); simp only [List.length_append, List.length_cons, List.length_nil, Nat.zero_add] at HO4; clear ho4 hg4 hat4)
                go_wp2
                go_roundw
                case rel => exact ⟨i + 1, k + 1, o ++ [x], by omega, by omega, by first | rfl | go_num, by first | rfl | go_num, ⟨o.length + 1, by rw [List.length_append]; rfl, HO4.out⟩, hB4.out, HN⟩
                case measure => simp [intOf]; omega
          · obtain rfl : k = r2.length := by omega
            obtain ⟨b1, o1, rfl, hl1, hc1'⟩ := (hT1.lies.below hb).at tenc_len i hi'
            have ca := hc1' 0 _ rfl
            rw [Nat.mul_one, Nat.add_zero] at ca
            have i1 : (0 : Int) ≤ (i : Int) := by omega
            have i2 : (i : Int) < (r1.length : Int) := by omega
            have i3 : ¬ (i : Int) = (r1.length : Int) := by omega
            have i4 : ¬ i = r1.length := by omega
            have HX := hide (show r1[i] = r1[i] from rfl)
            clear hc1'
            have HN := hide (HM.out.a HS1.out.ris hi' (fun y hy => by simp at hy))
            obtain ⟨x, hx⟩ : ∃ x, r1[i] = x := ⟨_, rfl⟩
            rw [hx] at ca HN
            clear hx HX
            go_wp2_with fail
            refine wp_region_quiet_lit (by kernel_rfl) (by kernel_rfl) ?_
            refine QW.out ?_
            refine QW.step (fun K hK => ?_)
            go_simp
            refine hK _ ?_
            clear hK K
            refine QW.step (fun K hK => ?_)
            go_simp
            refine hK _ ?_
            clear hK K
            refine QW.step (fun K hK => ?_)
            go_simp
            refine hK _ ?_
            clear hK K
            refine QW.step (fun K hK => ?_)
            go_simp
            refine hK _ ?_
            clear hK K
            refine QW.step (fun K hK => ?_)
            go_simp
            refine hK _ ?_
            clear hK K
            refine QW.skip (by kernel_rfl) ?_
            simp only [Act.put, List.setIfInBounds_toArray, List.set_cons_zero, List.set_cons_succ]
            refine QW.skip (by kernel_rfl) ?_
            simp only [Act.put, List.setIfInBounds_toArray, List.set_cons_zero, List.set_cons_succ]
            refine QW.skip (by kernel_rfl) ?_
            simp only [Act.put, List.setIfInBounds_toArray, List.set_cons_zero, List.set_cons_succ]
            refine QW.skip (by kernel_rfl) ?_
            simp only [Act.put, List.setIfInBounds_toArray, List.set_cons_zero, List.set_cons_succ]
            refine QW.skip (by kernel_rfl) ?_
            simp only [Act.put, List.setIfInBounds_toArray, List.set_cons_zero, List.set_cons_succ]
            refine QW.skip (by kernel_rfl) ?_
            simp only [Act.put, List.setIfInBounds_toArray, List.set_cons_zero, List.set_cons_succ]
            refine QW.skip (by kernel_rfl) ?_
            simp only [Act.put, List.setIfInBounds_toArray, List.set_cons_zero, List.set_cons_succ]
            refine QW.skip (by kernel_rfl) ?_
            simp only [Act.put, List.setIfInBounds_toArray, List.set_cons_zero, List.set_cons_succ]
            refine QW.skip (by kernel_rfl) ?_
            simp only [Act.put, List.setIfInBounds_toArray, List.set_cons_zero, List.set_cons_succ]
            refine QW.skip (by kernel_rfl) ?_
            simp only [Act.put, List.setIfInBounds_toArray, List.set_cons_zero, List.set_cons_succ]
            refine QW.skip (by kernel_rfl) ?_
            simp only [Act.put, List.setIfInBounds_toArray, List.set_cons_zero, List.set_cons_succ]
            refine QW.skip (by kernel_rfl) ?_
            simp only [Act.put, List.setIfInBounds_toArray, List.set_cons_zero, List.set_cons_succ]
            refine QW.skip (by kernel_rfl) ?_
            simp only [Act.put, List.setIfInBounds_toArray, List.set_cons_zero, List.set_cons_succ]
            refine QW.skip (by kernel_rfl) ?_
            simp only [Act.put, List.setIfInBounds_toArray, List.set_cons_zero, List.set_cons_succ]
            refine QW.skip (by kernel_rfl) ?_
            simp only [Act.put, List.setIfInBounds_toArray, List.set_cons_zero, List.set_cons_succ]
            refine QW.step (fun K hK => ?_)
            go_simp
            refine hK _ ?_
            clear hK K
            refine QW.nil ?_
            rintro w3 ⟨nq, rfl⟩
            have hd := below_draws wr.heap.size wr nq
            replace ca := (hd.cell (p := ⟨b1, o1 + i, none⟩) hl1).trans ca
            replace hb := hb.trans (hd.mono hb.size)
            replace HO := hide (own_below HO.out hd)
            replace hl1 := Nat.lt_of_lt_of_le hl1 hd.size
            generalize wr.drewN nq = W at *
            clear hd
            have hz := hb.size
            go_wp2_with (at_builtin; refine wpList_push (enc := tenc) (k := 1) rfl (.tmp 55) (.tmp 60) 50 rfl StrT (.string ⟨#[]⟩) 16 Try.underlying50 str_info rfl (by decide) tenc_len tenc_one w2.heap.size _ o rfl (own_below HO.out (below_alloc1 W _)) W.heap.size x rfl (heap_alloc_new W _) (by omega) (by omega) (by simp; omega) ?_; intro v4 w4 ho4 hg4 hat4; obtain ⟨a4, d4, rfl⟩ := own_slice ho4; have HO4 := hide ho4; have hB4 := hide ((hb.alloc hz _).grown hg4 (by simp; omega) (fun k hk => (HO.out.lt k hk).1)); simp only [List.length_append, List.length_cons, List.length_nil, Nat.zero_add] at HO4; clear ho4 hg4 hat4)
            go_wp2
            go_roundw
            case rel => exact ⟨i + 1, r2.length, o ++ [x], by omega, by omega, by first | rfl | go_num, by first | rfl | go_num, ⟨o.length + 1, by rw [List.length_append]; rfl, HO4.out⟩, hB4.out, HN⟩
            case measure => simp [intOf]; omega
        · obtain rfl : i = r1.length := by omega
          by_cases hk' : k < r2.length
          · have i5 : ¬ (r1.length : Int) < (r1.length : Int) := by omega
            obtain ⟨b2, o2, rfl, hl2', hc2'⟩ := (hT2.lies.below hb).at tenc_len k hk'
            have cb := hc2' 0 _ rfl
            rw [Nat.mul_one, Nat.add_zero] at cb
            have k1 : (0 : Int) ≤ (k : Int) := by omega
            have k2 : (k : Int) < (r2.length : Int) := by omega
            have k3 : ¬ (k : Int) = (r2.length : Int) := by omega
            have k4 : ¬ k = r2.length := by omega
            clear hc2'
            have HN := hide (HM.out.b HS2.out.ris hk' (fun y hy => by simp at hy))
            obtain ⟨y, hy⟩ : ∃ y, r2[k] = y := ⟨_, rfl⟩
            rw [hy] at cb HN
            clear hy
            go_wp2_with fail
            refine wp_region_quiet_lit (by kernel_rfl) (by kernel_rfl) ?_
            refine QW.out ?_
            refine QW.step (fun K hK => ?_)
            go_simp
            refine hK _ ?_
            clear hK K
            refine QW.step (fun K hK => ?_)
            go_simp
            refine hK _ ?_
            clear hK K
            refine QW.step (fun K hK => ?_)
            go_simp
            refine hK _ ?_
            clear hK K
            refine QW.step (fun K hK => ?_)
            go_simp
            refine hK _ ?_
            clear hK K
            refine QW.step (fun K hK => ?_)
            go_simp
            refine hK _ ?_
            clear hK K
            refine QW.step (fun K hK => ?_)
            go_simp
            refine hK _ ?_
            clear hK K
            refine QW.step (fun K hK => ?_)
            go_simp
            refine hK _ ?_
            clear hK K
            refine QW.step (fun K hK => ?_)
            go_simp
            refine hK _ ?_
            clear hK K
            refine QW.step (fun K hK => ?_)
            go_simp
            refine hK _ ?_
            clear hK K
            refine QW.step (fun K hK => ?_)
            go_simp
            refine hK _ ?_
            clear hK K
            refine QW.skip (by kernel_rfl) ?_
            simp only [Act.put, List.setIfInBounds_toArray, List.set_cons_zero, List.set_cons_succ]
            refine QW.skip (by kernel_rfl) ?_
            simp only [Act.put, List.setIfInBounds_toArray, List.set_cons_zero, List.set_cons_succ]
            refine QW.skip (by kernel_rfl) ?_
            simp only [Act.put, List.setIfInBounds_toArray, List.set_cons_zero, List.set_cons_succ]
            refine QW.skip (by kernel_rfl) ?_
            simp only [Act.put, List.setIfInBounds_toArray, List.set_cons_zero, List.set_cons_succ]
            refine QW.skip (by kernel_rfl) ?_
            simp only [Act.put, List.setIfInBounds_toArray, List.set_cons_zero, List.set_cons_succ]
            refine QW.skip (by kernel_rfl) ?_
            simp only [Act.put, List.setIfInBounds_toArray, List.set_cons_zero, List.set_cons_succ]
            refine QW.skip (by kernel_rfl) ?_
            simp only [Act.put, List.setIfInBounds_toArray, List.set_cons_zero, List.set_cons_succ]
            refine QW.skip (by kernel_rfl) ?_
            simp only [Act.put, List.setIfInBounds_toArray, List.set_cons_zero, List.set_cons_succ]
            refine QW.skip (by kernel_rfl) ?_
            simp only [Act.put, List.setIfInBounds_toArray, List.set_cons_zero, List.set_cons_succ]
            refine QW.step (fun K hK => ?_)
            go_simp
            refine hK _ ?_
            clear hK K
            refine QW.step (fun K hK => ?_)
            go_simp
            refine hK _ ?_
            clear hK K
            refine QW.nil ?_
            rintro w3 ⟨nq, rfl⟩
            have hd := below_draws wr.heap.size wr nq
            replace cb := (hd.cell (p := ⟨b2, o2 + k, none⟩) hl2').trans cb
            replace hb := hb.trans (hd.mono hb.size)
            replace HO := hide (own_below HO.out hd)
            replace hl2' := Nat.lt_of_lt_of_le hl2' hd.size
            generalize wr.drewN nq = W at *
            clear hd
            go_wp2_with fail
            refine wp_region_quiet_lit (by kernel_rfl) (by kernel_rfl) ?_
            refine QW.out ?_
            refine QW.step (fun K hK => ?_)
            go_simp
            refine hK _ ?_
            clear hK K
            refine QW.step (fun K hK => ?_)
            go_simp
            refine hK _ ?_
            clear hK K
            refine QW.step (fun K hK => ?_)
            go_simp
            refine hK _ ?_
            clear hK K
            refine QW.step (fun K hK => ?_)
            go_simp
            refine hK _ ?_
            clear hK K
            refine QW.step (fun K hK => ?_)
            go_simp
            refine hK _ ?_
            clear hK K
            refine QW.skip (by kernel_rfl) ?_
            simp only [Act.put, List.setIfInBounds_toArray, List.set_cons_zero, List.set_cons_succ]
            refine QW.skip (by kernel_rfl) ?_
            simp only [Act.put, List.setIfInBounds_toArray, List.set_cons_zero, List.set_cons_succ]
            refine QW.skip (by kernel_rfl) ?_
            simp only [Act.put, List.setIfInBounds_toArray, List.set_cons_zero, List.set_cons_succ]
            refine QW.skip (by kernel_rfl) ?_
            simp only [Act.put, List.setIfInBounds_toArray, List.set_cons_zero, List.set_cons_succ]
            refine QW.skip (by kernel_rfl) ?_
            simp only [Act.put, List.setIfInBounds_toArray, List.set_cons_zero, List.set_cons_succ]
            refine QW.skip (by kernel_rfl) ?_
            simp only [Act.put, List.setIfInBounds_toArray, List.set_cons_zero, List.set_cons_succ]
            refine QW.skip (by kernel_rfl) ?_
            simp only [Act.put, List.setIfInBounds_toArray, List.set_cons_zero, List.set_cons_succ]
            refine QW.skip (by kernel_rfl) ?_
            simp only [Act.put, List.setIfInBounds_toArray, List.set_cons_zero, List.set_cons_succ]
            refine QW.skip (by kernel_rfl) ?_
            simp only [Act.put, List.setIfInBounds_toArray, List.set_cons_zero, List.set_cons_succ]
            refine QW.step (fun K hK => ?_)
            go_simp
            refine hK _ ?_
            clear hK K
            refine QW.nil ?_
            rintro w3 ⟨nq, rfl⟩
            have hd := below_draws W.heap.size W nq
            replace cb := (hd.cell (p := ⟨b2, o2 + k, none⟩) hl2').trans cb
            replace hb := hb.trans (hd.mono hb.size)
            replace HO := hide (own_below HO.out hd)
            replace hl2' := Nat.lt_of_lt_of_le hl2' hd.size
            generalize W.drewN nq = V at *
            clear hd
            have hz := hb.size
            go_wp2_with (at_builtin; refine wpList_push (enc := tenc) (k := 1) rfl (.tmp 79) (.tmp 84) 50 rfl StrT (.string ⟨#[]⟩) 16 Try.underlying50 str_info rfl (by decide) tenc_len tenc_one w2.heap.size _ o rfl (own_below HO.out (below_alloc1 V _)) V.heap.size y rfl (heap_alloc_new V _) (by omega) (by omega) (by simp; omega) ?_; intro v4 w4 ho4 hg4 hat4; obtain ⟨a4, d4, rfl⟩ := own_slice ho4; have HO4 := hide ho4; have hB4 := hide ((hb.alloc hz _).grown hg4 (by simp; omega) (fun k hk => (HO.out.lt k hk).1)); simp only [List.length_append, List.length_cons, List.length_nil, Nat.zero_add] at HO4; clear ho4 hg4 hat4)
            go_wp2
            go_roundw
            case rel => exact ⟨r1.length, k + 1, o ++ [y], by omega, by omega, by first | rfl | go_num, by first | rfl | go_num, ⟨o.length + 1, by rw [List.length_append]; rfl, HO4.out⟩, hB4.out, HN⟩
            case measure => simp [intOf]; omega
          · obtain rfl : k = r2.length := by omega
            go_wp2
            go_ret
            have hrow := own_mono HO.out (Nat.zero_le _)
            have hsl := own_room hrow
            exact ⟨av, cv, o, rfl, ⟨Row.lies hrow, hsl.1, hsl.2⟩, HM.out.done hc2 HS1.out HS2.out, hbw.trans (hb.mono hbw.size)⟩

end Go.Proofs.Ytolgpdjimfodkaa.Sp
