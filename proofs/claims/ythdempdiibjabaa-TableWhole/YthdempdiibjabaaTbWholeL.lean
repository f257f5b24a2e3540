/- Layer 9: TableWhole: the law's walk. -/
import Derived.Test.YthdempdiibjabaaTbPly
import Derived.Test.YthdempdiibjabaaTbRows
import Derived.Test.YthdempdiibjabaaTbBookR
import Derived.Test.YthdempdiibjabaaGArgs
namespace Go.Proofs.Ythdempdiibjabaa.Tb
open Go.RowKit Go.Joins Go.Proofs.Ythdempdiibjabaa.Gk Go.Proofs.Ythdempdiibjabaa.Oq Go.Proofs.Ythdempdiibjabaa.Sp

theorem dos_more {ops : List Opn} {l : List Rw} (h2 : 2 ≤ ops.length) : (∃ at_ code, code ≠ 0 ∧ dos l ops = (⟨[], at_, code⟩, l)) ∨ ((∀ x ∈ ops, x.may = true) ∧ ops.length ≤ 32 ∧ (∀ r ∈ (runs l ops).1, r.code = 0) ∧ dos l ops = (⟨(runs l ops).1, 0, 0⟩, (runs l ops).2)) := by
  by_cases hc : (chk ops).2 ≠ 0
  · exact Or.inl ⟨_, _, hc, dos_bad l hc⟩
  · have hz : (chk ops).2 = 0 := Decidable.byContradiction fun h => hc h
    have hn : ¬ (ops.length < 1 ∨ 32 < ops.length) := by
      intro hn; unfold chk at hz; rw [if_pos hn] at hz; cases hz
    have hb : badAt ops = none := by
      cases hb : badAt ops with
      | none => rfl
      | some i => unfold chk at hz; rw [if_neg hn, hb] at hz; cases hz
    have hm := badAt_none hb
    cases hf : failAt (runs l ops).1 with
    | none =>
      have hz : ∀ r ∈ (runs l ops).1, r.code = 0 := by
        intro r hr
        have := List.findIdx?_eq_none_iff.1 hf r hr
        simpa using this
      exact Or.inr ⟨hm, by omega, hz, dos_ok hm (by omega) (by omega) fun _ => hz⟩
    | some i =>
      obtain ⟨hi, h1, _⟩ := List.findIdx?_eq_some_iff_getElem.1 hf
      refine Or.inl ⟨i, (runs l ops).1[i].code, by simpa using h1, ?_⟩
      · unfold dos
        rw [if_neg hn, hb]
        simp only
        rw [if_neg (by omega), hf]
        simp only
        rw [List.getElem?_eq_getElem hi]
        rfl
/-- one that may be, alone -/
theorem dos_one {x : Opn} (l : List Rw) (hm : x.may = true) : dos l [x] = (⟨[(one l x).1], 0, 0⟩, (one l x).2) := by
  rw [dos_ok (ops := [x]) (fun y hy => by rw [List.mem_singleton.1 hy]; exact hm) (by simp) (by simp) (fun h => by simp at h)]
  rfl

theorem one_rows {l : List Rw} (h : Tok l) (x : Opn) : (one l x).1.rows.length ≤ 4096 := by
  have hl := h.len
  unfold one
  split
  · simp only [List.length_take, List.length_drop]; omega
  · split
    · split
      · split
        · simp
        · split <;> simp
      · simp
    · split
      · simp
      · split
        · simp
        · split
          · simp
          · split
            · simp
            · split
              · simp
              · split <;> simp
/-- results that stay -/
structure Got (w : World) (ra : Option Addr) (rcap : Nat) (rl : List RsA) : Prop where
  row : w.ownsRow 0 ResT 4 (.slice ra rl.length rcap) rl.length (rc rsenc rl)
  rows : ∀ x ∈ rl, RL w x.a x.cap x.r.rows
theorem DoP.got {bt : Nat} {w w' : World} {an : Ans × List Rw} {ra : Option Addr} {rcap : Nat} {rl : List RsA} (h : DoP bt w an ra rcap rl w') : Got w' ra rcap rl := ⟨own_mono h.row (Nat.zero_le _), h.rows⟩
theorem Got.below {w w' : World} {ra : Option Addr} {rcap : Nat} {rl : List RsA} (h : Got w ra rcap rl) (hb : Below w.heap.size w w') : Got w' ra rcap rl := ⟨own_below h.row hb, fun x hx => (h.rows x hx).below hb⟩
theorem Got.turn {w w' : World} {ra : Option Addr} {rcap : Nat} {rl : List RsA} {b : Nat} {m : List Rw} (h : Got w ra rcap rl) (ht : TH w b m) (k : Turn b w w') : Got w' ra rcap rl := by
  refine ⟨own_stay h.row fun g hg => k.block g (h.row.lt g hg).2 ?_, fun x hx => (h.rows x hx).turn ht k⟩
  obtain ⟨_, a, cap, hb, _⟩ := ht
  exact own_ne h.row hb (by decide) hg
theorem Got.lies {w : World} {ra : Option Addr} {rcap : Nat} {rl : List RsA} (h : Got w ra rcap rl) : ResL w ra rl := ⟨Row.lies (enc := rsenc) (k := 4) h.row, h.rows⟩
theorem Got.at {w : World} {ra : Option Addr} {rcap : Nat} {rl : List RsA} (h : Got w ra rcap rl) (i : Nat) (hi : i < rl.length) : ∃ g, ra = some ⟨g, 0, none⟩ ∧ rl.length ≤ rcap ∧ ResL w (some ⟨g, i * 4, none⟩) [rl[i]] := by
  obtain ⟨g, cap, cur, e, hg, h1, h2, h3, h4⟩ := own_form h.row (by omega)
  cases e
  refine ⟨g, rfl, h1, ⟨Or.inr ⟨g, i * 4, rfl, (Array.getElem?_eq_some_iff.1 hg).1, fun j u hj => ?_⟩, fun x hx => ?_⟩⟩
  · rw [rc_one] at hj
    have hj4 : j < 4 := by have := (List.getElem?_eq_some_iff.1 hj).1; rwa [rsenc_len] at this
    have := (rc_at rsenc_len rl i hi j hj4).trans hj
    rw [cell_of_block hg, ← Array.getElem?_toList]
    rw [← h4, List.getElem?_take] at this
    split at this
    · exact this
    · cases this
  · rw [List.mem_singleton.1 hx]; exact h.rows _ (List.getElem_mem hi)
/-- one of a list of operations -/
theorem op_at {w : World} {a : Option Addr} {l : List Opn} (h : Lies w oenc a l) (i : Nat) (hi : i < l.length) : ∃ b off, a = some ⟨b, off, none⟩ ∧ Lies w oenc (some ⟨b, off + i * 6, none⟩) [l[i]] := by
  obtain ⟨b, off, e, hb, hc⟩ := h.at (k := 6) oenc_len i hi
  refine ⟨b, off, e, Or.inr ⟨b, off + i * 6, rfl, hb, fun j u hj => ?_⟩⟩
  rw [rc_one] at hj
  exact hc j u hj

set_option maxRecDepth 100000 in
set_option maxHeartbeats 1600000 in
theorem whole_law (la : Option Addr) (lc : Nat) (l : List OpsA) (aa : Option Addr) (ac : Nat) (A : List Opn) (w : World) (hl : Lies w osenc la l) (he : ∀ x ∈ l, Lies w oenc x.a x.ops) (hA : SliceAt w oenc aa ac A) :
    Calls Try.prog 5 #[.slice la l.length lc, .slice aa A.length ac] w fun e w' => e = .returned (.bool true) ∧ Below w.heap.size w w' := by
  go_enter Try.func5, Try.ntmps5
  go_wp2_with fail
  refine (works_tb w).mono ?_
  rintro e w1 ⟨rfl, hb1⟩
  have hP := fun W (hb : Below w.heap.size w W) => played_tb la lc l W (hl.below hb) (fun x hx => (he x hx).below hb)
  generalize plays [] (l.take 40) = T at hP
  go_wp2_with fail
  refine (hP _ hb1).mono ?_
  rintro e w2 ⟨bt, rfl, ht2, lt2, hb⟩
  have hb2 := hb1.trans (hb.mono hb1.size)
  have s2 := Nat.le_trans hb1.size lt2
  clear hb hP hb1 lt2
  go_wp2_with fail
  refine (Fork_tb bt T w2 ht2).mono ?_
  rintro e w3 ⟨bu, rfl, hu3, lt3, hb⟩
  have hb3 := hb2.trans (hb.mono hb2.size)
  have ht3 := ht2.below hb
  have s3 := Nat.le_trans hb2.size lt3
  have n1 : bt < bu := Nat.lt_of_lt_of_le ht2.lt lt3
  clear hb ht2 hb2 lt3
  go_wp2_with fail
  refine (Rows_all bt T w3 ht3).mono ?_
  rintro e w4 ⟨g4, rfl, ho4, hb⟩
  have hb4 := hb3.trans (hb.mono hb3.size)
  have ht4 := ht3.below hb
  have hu4 := hu3.below hb
  clear hb ht3 hu3 hb3
  go_wp2_with fail
  refine (Do_tb bt T aa ac A w4 ht4 (hA.lies.below hb4)).mono ?_
  rintro e w5 ⟨ra, rcap, rl, rfl, hD⟩
  have hb5 := turn_below hb4 s2 hD.turn
  have hu5 := hu4.turn ht4 (by omega) hD.turn
  have hr4 : RL w5 (some ⟨g4, 0, none⟩) T.length T := (RL.of_own ho4).turn ht4 hD.turn
  have hD5 := hide hD
  clear hb4 ht4 hu4 ho4 hD
  by_cases hA2 : A.length < 2
  · have i1 : (A.length : Int) < 2 := by omega
    go_wp2
    go_ret
    exact ⟨rfl, by first | exact hb5 | exact hb5.alloc hb5.size _⟩
  · have i1 : ¬ (A.length : Int) < 2 := by omega
    have hTl := hu5.1.len
    rcases dos_more (l := T) (ops := A) (by omega) with ⟨at_, code, hcz, hdo⟩ | ⟨hm, h32, hz, hdo⟩
    · rw [hdo] at hD5 ⊢
      have hcb : (code == 0) = false := by simp [hcz]
      obtain rfl : rl = [] := by have := hD5.out.eqs; simpa using this
      have ht5 := hD5.out.tab
      go_wp2_with fail
      have hb6 := hb5.alloc hb5.size (.cells #[.int .i64 at_, .int .i64 code] FltT)
      refine (Rows_all bt T _ (ht5.below (below_a1 w5 _))).mono ?_
      rintro e w6 ⟨g6, rfl, ho6, hb⟩
      have hb7 := hb6.trans (hb.mono hb6.size)
      have hr6 := (hr4.below (below_a1 w5 (.cells #[.int .i64 at_, .int .i64 code] FltT))).below hb
      clear hb hb6 hb5 hr4 ht5 hD5 hdo
      go_wp2_with fail
      refine (sameRows_any _ _ _ _ T w6 (RL.of_own ho6).lies hr6.lies (by omega)).mono ?_
      rintro e w7 ⟨rfl, hb⟩
      have hb8 := hb7.trans (hb.mono hb7.size)
      clear hb
      go_wp2
      go_ret
      exact ⟨rfl, hb8⟩
    · rw [hdo] at hD5 ⊢
      have hrl : rl.length = A.length := by
        have := congrArg List.length hD5.out.eqs
        rw [List.length_map] at this
        rw [this]; exact runs_len _ _
      have HRL := hide hrl
      have hlb : ((rl.length : Int) != (A.length : Int)) = false := by simp [hrl]
      have hG5 := hD5.out.got
      have ht5 := hD5.out.tab
      have hroom := hA.room
      have HEQ : Hid (∀ k (hk : k < A.length) (hk' : k < rl.length), rl[k].r = (one (runs T (A.take k)).2 A[k]).1 ∧ (one (runs T (A.take k)).2 A[k]).1.code = 0) := by
        intro k hk hk'
        have h1 : (rl.map RsA.r)[k]? = ((runs T A).1)[k]? := by rw [hD5.out.eqs]
        rw [List.getElem?_map, List.getElem?_eq_getElem hk', List.getElem?_eq_getElem (by rw [runs_len]; exact hk), runs_at hk] at h1
        have h2 : rl[k].r = (one (runs T (A.take k)).2 A[k]).1 := by simpa using h1
        refine ⟨h2, ?_⟩
        rw [← runs_at hk]
        exact hz _ (List.getElem_mem _)
      have hMay := hide hm
      have hb6 := hb5.alloc hb5.size (.cells #[.int .i64 0, .int .i64 0] FltT)
      have hG6 := hG5.below (below_a1 w5 (.cells #[.int .i64 0, .int .i64 0] FltT))
      have ht6 := ht5.below (below_a1 w5 (.cells #[.int .i64 0, .int .i64 0] FltT))
      have hu6 := hu5.below (below_a1 w5 (.cells #[.int .i64 0, .int .i64 0] FltT))
      clear hrl hz hm hdo hD5 hG5 ht5 hu5 hb5 hr4
      go_wp2
      go_loopw [53] (fun i wr => ∃ k : Nat, k ≤ A.length ∧ i = .int .i64 k ∧ TH wr bu (runs T (A.take k)).2 ∧ TH wr bt (runs T A).2 ∧ Got wr ra rcap rl ∧ Below w.heap.size w wr) (fun i _ => A.length - (intOf i).toNat)
      case atStart => exact ⟨0, Nat.zero_le _, rfl, hu6, ht6, hG6, hb6⟩
      case round =>
        clear hb6 hG6 ht6 hu6
        obtain ⟨k, hk, rfl, hu, ht, hG, hbel⟩ := hrel
        have hwr := hbel.size
        by_cases hlt : k < A.length
        · have hlt' : k < rl.length := by have := HRL.out; omega
          obtain ⟨b, off, rfl, hx⟩ := op_at (hA.lies.below hbel) k hlt
          obtain ⟨hE1, hE2⟩ := HEQ.out k hlt hlt'
          have hxm := hMay.out _ (List.getElem_mem hlt)
          have HT := hide (List.take_succ_eq_append_getElem hlt)
          obtain ⟨g, e0, hrc, hgl⟩ := hG.at k hlt'
          cases e0
          generalize A[k] = x at *
          obtain ⟨Rk, hRe⟩ : ∃ Rk, Rk = rl[k] := ⟨_, rfl⟩
          rw [← hRe] at hE1
          have HRe := hide hRe
          clear hRe hgl
          have i3 : (0 : Int) ≤ (k : Int) := by omega
          have i4 : (k : Int) < (A.length : Int) := by omega
          have i5 : (k : Int) + 1 ≤ (ac : Int) := by omega
          have i6 : (k : Int) + 1 ≤ (rcap : Int) := by omega
          have i7 : ¬ ac = k := by omega
          have i8 : ¬ rcap = k := by omega
          have i9 : k + 1 - k = 1 := by omega
          have hDo := Do_tb bu _ (some ⟨b, off + k * 6, none⟩) (ac - k) [x] wr hu hx
          rw [dos_one _ hxm] at hDo
          go_wp2_with fail
          refine hDo.mono ?_
          rintro e w6 ⟨ra6, rcap6, rl6, rfl, hD⟩
          obtain ⟨R, g6, rfl, hR, rfl, hg6, d0, d1, d2, d3, -⟩ := hD.single
          rw [hE2] at d0
          have hu6 : TH w6 bu (runs T (A.take (k + 1))).2 := by rw [HT.out, runs_snoc]; exact hD.tab
          have ht6 := ht.turn hu (by omega) hD.turn
          have hG6 := hG.turn hu hD.turn
          have hb6 := turn_below hbel s3 hD.turn
          have hL6 := hD.got.lies
          have hrr : R.r = Rk.r := hR.trans hE1.symm
          have hRk : Rk.r.rows.length ≤ 4096 := by
            rw [hE1]
            exact one_rows hu.1 x
          simp only [List.length_cons, List.length_nil] at hL6 ⊢
          have hgl6 : ResL w6 (some ⟨g, k * 4, none⟩) [Rk] := by
            obtain ⟨g', e0, _, h9⟩ := hG6.at k hlt'
            cases e0
            rw [HRe.out]; exact h9
          clear hDo hu ht hG hD hbel d1 d2 d3 hx hR hE1 hE2
          have hba := below_a1 w6 (.cells #[.int .i64 0, .int .i64 0] FltT)
          have hS := sameResults_any (some ⟨g6, 0, none⟩) (some ⟨g, k * 4, none⟩) rcap6 (rcap - k) [R] [Rk] _ (hL6.below hba) (hgl6.below hba) (by simp [hrr]) (by simp) (fun y hy => by rw [List.mem_singleton.1 hy, hrr]; omega)
          simp only [List.length_cons, List.length_nil] at hS
          go_wp2_with fail
          refine hS.mono ?_
          rintro e w7 ⟨rfl, hb7⟩
          have hb := hba.trans (hb7.mono hba.size)
          have hu7 := hu6.below hb
          have ht7 := ht6.below hb
          have hG7 := hG6.below hb
          have hb8 := hb6.trans (hb.mono hb6.size)
          clear hS hba hb7 hb hu6 ht6 hG6 hb6 hL6 hgl6
          go_wp2
          go_roundw
          case rel => exact ⟨k + 1, by omega, by go_num, hu7, ht7, hG7, hb8⟩
          case measure => simp [intOf]; omega
        · obtain rfl : k = A.length := by omega
          rw [List.take_length] at hu
          generalize (runs T A).2 = U at *
          have hUl := hu.1.len
          clear hG
          go_wp2_with fail
          refine (Rows_all bu U wr hu).mono ?_
          rintro e w6 ⟨g6, rfl, ho6, hb⟩
          have hb6 := hbel.trans (hb.mono hbel.size)
          have ht6 := ht.below hb
          clear hb hu ht hbel
          go_wp2_with fail
          refine (Rows_all bt U w6 ht6).mono ?_
          rintro e w7 ⟨g7, rfl, ho7, hb⟩
          have hb7 := hb6.trans (hb.mono hb6.size)
          have ho6' := own_below ho6 hb
          clear hb hb6 ho6 ht6
          go_wp2_with fail
          refine (sameRows_any _ _ _ _ U w7 (RL.of_own ho6').lies (RL.of_own ho7).lies (by omega)).mono ?_
          rintro e w8 ⟨rfl, hb⟩
          have hb8 := hb7.trans (hb.mono hb7.size)
          clear hb
          go_wp2
          go_ret
          exact ⟨rfl, hb8⟩

end Go.Proofs.Ythdempdiibjabaa.Tb
