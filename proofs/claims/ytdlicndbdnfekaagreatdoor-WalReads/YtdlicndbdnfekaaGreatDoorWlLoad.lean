/- Walks over segment.go: load. -/
import Derived.Test.YtdlicndbdnfekaaGreatDoorWlAt
import Derived.WalkMore
import Derived.Deep.LoopGhost
namespace Go.Proofs.YtdlicndbdnfekaaGreatDoor.Wl
open Go.RowKit Go.Joins
open Go.Proofs.YtdlicndbdnfekaaGreatDoor.Dk (Bs Fil Fls St St.Ok Held)

/-- the log's disk, in worlds that have only grown -/
abbrev LS (bw bd : Nat) (w W : World) : Prop := W.cell? ⟨bw, 0, none⟩ = some (.pointer (some ⟨bd, 0, none⟩)) ∧ Hid (bw < W.heap.size ∧ Below w.heap.size w W)
theorem LS.drew {bw bd : Nat} {w W : World} (h : LS bw bd w W) : LS bw bd w W.drew := ⟨h.1, h.2.out.1, h.2.out.2.drew⟩
theorem LS.call {bw bd : Nat} {w W W' : World} (hb : Below W.heap.size W W') (h : LS bw bd w W) : LS bw bd w W' :=
  ⟨(hb.cell (p := ⟨bw, 0, none⟩) h.2.out.1).trans h.1, Nat.lt_of_lt_of_le h.2.out.1 hb.size, h.2.out.2.trans (hb.mono h.2.out.2.size)⟩
theorem LS.bel {bw bd : Nat} {w W : World} (h : LS bw bd w W) : Below w.heap.size w W := h.2.out.2

/-- does the last segment end in a part of a frame -/
def tornL (l : List Sg) : Bool := l.any fun s => !s.tl.isEmpty
/-- the number that comes next, behind the first i segments (1, if there is none) -/
def nxAt (l : List Sg) (i : Nat) : Nat := match (l.take i).getLast? with | some s => s.last | none => 1
theorem nxAt_zero (l : List Sg) : nxAt l 0 = 1 := by simp [nxAt]
theorem nxAt_succ (l : List Sg) (i : Nat) (h : i < l.length) : nxAt l (i + 1) = l[i].last := by
  rw [nxAt, List.take_succ_eq_append_getElem h, List.getLast?_concat]
theorem nxAt_next {l : List Sg} {n m : Nat} (hc : Chain n l m) (i : Nat) (h : i < l.length) (hi : i ≠ 0) : nxAt l i = l[i].first := by
  obtain ⟨j, rfl⟩ : ∃ j, i = j + 1 := ⟨i - 1, by omega⟩
  rw [nxAt_succ l j (by omega), hc.step.2.1 j h]

set_option maxRecDepth 100000 in
set_option maxHeartbeats 6400000 in
theorem load_any {own : Nat → Prop} {bw bd most : Nat} {S : St} {l : List Sg} {n m : Nat} (w : World) (hD : DH w own bd S) (hno : ¬ own bw) (hW : WH w bw bd most (.slice none 0 0) [] 1) (hT : Tab w) (ho : On S l) (hl : Lg l n m) (h1 : 1 ≤ n) (hm : m ≤ 1048576) :
    Calls Tryz.prog 21 #[.pointer (some ⟨bw, 0, none⟩)] w fun e w' => e = .returned (.tuple #[.bool (tornL l), .int .i64 0]) ∧ ∃ v, WH w' bw bd most v (ms l) (nxAt l l.length) ∧ (∀ g, v.ownBlock = some g → w.heap.size ≤ g) ∧ w.grownBy w' (some bw) := by
  obtain ⟨fs, hfn, hfp⟩ := ho.names hl hD.held.ok.rising
  have hF := firstsOn_any w hD.held hT fs (l.map (·.first)) hfn (fun k hk => by
    obtain ⟨s, hs, rfl⟩ := List.mem_map.1 (hfp.mem_iff.1 hk)
    have := hl.rise.2 s hs
    omega) hfp (List.pairwise_map.2 hl.rise.1)
  rw [List.length_map] at hF
  have hlen : l.length ≤ 64 := by
    have h2 := hD.held.ok.many
    have h3 := congrArg List.length hfn
    have h4 := hfp.length_eq
    simp only [List.length_map] at h3 h4
    omega
  have hc0 := hW.c0
  have HW := hide hW
  clear hW
  go_enter Tryz.func21, Tryz.ntmps21
  go_wp2
  go_step3
  go_wp2_with fail
  refine hF.mono ?_
  rintro e w1 ⟨fv, rfl, hfv, hb1⟩
  obtain ⟨a, cap, rfl⟩ := Dk.own_slice hfv
  clear hF hc0
  go_wp2
  go_step3
  go_wp2
  go_loopw [4, 21] (fun t i wr => ∃ (k : Nat) (v : Value), k ≤ l.length ∧ i = .int .i64 k ∧ t = .bool false ∧ wr.ownsRow w.heap.size IntT 1 (.slice a l.length cap) l.length (nums (l.map (·.first))) ∧ WH wr bw bd most v (ms (l.take k)) (nxAt l k) ∧ (∀ g, v.ownBlock = some g → w.heap.size ≤ g) ∧ (∀ s ∈ l.take k, s.tl = []) ∧ w.grownBy wr (some bw)) (fun _ i _ => l.length - (intOf i).toNat)
  case atStart => exact ⟨0, .slice none 0 0, by omega, rfl, rfl, hfv, by rw [nxAt_zero]; exact HW.out.below hb1, fun g hg => by simp [Value.ownBlock] at hg, by simp, Gk.grown_below hb1 _⟩
  case round =>
    obtain ⟨k, v, hk, rfl, rfl, hrow, hWr, hvg, hcl, hgr⟩ := hrel
    by_cases hlt : k < l.length
    · obtain ⟨g, cap', e⟩ := ownsRow_form hrow (by omega)
      cases e
      have hcf : wr.cell? ⟨g, k, none⟩ = some (.int .i64 l[k].first) := by
        rw [hrow.cellAt _ (by omega)]; simp [nums, List.getElem?_eq_getElem hlt]
      have hsm := List.getElem_mem hlt
      have hfb := hl.rise.2 l[k] hsm
      have hDr : DH wr own bd S := hD.frame (fun b hb hob => hgr.block b hb fun e => by cases e; exact hno hob) hgr.size
      have hTr : Tab wr := hT.grown HW.out hgr
      have HTK := hide (List.take_succ_eq_append_getElem hlt)
      have HNX := hide (nxAt_succ l k hlt)
      have HLAST := hide (fun (h : (l[k]).tl ≠ []) => show k + 1 = l.length from by
        rcases nil_or_snoc l with h0 | ⟨a, t, h0⟩
        · rw [h0] at hlt; simp at hlt
        · have hf := (Lg.snoc.1 (h0 ▸ hl)).2.2.1
          have hll : l.length = a.length + 1 := by rw [h0]; simp
          by_cases hka : k < a.length
          · refine absurd (hf a[k] (List.getElem_mem hka)).2.1 ?_
            have : l[k] = a[k] := by simp only [h0]; exact List.getElem_append_left hka
            rw [← this]; exact h
          · omega)
      have hrd : ∀ W, Below wr.heap.size wr W → Calls Tryz.prog 35 #[.pointer (some ⟨bd, 0, none⟩), .string (nt l[k].first)] W fun e w' => e = .returned (.tuple #[.string ⟨l[k].data.toArray⟩, .int .i64 0]) ∧ Below W.heap.size W w' := fun W hb => by
        have := Dk.read_any W (hDr.below hb).held (nt l[k].first) (by rw [nt_size]; have := dec_small (show l[k].first ≤ 1048577 by omega); omega)
        rw [nt_list, ho.read hsm (by omega)] at this
        exact this
      have hmay := hl.may l[k] hsm
      have htorn := hl.torn l[k] hsm
      have hdsz : l[k].data.length ≤ 262144 := by
        have h2 := Dk.le_sumL' (fun f : Fil => f.data.length) (Dk.getL_some (ho.has l[k] hsm))
        have h3 := hD.held.ok.sum
        have h4 := hD.held.ok.room
        exact Nat.le_trans h2 (Nat.le_trans h3 h4)
      have hnm : ∀ W, Below wr.heap.size wr W → Calls Tryz.prog 28 #[.int .i64 l[k].first] W fun e w' => e = .returned (.string (nt l[k].first)) ∧ Below W.heap.size W w' := fun W hb => nameOf_any _ (by omega) W (hTr.below hb)
      have hc0 := hWr.c0
      have hLS : LS bw bd wr wr := ⟨hc0, hWr.lt, Below.refl _ _⟩
      have HW := hide hWr
      have i1 : (0 : Int) ≤ (k : Int) := by omega
      have i2 : (k : Int) < (l.length : Int) := by omega
      have HCH := hide (nxAt_next hl.chain k hlt)
      generalize hse : l[k] = s at *
      have c3 := hWr.c3
      clear hWr
      obtain ⟨nx, hnx⟩ : ∃ nx, nx = nxAt l k := ⟨_, rfl⟩
      rw [← hnx] at c3 HW HCH
      have HNXE := hide hnx
      have HSE := hide hse
      clear hnx hse
      obtain ⟨F, hF⟩ : ∃ F : ByteArray, F = ⟨s.data.toArray⟩ := ⟨_, rfl⟩
      have HF : Hid (F.data.toList = s.data) := by show _ = _; rw [hF]
      have hFs : F.size ≤ 262144 := by rw [Lib.size_eq, HF.out]; exact hdsz
      rw [← hF] at hrd
      clear hF
      by_cases hk0 : 0 < k
      case' pos =>
        have hnxe : nx = s.first := HCH.out (by omega)
        rw [hnxe] at c3 HW
        go_wp2
      case' neg => go_wp2
      all_goals clear c3
      all_goals
        go_region_held3 (LS bw bd wr) (first | with_reducible exact LS.drew (by assumption) | with_reducible exact LS.call (by assumption) (by assumption) | with_reducible assumption)
          (first | (go_at_call 28; refine (hnm _ (LS.bel (by assumption))).mono ?_; rintro e w2 ⟨rfl, hb2⟩) | (go_at_call 35; refine (hrd _ (LS.bel (by assumption))).mono ?_; rintro e w3 ⟨rfl, hb3⟩))
        have hf : LS bw bd wr w3 := by assumption
        have hb : Below wr.heap.size wr w3 := hf.bel
        clear hf hb2 hb3 hnm hrd hLS hc0 hcf
        have hW3 := HW.out.below hb
        have c2 := hW3.c2
        have hrow3 := Dk.own_keepF hb hrow
        have hgr3 : w.grownBy w3 (some bw) := Gk.grown_trans hgr (Gk.grown_below hb _)
        have hz3 := hgr3.size
        go_wp2_with (at_builtin; refine wpList_segs rfl (.tmp 53) (.tmp 56) rfl _ (ms (l.take k)) rfl (hW3.row.below (below_alloc1 w3 _)) w3.heap.size (s.first, 0) rfl (heap_alloc_new w3 _) ?c1 ?_)
        case c1 => rw [ms_length, List.length_take]; omega
        intro v4 w4 hr4 hr4o hg4 hat4
        have hW4 : WH w4 bw bd most v (ms (l.take k)) _ := ⟨(hg4.block bw (by have := hW3.lt; simp; omega) (fun e => hW3.ne e.symm rfl)).trans ((Below.heap_alloc w3 _ bw hW3.lt).trans hW3.block), hr4o⟩
        have hvg4 : ∀ g, v4.ownBlock = some g → w.heap.size ≤ g := fun g' hg' => by
          rcases hat4 with h | h
          · exact hvg g' (by rw [← h]; exact hg')
          · rw [h] at hg'; cases hg'; omega
        have hrow4 := Gk.own_stay (w' := w4) (Gk.own_below hrow3 (below_alloc1 w3 (.cells #[.int .i64 s.first, .int .i64 0] SegT))) fun g' hg' => hg4.block g' (by have := (hrow3.lt g' hg').2; simp; omega) fun e => hW3.row.ne_row hrow3 (by decide) e.symm hg'
        have hgr4 : w.grownBy w4 (some bw) := by
          refine ⟨hg4.os.trans hgr3.os, hg4.tape.trans hgr3.tape, hg4.output.trans hgr3.output, Nat.le_trans hz3 (Nat.le_trans (by simp) hg4.size), fun j hj hne => ?_⟩
          exact (hg4.block j (by simp; omega) (fun e => by have := hvg j e.symm; omega)).trans ((Below.heap_alloc w3 _ j (by omega)).trans (hgr3.block j hj hne))
        have c2 := hW4.c2
        have z2 := hW4.fz 2
        have c3 := hW4.c3
        have z3 := hW4.fz 3
        have hW6 := (hW4.segs hr4).next s.first
        have hgr6 := Gk.grown_trans (Gk.grown_trans hgr4 (Gk.grown_set w4 bw 2 v4)) (Gk.grown_set _ bw 3 (.int .i64 s.first))
        have hrow6 := Gk.own_stay (w' := (w4.setCell ⟨bw, 2, none⟩ v4).setCell ⟨bw, 3, none⟩ (.int .i64 s.first)) hrow4 fun g' hg' => by
          have hne := Gk.own_ne hrow4 hW4.block (by decide) hg'
          rw [Below.heap_setCell _ _ _ g' hne, Below.heap_setCell _ _ _ g' hne]
        obtain ⟨g4, o4, c4, hv4, -⟩ := hr4.form (by simp)
        have HW6 := hide hW6
        have HB4 := hide hW4.block
        clear hW4 hW6 hrow4 hrow3 hW3 hg4 hr4 hr4o hat4 hgr4 hgr3
        obtain ⟨K1, hK1⟩ : ∃ K1, K1 = (ms (l.take k) ++ [(s.first, 0)]).length := ⟨_, rfl⟩
        have hKl : K1 = k + 1 := by rw [hK1, List.length_append, ms_length, List.length_take]; simp; omega
        rw [← hK1] at hv4
        subst hv4
        have HK1 := hide hKl
        have i3 : (k : Int) < (K1 : Int) := by omega
        clear hK1 hKl
        obtain ⟨W6, hW6⟩ : ∃ W6, W6 = (w4.setCell ⟨bw, 2, none⟩ (.slice (some ⟨g4, o4 * 2, none⟩) K1 c4)).setCell ⟨bw, 3, none⟩ (.int .i64 s.first) := ⟨_, rfl⟩
        rw [← hW6] at HW6 hgr6 hrow6
        go_wp2
        rw [← hW6]
        clear hW6 c2 z2 c3 z3 HB4
        go_loopw [4, 10] (fun t p wi => ∃ (j q at' : Nat), p = .int .i64 at' ∧ t = .bool false ∧ j ≤ s.recs.length ∧ Hid (q = s.first + j) ∧ Hid (at' = (frs s.first (s.recs.take j)).length) ∧ WH wi bw bd most (.slice (some ⟨g4, o4 * 2, none⟩) K1 c4) (ms (l.take k) ++ [(s.first, at')]) q ∧ wi.ownsRow w.heap.size IntT 1 (.slice (some ⟨g, 0, none⟩) l.length cap) l.length (nums (l.map (·.first))) ∧ w.grownBy wi (some bw)) (fun _ p _ => F.size - (intOf p).toNat)
        case atStart => exact ⟨0, s.first, 0, rfl, rfl, by omega, rfl, by simp [frs, Hid], HW6.out, hrow6, hgr6⟩
        case round =>
          obtain ⟨j, q, p, rfl, rfl, hj, HQ, HP, hWi, hrowi, hgri⟩ := hrel
          have hq : q = s.first + j := HQ.out
          have hp : p = (frs s.first (s.recs.take j)).length := HP.out
          have hkl : (ms (l.take k)).length = k := by rw [ms_length, List.length_take]; omega
          have hlm : s.first + s.recs.length ≤ 1048576 := Nat.le_trans (hl.chain.last_le s hsm) hm
          have hc3 := hWi.c3
          have hwi := hWi.lt
          by_cases hjl : j < s.recs.length
          · have hdat : F.data.toList.drop p = fr q s.recs[j] ++ (frs (s.first + j + 1) (s.recs.drop (j + 1)) ++ s.tl) := by
              rw [HF.out, Sg.data, frs_at s.first s.recs j hjl, hp, hq, List.append_assoc, List.drop_left, List.append_assoc]
            have hpos := fr_pos q s.recs[j]
            have hps : p + (fr q s.recs[j]).length ≤ F.size := by
              have := congrArg List.length hdat
              rw [List.length_drop, List.length_append, ← Lib.size_eq] at this
              omega
            have HN := hide (frs_take_next s.first s.recs j hjl)
            have hR := recordAt_ok F p q s.recs[j] _ (hmay _ (List.getElem_mem hjl)) (by omega) (by omega) (by omega) hdat wr
            generalize hre : s.recs[j] = r at *
            obtain ⟨E, hE⟩ : ∃ E, E = p + (fr q r).length := ⟨_, rfl⟩
            rw [← hE] at hR hps
            have HE := hide hE
            have hlt2 : (p : Int) < (F.size : Int) := by omega
            have hE8 : p + 8 ≤ E := by omega
            have hqb : q ≤ 1048577 := by omega
            clear hdat hq hp hE
            go_wp2_with fail
            refine hR.mono ?_
            rintro e w5 ⟨rfl, hb5⟩
            have hW5 := hWi.below hb5
            have d2 := hW5.c2
            have d3 := hW5.c3
            have y3 := hW5.fz 3
            obtain ⟨-, x1, -, x2⟩ := hW5.lastCells
            rw [hkl] at x1 x2
            have hne4 : g4 ≠ bw := hW5.ne rfl
            have hlt5 := hW5.lt
            have hz5 := hW5.row.shape.lt
            clear hR hc3
            go_wp2
            go_roundw
            case rel =>
              have e1 : ((q : Int) + 1) = ((q + 1 : Nat) : Int) := by omega
              have hWa := (((hW5.bytes (by have := HK1.out; omega) E).next (q + 1)).below (below_alloc1 _ (.cells #[.int .i64 q, .int .i64 r.brick, .string r.body] 46)))
              rw [hkl, ← e1] at hWa
              refine ⟨j + 1, q + 1, E, rfl, rfl, by omega, ?_, ?_, ?_, ?_, ?_⟩
              · show q + 1 = s.first + (j + 1); have := HQ.out; omega
              · show E = _; rw [HN.out, List.length_append, HE.out, HP.out, HQ.out]
              · exact hWa
              · refine Gk.own_below (Gk.own_stay (Gk.own_below hrowi hb5) fun g' hg' => ?_) (below_alloc1 _ _)
                have n1 : g' ≠ bw := Gk.own_ne (Gk.own_below hrowi hb5) hW5.block (by decide) hg'
                have n2 : g' ≠ g4 := fun e => hW5.row.ne_row (Gk.own_below hrowi hb5) (by decide) (g := g4) rfl (by rw [hg', e])
                rw [Below.heap_setCell _ _ _ g' n1, Below.heap_setCell _ _ _ g' n2]
              · have hg5 := Gk.grown_trans hgri (Gk.grown_below hb5 (some bw))
                have h4 := hvg4 g4 rfl
                refine Gk.grown_trans (b := (w5.setCell ⟨g4, o4 * 2 + k * 2 + 1, none⟩ (.int .i64 E)).setCell ⟨bw, 3, none⟩ (.int .i64 ((q : Int) + 1))) ⟨hg5.os, hg5.tape, hg5.output, by simp; exact hg5.size, fun j hj hne => ?_⟩ (Gk.grown_below (below_alloc1 _ _) _)
                rw [Below.heap_setCell _ _ _ j (fun e => hne (by rw [e])), Below.heap_setCell _ _ _ j (fun e => by simp only at e; omega)]
                exact hg5.block j hj hne
            case measure => simp [intOf]; omega
          · obtain rfl : j = s.recs.length := by omega
            have hpe : p = (frs s.first s.recs).length := by rw [hp, List.take_length]
            have hsz : F.size = p + s.tl.length := by rw [Lib.size_eq, HF.out, Sg.data, List.length_append, ← hpe]
            by_cases htl : s.tl = []
            · have hge : ¬ (p : Int) < (F.size : Int) := by rw [htl] at hsz; simp at hsz; omega
              have HPE := hide hpe
              clear hc3 hq hp hpe hsz
              go_wp2
              go_roundw
              case rel =>
                refine ⟨k + 1, _, by omega, by go_num, rfl, hrowi, ?_, hvg4, ?_, hgri⟩
                · have e1 : ms (l.take (k + 1)) = ms (l.take k) ++ [(s.first, p)] := by
                    rw [HTK.out, ms_append]
                    show _ ++ [(s.first, s.bytes)] = _
                    rw [show s.bytes = p from HPE.out.symm]
                  rw [e1, HNX.out, show s.last = q from HQ.out.symm]
                  exact hWi
                · rw [HTK.out]
                  intro t ht
                  rcases List.mem_append.1 ht with ht | ht
                  · exact hcl t ht
                  · rw [List.mem_singleton.1 ht]; exact htl
              case measure => simp [intOf]; omega
            · have hlt2 : (p : Int) < (F.size : Int) := by have := List.length_pos_iff.2 htl; omega
              have hR := recordAt_torn F p q (by omega) (by omega) (by rw [HF.out, Sg.data, hpe, List.drop_left]; exact htorn) (by rw [HF.out, Sg.data, hpe, List.drop_left]; exact htl) wr
              have hke : ((k : Int) == (l.length : Int) - 1) = true := by have := HLAST.out htl; rw [beq_iff_eq]; omega
              have HPE := hide hpe
              clear hq hp hpe hsz
              go_wp2_with fail
              refine hR.mono ?_
              rintro e w5 ⟨rfl, hb5⟩
              have hW5 := hWi.below hb5
              clear hR hc3
              go_wp2
              rw [Exit.noGoto_ret]
              go_ret2
              have hk1 := HLAST.out htl
              have e0 : l = l.take k ++ [s] := by rw [← HTK.out, hk1, List.take_length]
              refine ⟨?_, _, ?_, hvg4, Gk.grown_trans hgri (Gk.grown_trans (Gk.grown_below hb5 (some bw)) (Gk.grown_below (below_alloc1 _ _) _))⟩
              · have : tornL l = true := by
                  rw [tornL, List.any_eq_true]
                  exact ⟨s, hsm, by simpa using htl⟩
                rw [this]; rfl
              · have e1 : ms l = ms (l.take k) ++ [(s.first, p)] := by
                  conv => lhs; rw [e0, ms_append]
                  show _ ++ [(s.first, s.bytes)] = _
                  rw [show s.bytes = p from HPE.out.symm]
                rw [e1, ← hk1, HNX.out, show s.last = q from HQ.out.symm]
                exact hW5.below (below_alloc1 _ _)
    · obtain rfl : k = l.length := by omega
      rw [List.take_length] at hWr hcl
      go_wp2
      rw [Exit.noGoto_ret]
      go_ret2
      refine ⟨?_, v, hWr, hvg, hgr⟩
      have : tornL l = false := by
        rw [tornL, List.any_eq_false]
        intro s hs; simp [hcl s hs]
      rw [this]; rfl

end Go.Proofs.YtdlicndbdnfekaaGreatDoor.Wl
