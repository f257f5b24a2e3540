/- Walks over segment.go: collect; wal.go: Read. -/
import Derived.Test.YtdlicndbdnfekaaGreatDoorWlForg
namespace Go.Proofs.YtdlicndbdnfekaaGreatDoor.Wl
open Go.RowKit Go.Joins
open Go.Proofs.YtdlicndbdnfekaaGreatDoor.Dk (Bs Fil Fls St St.Ok Held Only)

/-- records with their numbers -/
def num : Nat → List Rec → List (Nat × Rec)
  | _, [] => []
  | n, r :: l => (n, r) :: num (n + 1) l
theorem num_length : ∀ (l : List Rec) (n : Nat), (num n l).length = l.length
  | [], _ => rfl
  | r :: l, n => by simp [num, num_length l (n + 1)]
theorem num_append : ∀ (a b : List Rec) (n : Nat), num n (a ++ b) = num n a ++ num (n + a.length) b
  | [], b, n => by simp [num]
  | r :: a, b, n => by
    simp only [List.cons_append, num, num_append a b (n + 1), List.length_cons]
    rw [show n + 1 + a.length = n + (a.length + 1) by omega]
theorem num_snoc (a : List Rec) (r : Rec) (n : Nat) : num n (a ++ [r]) = num n a ++ [(n + a.length, r)] := by rw [num_append]; rfl
abbrev RecT : TypeId := 46
abbrev recE (p : Nat × Rec) : List Value := [.int .i64 p.1, .int .i64 p.2.brick, .string p.2.body]
theorem recE_len (p : Nat × Rec) : (recE p).length = 3 := rfl
theorem recE_one (p : Nat × Rec) : ∀ u ∈ recE p, u.oneCell' = true := by
  intro u hu; simp only [recE, List.mem_cons, List.not_mem_nil, or_false] at hu; rcases hu with rfl | rfl | rfl <;> rfl
theorem rec_info : (Tryz.prog.info? RecT).map (fun i => (i.zero, i.size, i.bytes)) = some (some (.agg #[.int .i64 0, .int .i64 0, .string ⟨#[]⟩]), 3, 32) := by kernel_rfl
/-- what was gathered of some records -/
def gat (n fr : Nat) (A : List Rec) : List (Nat × Rec) := (num n A).drop (fr - n)
theorem gat_more {n fr : Nat} {A : List Rec} {r : Rec} (h : fr ≤ n + A.length) (hn : n ≤ fr) : gat n fr (A ++ [r]) = gat n fr A ++ [(n + A.length, r)] := by
  rw [gat, num_snoc, List.drop_append_of_le_length (by rw [num_length]; omega)]; rfl
theorem gat_less {n fr : Nat} {A : List Rec} (h : n + A.length ≤ fr) : gat n fr A = [] := by
  rw [gat, List.drop_eq_nil_iff, num_length]; omega
theorem gat_pre {n fr : Nat} (A B : List Rec) : ∃ C, gat n fr (A ++ B) = gat n fr A ++ C := by
  rw [gat, gat, num_append, List.drop_append]
  exact ⟨_, rfl⟩
theorem gat_len (n fr : Nat) (A : List Rec) : (gat n fr A).length ≤ A.length := by rw [gat, List.length_drop, num_length]; omega
theorem allRecs_take {l : List Sg} {i : Nat} (h : i < l.length) : allRecs (l.take (i + 1)) = allRecs (l.take i) ++ l[i].recs := by
  rw [List.take_succ_eq_append_getElem h, allRecs_append, allRecs_one]
theorem Chain.count : ∀ {l : List Sg} {n m : Nat} (i : Nat) (h : i < l.length), Chain n l m → n + (allRecs (l.take i)).length = l[i].first
  | s :: l, n, m, 0, _, hc => by simpa [allRecs] using hc.1.symm
  | s :: l, n, m, i + 1, h, hc => by
    have h1 := Chain.count i (by simpa using h) hc.2
    have h0 := hc.1
    unfold Sg.last at h1
    simp only [List.take_succ_cons, allRecs, List.flatMap_cons, List.length_append, List.getElem_cons_succ] at h1 ⊢
    omega
/-- the box of a segment, in worlds in which only a row of records may turn -/
abbrev boxC (f b : Nat) : Array Value := #[.int .i64 f, .int .i64 b]

set_option maxRecDepth 100000 in
set_option maxHeartbeats 6400000 in
theorem collect_any {own : Nat → Prop} {bw bd most : Nat} {S : St} {v : Value} {l : List Sg} {n m fr q : Nat} (w : World) (h : Both w own bd bw most S v (ms l) m) (ho : On S l) (hl : Lg l n m) (hm : m ≤ 1048577) (h1 : n ≤ fr) (hq : q ≤ 9223372036854775807) :
    Calls Tryz.prog 32 #[.pointer (some ⟨bw, 0, none⟩), .int .i64 fr, .int .i64 q] w fun e w' => ∃ u, e = .returned (.tuple #[u, .int .i64 0]) ∧ w'.ownsRow w.heap.size RecT 3 u ((gat n fr (allRecs l)).take q).length (Gk.rc recE ((gat n fr (allRecs l)).take q)) ∧ Below w.heap.size w w' := by
  have hlen := ho.len hl h.disk.held.ok
  have hcnt : n + (allRecs l).length = m := hl.chain.sum
  by_cases hq0 : q = 0
  · subst hq0
    go_enter Tryz.func32, Tryz.ntmps32
    go_wp2
    go_step3
    go_wp2
    try rw [Exit.noGoto_ret]
    go_ret2
    exact ⟨_, rfl, by simpa [Gk.rc] using World.ownsRow_nil w w.heap.size RecT 3, Below.refl _ _⟩
  · have hqb : ((q : Int) == 0) = false := by rw [beq_eq_false_iff_ne]; omega
    have c2 := h.log.c2
    obtain ⟨a, c, hv⟩ := h.log.row.slice
    rw [ms_length] at hv
    subst hv
    have HB := hide h
    clear h
    go_enter Tryz.func32, Tryz.ntmps32
    go_wp2
    go_step3
    go_wp2
    go_step3
    go_wp2
    go_loopw [8, 25] (fun u i wr => ∃ k : Nat, k ≤ l.length ∧ i = .int .i64 k ∧ wr.ownsRow w.heap.size RecT 3 u (gat n fr (allRecs (l.take k))).length (Gk.rc recE (gat n fr (allRecs (l.take k)))) ∧ Hid ((gat n fr (allRecs (l.take k))).length < q) ∧ Below w.heap.size w wr) (fun _ i _ => l.length - (intOf i).toNat)
    case atStart => exact ⟨0, by omega, rfl, by simpa [Gk.rc, gat, allRecs, num] using World.ownsRow_nil w w.heap.size RecT 3, by simp [Hid, gat, allRecs, num]; omega, Below.refl _ _⟩
    case round =>
      obtain ⟨k, hk, rfl, hu, HQ, hb⟩ := hrel
      by_cases hlt : k < l.length
      · obtain ⟨g, o, cp, e, hsc⟩ := HB.out.log.row.form (by intro h; rw [← ms_length l, h] at hlt; simp at hlt)
        rw [ms_length, Value.slice.injEq] at e
        obtain ⟨rfl, -, rfl⟩ := e
        have hgl := hsc.lt
        obtain ⟨x0, x1, -, -⟩ := hsc.at k (by rw [ms_length]; exact hlt)
        rw [ms_at l k hlt] at x0 x1
        simp only at x0 x1
        replace x0 := (hb.cell (p := ⟨g, o * 2 + k * 2, none⟩) hgl).trans x0
        replace x1 := (hb.cell (p := ⟨g, o * 2 + k * 2 + 1, none⟩) hgl).trans x1
        have hbw := HB.out.log.lt
        have c0' := (hb.cell (p := ⟨bw, 0, none⟩) hbw).trans HB.out.log.c0
        have c2' := (hb.cell (p := ⟨bw, 2, none⟩) hbw).trans c2
        have i1 : (0 : Int) ≤ (k : Int) := by omega
        have i2 : (k : Int) < (l.length : Int) := by omega
        have hsm := List.getElem_mem hlt
        have hfb := hl.rise.2 l[k] hsm
        have HCN := hide (hl.chain.count k hlt)
        have HAT := hide (allRecs_take hlt)
        have hz := hb.size
        have hbw' : bw < wr.heap.size := by omega
        have hgl' : g < wr.heap.size := by omega
        by_cases hsk : ∃ h : k + 1 < l.length, (l[k + 1]'h).first ≤ fr
        · obtain ⟨hk1, hle⟩ := hsk
          obtain ⟨y0, -, -, -⟩ := hsc.at (k + 1) (by rw [ms_length]; exact hk1)
          rw [ms_at l (k + 1) hk1] at y0
          simp only at y0
          replace y0 := (hb.cell (p := ⟨g, o * 2 + (k + 1) * 2, none⟩) hgl).trans y0
          have hle' : ((l[k + 1]'hk1).first : Int) ≤ (fr : Int) := by omega
          have hnext := hl.chain.count (k + 1) hk1
          have hg1 : gat n fr (allRecs (l.take (k + 1))) = [] := gat_less (by omega)
          have hg0 : gat n fr (allRecs (l.take k)) = [] := gat_less (by rw [allRecs_take hlt, List.length_append] at hnext; omega)
          have HU := hide hu
          generalize (l[k + 1]'hk1) = t at *
          clear hnext hu
          go_wp2
          go_roundw
          case rel =>
            refine ⟨k + 1, by omega, by go_num, ?_, ?_, hb.alloc hz _⟩
            · have h3 := Gk.own_below HU.out (below_alloc1 wr (.cells #[.int .i64 (l[k]).first, .int .i64 (l[k]).bytes] SegT))
              rw [hg0] at h3
              rw [hg1]; exact h3
            · rw [hg1]; show (0 : Nat) < q; omega
          case measure => simp [intOf]; omega
        · have hnm : ∀ W, Below w.heap.size w W → Calls Tryz.prog 28 #[.int .i64 l[k].first] W fun e w' => e = .returned (.string (nt l[k].first)) ∧ Below W.heap.size W w' := fun W hb => nameOf_any _ (by omega) W (HB.out.tab.below hb)
          have hrd : ∀ W, Below w.heap.size w W → Calls Tryz.prog 35 #[.pointer (some ⟨bd, 0, none⟩), .string (nt l[k].first)] W fun e w' => e = .returned (.tuple #[.string ⟨l[k].data.toArray⟩, .int .i64 0]) ∧ Below W.heap.size W w' := fun W hb => by
            have := Dk.read_any W (HB.out.disk.below hb).held (nt l[k].first) (by rw [nt_size]; have := dec_small (show l[k].first ≤ 1048577 by omega); omega)
            rw [nt_list, ho.read hsm (by omega)] at this
            exact this
          have hmay := hl.may l[k] hsm
          have hdsz : l[k].data.length ≤ 262144 := by
            have h2 := Dk.le_sumL' (fun f : Fil => f.data.length) (Dk.getL_some (ho.has l[k] hsm))
            exact Nat.le_trans h2 (Nat.le_trans HB.out.disk.held.ok.sum HB.out.disk.held.ok.room)
          have hlm : l[k].first + l[k].recs.length ≤ 1048577 := Nat.le_trans (hl.chain.last_le l[k] hsm) hm
          have HNX : Hid (∀ h : k + 1 < l.length, ¬ (l[k + 1]'h).first ≤ fr) := fun h h2 => hsk ⟨h, h2⟩
          have y0 : ∀ h : k + 1 < l.length, wr.cell? ⟨g, o * 2 + (k + 1) * 2, none⟩ = some (.int .i64 (l[k + 1]'h).first) := fun h => by
            have h3 := (hsc.at (k + 1) (by rw [ms_length]; exact h)).1
            rw [ms_at l (k + 1) h] at h3
            exact (hb.cell (p := ⟨g, o * 2 + (k + 1) * 2, none⟩) hgl).trans h3
          generalize hse : l[k] = s at *
          obtain ⟨F, hF⟩ : ∃ F : ByteArray, F = ⟨s.data.toArray⟩ := ⟨_, rfl⟩
          have HF : Hid (F.data.toList = s.data) := by show _ = _; rw [hF]
          have hFs : F.size ≤ 262144 := by rw [Lib.size_eq, HF.out]; exact hdsz
          rw [← hF] at hrd
          clear hF hsk hse
          have hUS : US bw bd wr.heap.size 0 (.int .i64 s.first) (wr.alloc (.cells (boxC s.first s.bytes) SegT)) := ⟨⟨((below_alloc1 wr _).cell (p := ⟨bw, 0, none⟩) hbw').trans c0', by simp⟩, by simp; omega, by simp⟩
          have hb1 : Below w.heap.size w (wr.alloc (.cells (boxC s.first s.bytes) SegT)) := hb.alloc hz _
          have HBX : Hid ((wr.alloc (.cells (boxC s.first s.bytes) SegT)).heap[wr.heap.size]? = some (.cells (boxC s.first s.bytes) SegT (0, 0))) := heap_alloc_new wr _
          have hu1 := Gk.own_below hu (below_alloc1 wr (.cells (boxC s.first s.bytes) SegT))
          have hz1 : wr.heap.size < (wr.alloc (.cells (boxC s.first s.bytes) SegT)).heap.size := by simp
          by_cases hk1 : k + 1 < l.length
          case' pos =>
            have z0 := y0 hk1
            have hnle : ¬ ((l[k + 1]'hk1).first : Int) ≤ (fr : Int) := by have := HNX.out hk1; omega
            generalize (l[k + 1]'hk1) = t at *
            clear y0 HNX
            go_wp2
            clear z0 hnle
          case' neg =>
            clear y0 HNX
            go_wp2
          all_goals
            go_region_held3 (US bw bd wr.heap.size 0 (.int .i64 s.first)) (first | with_reducible exact US.drew (by assumption) | with_reducible exact US.call (by assumption) (by assumption) | with_reducible assumption)
              (first | (go_at_call 28; refine (hnm _ (by first | exact hb1 | exact hb1.drew)).mono ?_; rintro e w2 ⟨rfl, hb2⟩; have HB2 : Hid (Below (wr.alloc (.cells (boxC s.first s.bytes) SegT)).heap.size (wr.alloc (.cells (boxC s.first s.bytes) SegT)) w2) := by first | exact hb2 | exact ((Below.refl _ _).drew).trans hb2) | (go_at_call 35; refine (hrd _ (by first | exact hb1.trans (HB2.out.mono hb1.size) | exact (hb1.trans (HB2.out.mono hb1.size)).drew)).mono ?_; rintro e w3 ⟨rfl, hb3⟩))
            obtain ⟨sb, hsb⟩ : ∃ sb, sb = wr.heap.size := ⟨_, rfl⟩
            have hb4 := HB2.out.trans (hb3.mono HB2.out.size)
            have hB4 : Below w.heap.size w w3 := hb1.trans (hb4.mono hb1.size)
            have hbx4 := (hb4.block wr.heap.size hz1).trans HBX.out
            have hu4 := Gk.own_below hu1 hb4
            rw [← hsb] at hbx4
            have b0 : w3.cell? ⟨sb, 0, none⟩ = some (.int .i64 s.first) := cell_of_block hbx4 0
            rw [← hsb]
            have hsbw : w.heap.size ≤ sb := by omega
            clear hb2 hb3 HB2 hb4 HBX hu1 hUS hb1 hz1 hu hnm hrd x0 x1 c0' c2' hsb
            go_wp2
            go_quiet (fail)
            clear b0
            replace hB4 := hB4.trans (below_draws w.heap.size w3 nq)
            replace hbx4 : (w3.drewN nq).heap[sb]? = some (.cells (boxC s.first s.bytes) SegT (0, 0)) := hbx4
            replace hu4 := Gk.own_below hu4 (below_draws w3.heap.size w3 nq)
            generalize w3.drewN nq = w4 at *
            go_wp2
            obtain ⟨A, hA⟩ : ∃ A, A = allRecs (l.take k) := ⟨_, rfl⟩
            rw [← hA] at hu4 HQ HCN HAT
            have HAE := hide hA
            clear hA
            go_loopw [8, 13, 14] (fun u pv qv wi => ∃ (j p sq : Nat), pv = .int .i64 p ∧ qv = .int .i64 sq ∧ j ≤ s.recs.length ∧ Hid (sq = s.first + j) ∧ Hid (p = (frs s.first (s.recs.take j)).length) ∧ wi.ownsRow w.heap.size RecT 3 u (gat n fr (A ++ s.recs.take j)).length (Gk.rc recE (gat n fr (A ++ s.recs.take j))) ∧ Hid ((gat n fr (A ++ s.recs.take j)).length < q) ∧ wi.heap[sb]? = some (.cells (boxC s.first s.bytes) SegT (0, 0)) ∧ Below w.heap.size w wi) (fun _ p _ _ => F.size - (intOf p).toNat)
            case atStart => exact ⟨0, 0, s.first, rfl, rfl, by omega, rfl, by simp [frs, Hid], by rw [List.take_zero, List.append_nil]; exact hu4, by rw [List.take_zero, List.append_nil]; exact HQ, hbx4, hB4⟩
            case round =>
              obtain ⟨j, p, sq, rfl, rfl, hj, HSQ, HP, hui, HQI, hbxi, hBi⟩ := hrel
              have b1 : wr.cell? ⟨sb, 1, none⟩ = some (.int .i64 s.bytes) := cell_of_block hbxi 1
              have hsq : sq = s.first + j := HSQ.out
              have hp : p = (frs s.first (s.recs.take j)).length := HP.out
              have hzi := hBi.size
              have hsl : sb < wr.heap.size := (Array.getElem?_eq_some_iff.1 hbxi).1
              by_cases hjl : j < s.recs.length
              · have hdat : F.data.toList.drop p = Wl.fr sq s.recs[j] ++ (frs (s.first + j + 1) (s.recs.drop (j + 1)) ++ s.tl) := by
                  rw [HF.out, Sg.data, frs_at s.first s.recs j hjl, hp, hsq, List.append_assoc, List.drop_left, List.append_assoc]
                have hpos := fr_pos sq s.recs[j]
                have hps : p + (Wl.fr sq s.recs[j]).length ≤ F.size := by
                  have := congrArg List.length hdat
                  rw [List.length_drop, List.length_append, ← Lib.size_eq] at this
                  omega
                have HN := hide (frs_take_next s.first s.recs j hjl)
                have hpb : p < s.bytes := by
                  have := frs_take_lt s.first s.recs j hjl
                  rw [← hp] at this
                  unfold Sg.bytes; omega
                have HTK := hide (List.take_succ_eq_append_getElem hjl)
                have HAL : Hid (n + (A ++ s.recs.take j).length = sq) := by
                  show _ = _
                  have := HCN.out
                  rw [List.length_append, List.length_take]; omega
                have hR := recordAt_ok F p sq s.recs[j] _ (hmay _ (List.getElem_mem hjl)) (by omega) (by omega) (by omega) hdat wr
                generalize hre : s.recs[j] = r at *
                obtain ⟨E, hE⟩ : ∃ E, E = p + (Wl.fr sq r).length := ⟨_, rfl⟩
                rw [← hE] at hR hps
                have HE := hide hE
                have hlt2 : (p : Int) < (s.bytes : Int) := by omega
                have hE8 : p + 8 ≤ E := by omega
                have hqs : sq ≤ 1048577 := by omega
                obtain ⟨G, hG⟩ : ∃ G, G = gat n fr (A ++ s.recs.take j) := ⟨_, rfl⟩
                rw [← hG] at hui HQI
                have HG := hide hG
                have HGL : Hid (G.length ≤ 1048577) := by
                  have h3 := gat_len n fr (A ++ s.recs.take j)
                  have := HAL.out
                  show _ ≤ _
                  rw [hG]; omega
                clear hdat hsq hp hE hG hre
                go_wp2_with fail
                refine hR.mono ?_
                rintro e w5 ⟨rfl, hb5⟩
                have hu5 := Gk.own_below hui hb5
                have hbx5 := (hb5.block sb hsl).trans hbxi
                have hB5 := hBi.trans (hb5.mono hzi)
                have hz5 := hB5.size
                have hgl5 := hu5.lt
                clear hR b1 hui hbxi hBi hb5
                by_cases hge : fr ≤ sq
                · have hge' : (fr : Int) ≤ (sq : Int) := by omega
                  have HG2 : Hid (gat n fr (A ++ s.recs.take (j + 1)) = G ++ [(sq, r)]) := by
                    show _ = _
                    rw [HTK.out, ← List.append_assoc, gat_more (by have := HAL.out; omega) h1, HAL.out, ← HG.out]
                  go_wp2_with (at_builtin; refine Gk.wpList_push (enc := recE) (k := 3) rfl (.tmp 85) (.tmp 87) 42 rfl RecT (.agg #[.int .i64 0, .int .i64 0, .string ⟨#[]⟩]) 32 Tryz.underlying42 rec_info rfl (by decide) recE_len recE_one w.heap.size _ G rfl (Gk.own_below hu5 (below_alloc2 w5 _ _)) (w5.heap.size + 1) (sq, r) rfl (two_new w5 _ _) ?c1 ?c2 ?c3 ?_)
                  case c1 => have := HGL.out; omega
                  case c2 => have := HGL.out; omega
                  case c3 => simp; omega
                  intro v6 w6 hv6 hg6 hat6
                  obtain ⟨N1, hN1⟩ : ∃ N1, N1 = G.length + 1 := ⟨_, rfl⟩
                  rw [← hN1] at hv6
                  obtain ⟨a6, c6, rfl⟩ := Dk.own_slice hv6
                  have hB6 : Below w.heap.size w w6 := ((hB5.alloc hz5 _).alloc (by simp; omega) _).grown hg6 (by simp; omega) (fun k hk => (hgl5 k hk).1)
                  have hbx6 := (hg6.block sb (by have := (Array.getElem?_eq_some_iff.1 hbx5).1; simp; omega) (fun e => Gk.own_ne hu5 hbx5 (by decide) e.symm rfl)).trans ((Below.heap_alloc _ _ sb (by have := (Array.getElem?_eq_some_iff.1 hbx5).1; simp; omega)).trans ((Below.heap_alloc w5 _ sb (Array.getElem?_eq_some_iff.1 hbx5).1).trans hbx5))
                  have HN1 := hide hN1
                  have hN1b : N1 ≤ 1048578 := by have := HGL.out; omega
                  clear hu5 hbx5 hB5 hg6 hat6 hN1 hgl5
                  by_cases heq : N1 = q
                  · have heq' : ((N1 : Int) == (q : Int)) = true := by rw [beq_iff_eq]; omega
                    have HEQ := hide heq
                    clear heq
                    go_wp2
                    rw [Exit.noGoto_ret]
                    go_ret2
                    have e0 : allRecs l = (A ++ s.recs.take (j + 1)) ++ (s.recs.drop (j + 1) ++ allRecs (l.drop (k + 1))) := by
                      conv => lhs; rw [← List.take_append_drop (k + 1) l, allRecs_append, HAT.out]
                      rw [List.append_assoc, List.append_assoc, ← List.append_assoc (s.recs.take (j + 1)), List.take_append_drop]
                    obtain ⟨C, hC⟩ := gat_pre (n := n) (fr := fr) (A ++ s.recs.take (j + 1)) (s.recs.drop (j + 1) ++ allRecs (l.drop (k + 1)))
                    have e1 : (gat n fr (allRecs l)).take q = G ++ [(sq, r)] := by
                      rw [e0, hC, HG2.out]
                      exact List.take_left' (by rw [List.length_append, List.length_singleton, ← HN1.out]; exact HEQ.out)
                    refine ⟨_, rfl, ?_, hB6⟩
                    rw [e1, List.length_append, List.length_singleton, ← HN1.out]
                    exact hv6
                  · have heq' : ((N1 : Int) == (q : Int)) = false := by rw [beq_eq_false_iff_ne]; omega
                    have hne1 : N1 < q := by have := HQI.out; have := HN1.out; omega
                    clear heq
                    go_wp2
                    go_roundw
                    case rel =>
                      refine ⟨j + 1, E, sq + 1, rfl, by go_num, by omega, ?_, ?_, ?_, ?_, hbx6, hB6⟩
                      · show sq + 1 = s.first + (j + 1); have := HSQ.out; omega
                      · show E = _; rw [HN.out, List.length_append, HE.out, HP.out, HSQ.out]
                      · rw [HG2.out, List.length_append, List.length_singleton, ← HN1.out]; exact hv6
                      · show _ < _; rw [HG2.out, List.length_append, List.length_singleton, ← HN1.out]; exact hne1
                    case measure => simp [intOf]; omega
                · have hge' : ¬ (fr : Int) ≤ (sq : Int) := by omega
                  have hG0 : G = [] := by rw [HG.out]; exact gat_less (by rw [HAL.out]; omega)
                  have HG2 : Hid (gat n fr (A ++ s.recs.take (j + 1)) = []) := by
                    show _ = _
                    rw [HTK.out, ← List.append_assoc]
                    exact gat_less (by rw [List.length_append, List.length_singleton]; have := HAL.out; omega)
                  subst hG0
                  obtain ⟨a5, c5, rfl⟩ := Dk.own_slice hu5
                  have hq1 : ((0 : Int) == (q : Int)) = false := by rw [beq_eq_false_iff_ne]; omega
                  simp only [List.length_nil] at hu5
                  clear HGL HG hgl5
                  go_wp2
                  go_roundw
                  case rel =>
                    have hl5 := (Array.getElem?_eq_some_iff.1 hbx5).1
                    refine ⟨j + 1, E, sq + 1, rfl, by go_num, by omega, ?_, ?_, ?_, ?_, (Below.heap_alloc w5 _ sb hl5).trans hbx5, hB5.alloc hz5 _⟩
                    · show sq + 1 = s.first + (j + 1); have := HSQ.out; omega
                    · show E = _; rw [HN.out, List.length_append, HE.out, HP.out, HSQ.out]
                    · rw [HG2.out]; exact Gk.own_below hu5 (below_alloc1 _ _)
                    · show _ < _; rw [HG2.out]; exact HQI.out
                  case measure => simp [intOf]; omega
              · obtain rfl : j = s.recs.length := by omega
                have hpb : ¬ (p : Int) < (s.bytes : Int) := by
                  have : p = s.bytes := by rw [hp, List.take_length]; rfl
                  omega
                rw [List.take_length, ← HAT.out] at hui HQI
                clear hp hsq
                go_wp2
                go_roundw
                case rel => exact ⟨k + 1, by omega, by go_num, hui, HQI, hBi⟩
                case measure => simp [intOf]; omega
      · obtain rfl : k = l.length := by omega
        rw [List.take_length] at hu HQ
        go_wp2
        rw [Exit.noGoto_ret]
        go_ret2
        refine ⟨_, rfl, ?_, hb⟩
        rw [List.take_of_length_le (Nat.le_of_lt HQ.out)]
        exact hu

set_option maxRecDepth 100000 in
set_option maxHeartbeats 3200000 in
theorem Read_any {own : Nat → Prop} {bw bd most : Nat} {S : St} {v : Value} {l : List Sg} {n m fr q : Nat} (w : World) (h : Both w own bd bw most S v (ms l) m) (ho : On S l) (hl : Lg l n m) (hm : m ≤ 1048577) (h1 : n ≤ fr) (hfm : fr ≤ m) (hq : q ≤ 9223372036854775807) :
    Calls Tryz.prog 14 #[.pointer (some ⟨bw, 0, none⟩), .int .i64 fr, .int .i64 q] w fun e w' => ∃ u, e = .returned (.tuple #[u, .int .i64 0]) ∧ w'.ownsRow w.heap.size RecT 3 u ((gat n fr (allRecs l)).take q).length (Gk.rc recE ((gat n fr (allRecs l)).take q)) ∧ Below w.heap.size w w' := by
  have hFi : ∀ W, Below w.heap.size w W → Calls Tryz.prog 15 #[.pointer (some ⟨bw, 0, none⟩)] W fun e w' => e = .returned (.int .i64 n) ∧ w' = W := fun W hb => by
    refine (First_any W (h.log.below hb)).mono ?_
    rintro e w' ⟨rfl, rfl⟩
    exact ⟨by rw [show fst (ms l) m = n from hl.fst], rfl⟩
  have hWi : ∀ W, Calls Tryz.prog 20 #[.int .i64 fr, .int .i64 n, .int .i64 m] W fun e w' => e = .returned (.bool true) ∧ w' = W := fun W => by
    refine (within_any fr n m W).mono ?_
    rintro e w' ⟨rfl, rfl⟩
    have e1 : (n : Int) ≤ (fr : Int) := by omega
    have e2 : (fr : Int) ≤ (m : Int) := by omega
    simp [e1, e2]
  have c3 := h.log.c3
  have hqn : ¬ (q : Int) < 0 := by omega
  go_enter Tryz.func14, Tryz.ntmps14
  go_wp2
  go_quiet (first | (go_at_call 15; exact Calls.quiet_of_same (hFi _ (below_draws _ _ _))) | (go_at_call 20; exact Calls.quiet_of_same (hWi _)))
  have hbd := below_draws w.heap.size w nq
  have hC := collect_any (q := q) (w.drewN nq) (h.below hbd) ho hl hm h1 hq
  have hzz : (w.drewN nq).heap.size = w.heap.size := rfl
  rw [hzz] at hC
  generalize w.drewN nq = w1 at *
  clear hFi hWi
  go_wp2_with fail
  refine hC.mono ?_
  rintro e w2 ⟨u, rfl, ho2, hb2⟩
  go_wp2
  go_ret2
  exact ⟨u, rfl, ho2, hbd.trans hb2⟩

end Go.Proofs.YtdlicndbdnfekaaGreatDoor.Wl
