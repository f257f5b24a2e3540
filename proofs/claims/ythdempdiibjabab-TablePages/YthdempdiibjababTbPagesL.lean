/- Layer 9: TablePages: the law's walk. -/
import Derived.Test.YthdempdiibjababTbGot
import Derived.Test.YthdempdiibjababTbRows
import Derived.Test.YthdempdiibjababTbBook
import Derived.Test.YthdempdiibjababGAmong
namespace Go.Proofs.Ythdempdiibjabab.Tb
open Go.RowKit Go.Joins Go.Proofs.Ythdempdiibjabab.Gk Go.Proofs.Ythdempdiibjabab.Oq Go.Proofs.Ythdempdiibjabab.Sp

theorem bytes_one : ∀ (o k : List UInt8), (!bytesBefore o k && bytesBefore o (k ++ [0])) = decide (o = k)
  | [], [] => rfl
  | [], _ :: _ => by simp [bytesBefore]
  | x :: o, [] => by
    have : ¬ x < 0 := UInt8.not_lt.2 (UInt8.zero_le)
    cases o <;> simp [bytesBefore, this]
  | x :: o, y :: k => by
    have ih := bytes_one o k
    simp only [bytesBefore, List.cons_append]
    by_cases h : x < y
    · have hne : x ≠ y := fun e => by subst e; exact absurd h (UInt8.lt_irrefl _)
      simp [h, hne]
    · by_cases h' : x = y
      · subst h'
        simp only [h, decide_false, beq_self_eq_true, Bool.true_and, Bool.false_or]
        rw [ih]; simp
      · have hb : (x == y) = false := by simp [h']
        simp [h, hb, h']
/-- the key with a byte 0 behind it stands right behind the key -/
theorem pos_next {l : List Rw} (h : Rise l) {i : Nat} (hi : i < l.length) {k' : ByteArray} (hk : k'.data.toList = l[i].key.data.toList ++ [0]) : pos l k' = i + 1 := by
  have hB : ∀ r : Rw, B4 r.key k' = (B4 r.key l[i].key || decide (r.key = l[i].key)) := by
    intro r
    have h1 := bytes_one r.key.data.toList l[i].key.data.toList
    rw [← hk] at h1
    have e1 : decide (r.key.data.toList = l[i].key.data.toList) = decide (r.key = l[i].key) := by
      by_cases e : r.key = l[i].key
      · simp [e]
      · have : r.key.data.toList ≠ l[i].key.data.toList := fun h => e (ba_ext h)
        simp [e, this]
    rw [e1] at h1
    unfold B4 at *
    by_cases h2 : bytesBefore r.key.data.toList l[i].key.data.toList = true
    · rw [h2]
      simp only [Bool.true_or]
      by_cases h3 : bytesBefore r.key.data.toList k'.data.toList = true
      · exact h3
      · have hlt : bytesBefore l[i].key.data.toList k'.data.toList = true := by
          have h4 := bytes_one l[i].key.data.toList l[i].key.data.toList
          rw [← hk] at h4
          simp only [decide_true, Bool.and_eq_true] at h4
          exact h4.2
        exact absurd (WideShapes.bytes_trans _ _ _ h2 hlt) h3
    · have h2' : bytesBefore r.key.data.toList l[i].key.data.toList = false := by simpa using h2
      rw [h2'] at h1 ⊢
      simpa using h1
  have hp : pos l l[i].key = i := by
    have h1 : ¬ pos l l[i].key < i := fun hlt => by
      have := pos_hi h l[i].key i hi
      have h2 := (List.pairwise_iff_getElem.1 h) (pos l l[i].key) i (by omega) hi hlt
      have h3 := pos_hi h l[i].key (pos l l[i].key) (by omega) (Nat.le_refl _)
      rw [h2] at h3; cases h3
    have h2 : ¬ i < pos l l[i].key := fun hlt => by
      have := pos_lo h l[i].key i hi hlt
      rw [B4.irr] at this; cases this
    omega
  have hlo : ∀ t (ht : t < l.length), t < i + 1 → B4 l[t].key k' = true := by
    intro t ht hti
    rw [hB]
    by_cases e : t = i
    · subst e; simp
    · rw [pos_lo h _ t ht (by omega)]; rfl
  have hhi : ∀ t (ht : t < l.length), i + 1 ≤ t → B4 l[t].key k' = false := by
    intro t ht hti
    rw [hB]
    have h2 := (List.pairwise_iff_getElem.1 h) i t hi ht (by omega)
    rw [B4.asym h2]
    have := B4.ne h2
    simp [Ne.symm this]
  have a1 : ¬ pos l k' < i + 1 := fun hlt => by
    have h1 := hlo (pos l k') (by omega) hlt
    rw [pos_hi h k' (pos l k') (by omega) (Nat.le_refl _)] at h1; cases h1
  have a2 : ¬ i + 1 < pos l k' := fun hlt => by
    have hle := pos_le l k'
    have h1 := hhi (i + 1) (by omega) (Nat.le_refl _)
    rw [pos_lo h k' (i + 1) (by omega) hlt] at h1; cases h1
  omega
theorem take_more (T : List Rw) (j m : Nat) : T.take j ++ (T.drop j).take m = T.take (j + ((T.drop j).take m).length) := by
  rw [List.take_add, List.length_take, ← List.take_eq_take_min]
theorem DoP.blk {bt : Nat} {w w' : World} {an : Ans × List Rw} {g rcap : Nat} {R : RsA} {rl : List RsA} (h : DoP bt w an (some ⟨g, 0, none⟩) rcap rl w') (hr : rl = [R]) : ∃ cur, w'.heap[g]? = some (.cells cur ResT (0, 0)) := by
  subst hr
  obtain ⟨g', cap, cur, e, hg, _⟩ := own_form h.row (by simp)
  cases e
  exact ⟨cur, hg⟩
theorem many_may (fr : ByteArray) (hf : fr.size ≤ 64) (m : Nat) (h1 : 1 ≤ m) (h9 : m ≤ 9) : Opn.may ⟨6, fr, ⟨#[]⟩, 0, 0, m⟩ = true := by
  have h2 : within (m : Int) 1 100 = true := by
    unfold within
    rw [decide_eq_true (by omega), decide_eq_true (by omega)]; rfl
  unfold Opn.may
  simp only
  rw [if_neg (by omega), if_neg (by omega), if_neg (by omega), if_pos trivial, h2]
  simp [hf]
  rfl

set_option maxRecDepth 100000 in
set_option maxHeartbeats 1600000 in
theorem pages_law (la : Option Addr) (lc : Nat) (l : List OpsA) (most : Int) (w : World) (hl : Lies w osenc la l) (he : ∀ x ∈ l, Lies w oenc x.a x.ops) (wf : (Lit.int .i64 most).wf = true) :
    Calls Try.prog 4 #[.slice la l.length lc, .int .i64 most] w fun e w' => e = .returned (.bool true) ∧ Below w.heap.size w w' := by
  have hnb := bounds_i64 wf
  obtain ⟨m, hm, hm9⟩ : ∃ m : Nat, (1 : Int) + most % 9 = (m : Int) ∧ 1 ≤ m ∧ m ≤ 9 := ⟨(1 + most % 9).toNat, by omega, by omega, by omega⟩
  go_enter Try.func4, Try.ntmps4
  go_wp2_with fail
  refine (works_tb w).mono ?_
  rintro e w1 ⟨rfl, hb1⟩
  have hP := fun W (hb : Below w.heap.size w W) => played_tb la lc l W (hl.below hb) (fun x hx => (he x hx).below hb)
  generalize plays [] (l.take 40) = T at hP
  go_wp2_with fail
  refine (hP _ hb1).mono ?_
  rintro e w2 ⟨bt, rfl, ht2, lt2, hb⟩
  have hb2 := hb1.trans (hb.mono hb1.size)
  have s2 := Nat.le_trans hb1.size lt2
  clear hb hP hb1 lt2
  go_wp2_with fail
  refine (among_any most 9 w2 (by omega) (by omega) hnb.1 hnb.2).mono ?_
  rintro e w3 ⟨rfl, rfl⟩
  go_wp2_with fail
  refine (Len_tb bt T w2 ht2).mono ?_
  rintro e w3 ⟨rfl, rfl⟩
  have hTl := ht2.1.len
  have HRi := hide ht2.1.rise
  go_wp2
  go_loopw [6, 7, 22] (fun v f i wr => ∃ (k j : Nat) (fr : ByteArray), k ≤ T.length + 1 ∧ k ≤ j ∧ j ≤ T.length ∧ i = .int .i64 k ∧ f = .string fr ∧ fr.size ≤ 64 ∧ Hid (pos T fr = j) ∧ wr.ownsRow w.heap.size RowT 3 v (T.take j).length (rc rwenc (T.take j)) ∧ Hid (∀ g gb, tabBlk wr bt = some g → v.ownBlock = some gb → g ≠ gb) ∧ TH wr bt T ∧ Below w.heap.size w wr) (fun _ _ i _ => T.length + 1 - (intOf i).toNat)
  case atStart => exact ⟨0, 0, ⟨#[]⟩, by omega, by omega, by omega, rfl, rfl, by decide, (by show pos T ⟨#[]⟩ = 0; unfold pos; rw [List.countP_eq_zero]; intro r _; rw [show B4 r.key ⟨#[]⟩ = false from B4.none _]; simp), World.ownsRow_nil _ _ _ _, hide (fun g gb _ h => by cases h), ht2, hb2⟩
  case round =>
    clear ht2 hb2
    obtain ⟨k, j, fr, hk, hkj, hj, rfl, rfl, hfr, HPo, hown, HNE, ht, hbel⟩ := hrel
    have hwr := hbel.size
    by_cases hlt : k < T.length + 1
    · have i1 : (k : Int) < (T.length : Int) + 1 := by omega
      have ho := heap_alloc_new wr (.cells (rc oenc [(⟨6, fr, ⟨#[]⟩, 0, 0, m⟩ : Opn)]).toArray OpT)
      have hb0 := below_a1 wr (.cells (rc oenc [(⟨6, fr, ⟨#[]⟩, 0, 0, m⟩ : Opn)]).toArray OpT)
      have hDo := Do_tb bt T (some ⟨wr.heap.size, 0, none⟩) 1 [(⟨6, fr, ⟨#[]⟩, 0, 0, m⟩ : Opn)] _ (ht.below hb0) (ops_lie ho)
      rw [dos_one _ (many_may fr hfr m hm9.1 hm9.2)] at hDo
      have hone : one T ⟨6, fr, ⟨#[]⟩, 0, 0, m⟩ = (⟨0, 0, nix, (T.drop j).take m⟩, T) := by
        unfold one
        rw [if_pos rfl]
        simp only [HPo.out, Int.toNat_natCast]
      rw [hone] at hDo
      go_wp2_with fail
      refine hDo.mono ?_
      rintro e w3 ⟨ra, rcap, rl, rfl, hD⟩
      obtain ⟨R, g, rfl, hR, rfl, hg, d0, d1, d2, d3, hRL⟩ := hD.single
      have hown3 : w3.ownsRow w.heap.size RowT 3 _ (T.take j).length (rc rwenc (T.take j)) := own_stay hown fun g hg => by
        have h1 := hb0.block g (hown.lt g hg).2
        have h2 := hD.turn.block g (Nat.lt_of_lt_of_le (hown.lt g hg).2 hb0.size) (by
          obtain ⟨_, _, _, htg, _⟩ := ht
          exact own_ne hown htg (by decide) hg)
        exact h2.trans h1
      obtain ⟨gv, gc, rfl⟩ := Gk.own_slice hown3
      have HNE3 : Hid (∀ q gb, tabBlk w3 bt = some q → (Value.slice gv (T.take j).length gc).ownBlock = some gb → q ≠ gb) := fun q gb hq hgb => by
        rcases hD.own q hq with h1 | h1
        · exact HNE.out q gb (by rw [← h1]; exact (tabBlk_same (hb0.block bt ht.lt)).symm) hgb
        · have h2 := (hown.lt gb hgb).2
          have h3 := hb0.size
          omega
      have hgb := hide (hD.blk rfl)
      have ht3 := hD.tab
      have hb3 := turn_below (hbel.trans (hb0.mono hwr)) s2 hD.turn
      obtain ⟨P, hP⟩ : ∃ P, P = (T.drop j).take m := ⟨_, rfl⟩
      rw [← hP] at hRL d3
      have hPl : P.length = min m (T.length - j) := by rw [hP, List.length_take, List.length_drop]
      have hTj : (T.take j).length = j := by rw [List.length_take]; omega
      have HTP : Hid (T.take j ++ P = T.take (j + P.length)) := by
        show _ = _
        rw [hP]; exact take_more _ _ _
      have HPl := hide hPl
      have HTj := hide hTj
      have hnil := hRL.nocap
      have hPm : P.length ≤ m := by omega
      have i2 : ¬ (m : Int) < (P.length : Int) := by omega
      simp only [List.length_cons, List.length_nil]
      clear hDo ho hb0 hD hown ht hbel hR hone d1 d2 hPl hTj hP
      generalize T.take j = G at hown3 HTP HTj HNE3 ⊢
      have hba := below_a1 w3 (.cells #[.int .i64 0, .int .i64 0] FltT)
      have hb4 := hb3.trans (hba.mono hb3.size)
      go_wp2_with (at_builtin; refine wpList_append_row (enc := rwenc) (k := 3) rfl (.tmp 57) (.tmp 61) RowsT rfl RowT noRw 40 Try.underlying29 row_info rfl (by decide) rwenc_len rwenc_one w.heap.size _ G rfl (own_below hown3 hba) R.a P P.length R.cap rfl rfl (hRL.below hba).lies hnil (by have := HTj.out; omega) (by have := HTj.out; omega) hb4.size ?_)
      intro v4 w4 hown4 hg4 hat4
      have hd4 : w4.cell? ⟨g, 3, none⟩ = some (.slice R.a P.length R.cap) := by
        obtain ⟨gcur, hgc⟩ := hgb.out
        have h7 := (hba.block g (Array.getElem?_eq_some_iff.1 hgc).1).trans hgc
        have h8 := (hg4.block g (Array.getElem?_eq_some_iff.1 h7).1 fun e => own_ne (own_below hown3 hba) h7 (by decide) e.symm rfl).trans h7
        exact (World.cell?_of_block (a := ⟨g, 3, none⟩) (h8.trans hgc.symm)).trans d3
      have hb5 : Below w.heap.size w w4 := hb4.grown hg4 hb4.size (fun k hk => ((own_below hown3 hba).lt k hk).1)
      have h1 := ht3.below hba
      obtain ⟨hok, ta, tc, htg, htr⟩ := id h1
      have htb : tabBlk w3 bt = blk ta := by rw [← tabBlk_is htg]; exact (tabBlk_same (hba.block bt ht3.lt)).symm
      have hbt4 := hg4.block bt (Array.getElem?_eq_some_iff.1 htg).1 fun e => own_ne (own_below hown3 hba) htg (by decide) e.symm rfl
      have ht4 : TH w4 bt T := by
        refine ⟨hok, ta, tc, hbt4.trans htg, htr.stay fun q hq => ?_⟩
        obtain ⟨qc, hqc⟩ := htr.lt hq
        exact hg4.block q (Array.getElem?_eq_some_iff.1 hqc).1 fun e => HNE3.out q q (by rw [htb]; exact hq) e.symm rfl
      have HNE4 : Hid (∀ q gb, tabBlk w4 bt = some q → v4.ownBlock = some gb → q ≠ gb) := fun q gb hq hgb => by
        rw [tabBlk_same hbt4, tabBlk_is htg] at hq
        rcases hat4 gb hgb with h5 | h5
        · exact HNE3.out q gb (by rw [htb]; exact hq) h5
        · obtain ⟨qc, hqc⟩ := htr.lt hq
          have h6 := (Array.getElem?_eq_some_iff.1 hqc).1
          have h7 : (w3.alloc (.cells #[.int .i64 0, .int .i64 0] FltT)).heap.size = w3.heap.size + 1 := by simp
          simp only [h7] at h6
          first | omega | (simp only [h7] at h5; omega)
      clear h1 hok htg htr htb hbt4
      obtain ⟨GP, hGP⟩ : ∃ GP, GP = G ++ P := ⟨_, rfl⟩
      have hGl : GP.length = j + P.length := by have := HTj.out; rw [hGP, List.length_append]; omega
      have HGP : Hid (GP = T.take (j + P.length)) := hGP.trans HTP.out
      have HGl := hide hGl
      have hown5 : w4.ownsRow w.heap.size RowT 3 v4 GP.length (rc rwenc GP) := by rw [hGP]; simpa using hown4
      obtain ⟨av4, cv4, rfl⟩ := Gk.own_slice hown5
      clear hg4 hat4 hown4 hown3 hba hb3 hb4 ht3 hRL hnil d0 d3 hGP hGl
      by_cases hPs : P.length < m
      · have i3 : (P.length : Int) < (m : Int) := by omega
        have HGT : Hid (GP = T) := by
          show _ = _
          rw [HGP.out]
          exact List.take_of_length_le (by have := HPl.out; omega)
        go_wp2_with fail
        refine (Rows_all bt T w4 ht4).mono ?_
        rintro e w5 ⟨g5, rfl, ho5, hb⟩
        have hb6 := hb5.trans (hb.mono hb5.size)
        have hg5 := own_below hown5 hb
        have hl5 : Lies w5 rwenc av4 T := by rw [← HGT.out]; exact (RL.of_own hg5).lies
        have hGn : GP.length = T.length := by rw [HGT.out]
        rw [hGn]
        clear hb hown5 hg5 hb5 ht4 hGn
        go_wp2_with fail
        refine (sameRows_any _ _ _ _ T w5 hl5 (RL.of_own ho5).lies (by omega)).mono ?_
        rintro e w6 ⟨rfl, hb⟩
        have hb7 := hb6.trans (hb.mono hb6.size)
        clear hb
        go_wp2
        go_ret
        exact ⟨rfl, hb7⟩
      · have i3 : ¬ (P.length : Int) < (m : Int) := by omega
        have hGm := HGl.out
        obtain ⟨p, hp⟩ : ∃ p, GP.length = p + 1 := ⟨GP.length - 1, by omega⟩
        have hpi : (GP.length : Int) - 1 = (p : Int) := by omega
        have hpl : p < GP.length := by omega
        have hpT : p < T.length := by have := HPl.out; omega
        obtain ⟨gg, gcap, e0, hggl, hcg⟩ := Row.at (enc := rwenc) (k := 3) (l := GP) (own_mono hown5 (Nat.zero_le _)) rwenc_len p hpl
        cases e0
        have kp := hcg 0 _ rfl
        rw [Nat.add_zero] at kp
        have hKe : GP[p].key = T[p].key := by
          have h9 : GP[p]? = T[p]? := by rw [HGP.out, List.getElem?_take, if_pos (by omega)]
          rw [List.getElem?_eq_getElem hpl, List.getElem?_eq_getElem hpT] at h9
          rw [Option.some.inj h9]
        rw [hKe] at kp
        have j1 : (0 : Int) ≤ (p : Int) := by omega
        have j2 : (p : Int) < (GP.length : Int) := by omega
        have HNx := hide (fun k' hk => pos_next HRi.out (k' := k') hpT hk)
        have hks := (ht4.1.each _ (List.getElem_mem hpT)).k2
        have HP1 := hide hp
        clear hcg hKe hp hGm
        generalize (T[p]'hpT).key = kk at *
        have hzs : (kk ++ (⟨#[0]⟩ : ByteArray)).size = kk.size + 1 := by rw [ByteArray.size_append]; rfl
        have hzd : (kk ++ (⟨#[0]⟩ : ByteArray)).data.toList = kk.data.toList ++ [0] := by rw [ByteArray.data_append]; simp
        have HZS := hide hzs
        have HZD := hide hzd
        clear hzs hzd
        by_cases h64 : 64 < kk.size + 1
        · have j3 : (64 : Int) < (kk.size : Int) + 1 := by omega
          go_wp2
          go_ret
          exact ⟨rfl, hb5⟩
        · have j3 : ¬ (64 : Int) < (kk.size : Int) + 1 := by omega
          have hGm := HGl.out
          have hPl := HPl.out
          have hown6 : w4.ownsRow w.heap.size RowT 3 (.slice (some ⟨gg, 0, none⟩) GP.length cv4) (T.take (j + P.length)).length (rc rwenc (T.take (j + P.length))) := by rw [← HGP.out]; exact hown5
          have HO6 := hide hown6
          have hPo : Hid (pos T (kk ++ (⟨#[0]⟩ : ByteArray)) = j + P.length) := by
            have h9 := HNx.out _ HZD.out
            have h8 := HP1.out
            show _ = _
            omega
          have hsz6 : (kk ++ (⟨#[0]⟩ : ByteArray)).size ≤ 64 := by rw [HZS.out]; omega
          have HS6 := hide hsz6
          have hjT : j + P.length ≤ T.length := by omega
          have hkj1 : k + 1 ≤ j + P.length := by omega
          clear hown6 hsz6 hown5 hGm hPl
          go_wp2_with fail
          exact ⟨⟨k + 1, j + P.length, kk ++ (⟨#[0]⟩ : ByteArray), by omega, hkj1, hjT, by go_num, rfl, HS6.out, hPo, HO6.out, HNE4, ht4, hb5⟩, by simp [intOf]; omega⟩
    · omega

end Go.Proofs.Ythdempdiibjabab.Tb
