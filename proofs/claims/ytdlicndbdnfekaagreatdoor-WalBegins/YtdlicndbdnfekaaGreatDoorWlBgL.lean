/- WalBegins: for all arguments that can be read the law returns true, and all read as they did. -/
import Derived.Test.YtdlicndbdnfekaaGreatDoorWlBgP
import Derived.Test.YtdlicndbdnfekaaGreatDoorWlGos
import Derived.Test.YtdlicndbdnfekaaGreatDoorGAmong
import Derived.Deep.CutRange
import Derived.Deep.CutBlock
namespace Go.Proofs.YtdlicndbdnfekaaGreatDoor.Wl
open Go.RowKit Go.Joins
open Go.Proofs.YtdlicndbdnfekaaGreatDoor.Dk (Bs Fil Fls St St.Ok Held Only)

abbrev StrT : TypeId := 9
theorem str_inf : (Tryz.prog.info? StrT).map (fun i => (i.zero, i.size, i.bytes)) = some (some (.string ⟨#[]⟩), 1, 16) := by kernel_rfl
/-- texts lie there, and none of it is theirs -/
structure Txs (w : World) (O : Nat → Prop) (a : Option Addr) (H : List ByteArray) : Prop where
  lies : Gk.Lies w Gk.tenc a H
  no : H ≠ [] → ∀ b off, a = some ⟨b, off, none⟩ → ¬ O b
theorem Txs.step {w w' : World} {O O' : Nat → Prop} {a : Option Addr} {H : List ByteArray} (h : Txs w O a H) (hs : Stp O O' w w') : Txs w' O' a H := by
  by_cases e : H = []
  · exact ⟨Or.inl e, fun h => absurd e h⟩
  · rcases h.lies with h0 | ⟨b, off, ea, hlt, hc⟩
    · exact absurd h0 e
    · have hk := hs.block hlt (h.no e b off ea)
      refine ⟨h.lies.later (fun b' off' ea' _ => ?_) hs.only.size, fun _ b' off' ea' => ?_⟩
      · rw [ea] at ea'; cases ea'; exact hk.1
      · rw [ea] at ea'; cases ea'; exact hk.2
theorem own_none (w : World) (B : Nat) (hB : B ≤ w.heap.size) : (w.alloc (.cells #[] StrT)).ownsRow B StrT 1 (.slice (some ⟨w.heap.size, 0, none⟩) 0 0) ([] : List ByteArray).length (Gk.rc Gk.tenc []) :=
  ⟨rfl, Or.inr ⟨w.heap.size, 0, #[], rfl, hB, heap_alloc_new w _, Nat.le_refl _, by unfold maxLen; omega, by simp, by simp [Gk.rc]⟩⟩
/-- a log, the row of what may be in it, and how many of that are safe -/
structure Md (w0 w : World) (O : Nat → Prop) (bd bw most : Nat) (S : St) (l : List Sg) (m : Nat) (v : Value) (M : List ByteArray) (sure : Nat) : Prop where
  sn : Sn w0.heap.size w0 w O bd bw most S l 1 m
  beg : Beg l m M sure
  row : w.ownsRow w0.heap.size StrT 1 v M.length (Gk.rc Gk.tenc M)
  apart : ∀ g, v.ownBlock = some g → ¬ O g
section
variable {w0 w w' : World} {O O' : Nat → Prop} {bd bw most m m' sure : Nat} {S S' : St} {l l' : List Sg} {v : Value} {M : List ByteArray}
/-- something else has turned -/
theorem Sn.other {n : Nat} {P : Nat → Prop} (hT : Tab w0) (hS : Sn w0.heap.size w0 w O bd bw most S l n m) (ho : Gk.Only P w w') (hP : ∀ b, P b → ¬ O b ∧ w0.heap.size ≤ b) : Sn w0.heap.size w0 w' O bd bw most S l n m :=
  have hbas := hS.base.trans (ho.below hS.base.size fun b hb => (hP b hb).2)
  hS.stay (fun k hk hO => ho.block k hk fun e => (hP k e).1 hO) (hT.below hbas) ho.size hbas
theorem row_base {B : Nat} (h : w.ownsRow B StrT 1 v M.length (Gk.rc Gk.tenc M)) : ∀ g, v.ownBlock = some g → B ≤ g := fun g hg => (h.lt g hg).1
/-- one text more in the row -/
theorem Md.push {v' : Value} {s : ByteArray} {o : Obj} (hT : Tab w0) (hS : Sn w0.heap.size w0 w O bd bw most S l 1 m) (hv : w.ownsRow w0.heap.size StrT 1 v M.length (Gk.rc Gk.tenc M)) (hn : ∀ g, v.ownBlock = some g → ¬ O g) (hB : Beg l m (M ++ [s]) sure)
    (hv' : w'.ownsRow w0.heap.size StrT 1 v' (M ++ [s]).length (Gk.rc Gk.tenc (M ++ [s]))) (hg : (w.alloc o).grownBy w' v.ownBlock) (hat : ∀ g, v'.ownBlock = some g → v.ownBlock = some g ∨ w.heap.size + 1 ≤ g) : Md w0 w' O bd bw most S l m v' (M ++ [s]) sure := by
  have ho : Gk.Only (fun b => v.ownBlock = some b) w w' := (Gk.Only.of_below (below_alloc1 w o)).trans (Gk.Only.of_grown hg fun k hk => hk)
  refine ⟨hS.other hT ho fun b hb => ⟨hn b hb, row_base hv b hb⟩, hB, hv', fun g hg' hO => ?_⟩
  rcases hat g hg' with h | h
  · exact hn g h hO
  · have := (hS.old g hO).2
    omega
/-- the row is made -/
theorem Md.start {v' : Value} (hT : Tab w0) (hS : Sn w0.heap.size w0 w O bd bw most S l 1 m) (hB : Beg l m M sure)
    (hv' : w'.ownsRow w0.heap.size StrT 1 v' M.length (Gk.rc Gk.tenc M)) (hg : (w.alloc (.cells #[] StrT)).grownBy w' (some w.heap.size)) (hat : ∀ g, v'.ownBlock = some g → some w.heap.size = some g ∨ w.heap.size + 1 ≤ g) : Md w0 w' O bd bw most S l m v' M sure := by
  have ho : Gk.Only (fun b => b = w.heap.size) w w' := (Gk.Only.of_below (below_alloc1 w _)).trans (Gk.Only.of_grown hg fun k hk => (Option.some.inj hk).symm)
  refine ⟨hS.other hT ho fun b hb => ⟨fun hO => by have := (hS.old b hO).2; omega, by have := hS.base.size; omega⟩, hB, hv', fun g hg' hO => ?_⟩
  have := (hS.old g hO).2
  rcases hat g hg' with h | h
  · have := Option.some.inj h; omega
  · omega
theorem Md.slice (h : Md w0 w O bd bw most S l m v M sure) : ∃ a c, v = .slice a M.length c := Gk.own_slice h.row
end
/-- a beginning of a row -/
theorem lies_take {w : World} {a : Option Addr} {M : List ByteArray} (k : Nat) (h : Gk.Lies w Gk.tenc a M) : Gk.Lies w Gk.tenc a (M.take k) := by
  rcases h with rfl | ⟨b, off, ea, hlt, hc⟩
  · exact Or.inl (by simp)
  · refine Or.inr ⟨b, off, ea, hlt, fun j u hj => hc j u ?_⟩
    have e : Gk.rc Gk.tenc M = Gk.rc Gk.tenc (M.take k) ++ Gk.rc Gk.tenc (M.drop k) := by rw [← Gk.rc_append, List.take_append_drop]
    rw [e, List.getElem?_append_left (List.getElem?_eq_some_iff.1 hj).1]
    exact hj
/-- the record of a text, by its place -/
theorem num_at : ∀ (T : List ByteArray) (n j : Nat) (h : j < (num n (T.map rec1)).length) (h' : j < T.length), (num n (T.map rec1))[j] = (n + j, rec1 T[j])
  | _ :: _, n, 0, _, _ => rfl
  | _ :: T, n, j + 1, h, h' => by
    have := num_at T (n + 1) j (by simpa [num] using h) (by simpa using h')
    simp only [List.map_cons, num, List.getElem_cons_succ]
    rw [this, show n + 1 + j = n + (j + 1) by omega]

set_option maxRecDepth 100000 in
set_option maxHeartbeats 12800000 in
theorem begins_law (mo : Int) (a : Option Addr) (cap : Nat) (gs : List GoV) (w : World) (hmo : (Lit.int .i64 mo).wf = true) (hG : GosAt w a cap gs) (hT : Tab w) :
    Calls Tryz.prog 3 #[.int .i64 mo, .slice a gs.length cap] w fun e w' => e = .returned (.bool true) ∧ Below w.heap.size w w' := by
  have mixed : Tryz.prog.follows .mixedOrders = true := by kernel_rfl
  have hN := Dk.new_ok 262144 w (by omega)
  obtain ⟨m0, m1⟩ : -9223372036854775808 ≤ mo ∧ mo ≤ 9223372036854775807 := bounds_i64 hmo
  have hAm := fun W => Gk.among_any mo 100 W (by omega) (by omega) m0 m1
  obtain ⟨M, hM⟩ : ∃ M : Nat, (M : Int) = mo % 100 := ⟨(mo % 100).toNat, by omega⟩
  have hMb : M < 100 := by omega
  simp only [← hM] at hAm
  clear hM hmo m0 m1
  have hgl : gs.length ≤ 9223372036854775807 := by have := hG.room; have := hG.max; omega
  go_enter Tryz.func3, Tryz.ntmps3
  go_wp2_with fail
  refine hN.mono ?_
  rintro e w1 ⟨bd, rfl, hH1, hb1⟩
  obtain ⟨hD1, hu1⟩ := new_ds hT hH1 hb1
  have hWk := works_any w1 (hT.below hb1)
  clear hN hH1
  go_wp2_with fail
  refine hWk.mono ?_
  rintro e w2 ⟨rfl, hb2⟩
  have hD2 := hD1.below hb1.size hb2
  clear hWk
  obtain ⟨mm, hmm⟩ : ∃ mm : Nat, mm = M + 1 := ⟨_, rfl⟩
  have hmc : (1 : Int) + (M : Int) = (mm : Int) := by omega
  have hm1 : 1 ≤ mm := by omega
  have hm2 : mm ≤ 65536 := by omega
  clear hmm
  go_wp2_with (first | (go_at_call 7; refine (hAm _).mono ?_; rintro e w3 ⟨rfl, rfl⟩))
  clear hAm hD1 hb2 hb1 hMb
  clear hmc
  go_loopw [7, 8] (fun hv iv wr => ∃ (k : Nat) (O : Nat → Prop) (S : St) (l : List Sg) (H : List ByteArray) (ha : Option Addr) (hc : Nat), k ≤ gs.length ∧ iv = .int .i64 k ∧ k ≤ 10 ∧ hv = .slice ha H.length hc ∧ (ha = none → hc = 0) ∧ Ds w.heap.size w wr O bd S l 1 (H.length + 1) ∧ Up S ∧ allRecs l = H.map rec1 ∧ Txs wr O ha H ∧ H.length ≤ 20 * k) (fun _ iv _ => gs.length - (intOf iv).toNat)
  case atStart => exact ⟨0, _, _, [], [], none, 0, by omega, rfl, by omega, rfl, fun _ => rfl, hD2, hu1, rfl, ⟨Or.inl rfl, fun h => absurd rfl h⟩, by simp⟩
  case round =>
    obtain ⟨k, O, S, l, H, ha, hc, hk, rfl, hk10, rfl, hnil, hS, hu, hre, hTx, hHl⟩ := hrel
    clear hD2 hu1
    have hz := hS.base.size
    by_cases hlt : k < gs.length
    · by_cases hlt2 : k < 10
      · obtain ⟨b, off, rfl, hcs⟩ := hG.cells k hlt
        have hok := hG.each gs[k] (List.getElem_mem hlt)
        generalize gs[k] = gv at *
        have i1 : (0 : Int) ≤ (k : Int) := by omega
        have i2 : (k : Int) < (gs.length : Int) := by omega
        have i3 : (k : Int) < 10 := by omega
        have hO := hS.open (most := mm) hz hu (by omega) (by omega) (fun e => by subst e; have h2 : 1 = H.length + 1 := hS.lg.chain; omega) hm1 hm2
        have HTx := hide hTx
        have HRE := hide hre
        clear hS hTx hre hu
        go_wp2_with fail
        refine hO.mono ?_
        rintro e w3 ⟨bw, O3, S3, rfl, hS3, hu3, -, -, hst3⟩
        have hTx3 := HTx.out.step hst3
        have hNx := hS3.next
        have hSy := hS3.sync hS3.base.size
        obtain ⟨hup, hs0⟩ := up_sync hu3
        rw [hs0] at hSy
        have hHe : ((H.length + 1 : Nat) : Int) = (H.length : Int) + 1 := by omega
        rw [hHe] at hNx
        have HTx3 := hide hTx3
        clear hO hst3 HTx hTx3 hS3 hHe
        go_wp2_with fail
        refine hNx.mono ?_
        rintro e w4 ⟨rfl, rfl⟩
        clear hNx
        go_wp2_with fail
        refine hSy.mono ?_
        rintro e w5 ⟨O5, l5, rfl, hS5, hl5, hst5⟩
        obtain rfl : l5 = (opened l).map syncd := by
          rcases hl5 with ⟨_, h⟩ | ⟨h, _⟩
          · exact h
          · exact absurd h (by decide)
        have hTx5 := HTx3.out.step hst5
        have hBeg : Beg ((opened l).map syncd) (H.length + 1) H H.length := ⟨by rw [allRecs_syncd, opened_recs]; exact HRE.out, rfl, safe_syncd _ _, Nat.le_refl _⟩
        have hAf := fun W => Gk.among_any gv.fuse 40 W (by omega) (by omega) hok.f0 hok.f1
        obtain ⟨F, hF⟩ : ∃ F : Nat, (F : Int) = gv.fuse % 40 := ⟨(gv.fuse % 40).toNat, by omega⟩
        have hFb : F < 40 := by omega
        simp only [← hF] at hAf
        have q1 := (hcs w5 hS5.base).2.1
        have hFu := hS5.fuse hS5.base.size F (by omega)
        have HTx5 := hide hTx5
        have HBeg := hide hBeg
        clear hSy hl5 hst5 HTx3 hTx5 hBeg hF hup hs0 hu3
        go_wp2_with (first | (go_at_call 7; refine (hAf _).mono ?_; rintro e w3 ⟨rfl, rfl⟩))
        refine hFu.mono ?_
        rintro e w6 ⟨O6, S6, rfl, hS6, hst6⟩
        have hTx6 := HTx5.out.step hst6
        have HS6 := hide hS6
        have HTx6 := hide hTx6
        clear hFu hAf q1 hst6 HTx5 hTx6 hS6 hS5 hFb
        go_wp2_with (at_builtin; go_loud (refine Gk.wpList_append_row (enc := Gk.tenc) (k := 1) rfl (.tmp 82) (.tmp 83) 29 rfl StrT (.string ⟨#[]⟩) 16 Tryz.underlying29 str_inf rfl (by decide) Gk.tenc_len Gk.tenc_one w.heap.size _ ([] : List ByteArray) rfl (own_none w6 w.heap.size HS6.out.base.size) ha H H.length hc rfl rfl (HTx6.out.lies.below (below_alloc1 w6 _)) hnil ?c1 ?c2 ?c3 ?_))
        case c1 => simp; omega
        case c2 => simp; omega
        case c3 => have := HS6.out.base.size; simp; omega
        intro v7 w7 hv7 hg7 hat7
        have hM7 := Md.start hT HS6.out HBeg.out (by simpa using hv7) hg7 hat7
        have HM7 := hide hM7
        have htl : gv.ts.length ≤ 9223372036854775807 := by have := hok.texts.room; have := hok.texts.max; omega
        clear hv7 hg7 hat7 HS6 HTx6 HBeg hM7 hnil
        go_upto_block 2 with fail
        go_cut [11, 12] from 36 to 214 (fun sv mv wc => ∃ (O : Nat → Prop) (S : St) (l : List Sg) (m : Nat) (M : List ByteArray) (sure : Nat), sv = .int .i64 sure ∧ Md w wc O bd bw mm S l m mv M sure ∧ M.length ≤ 20 * k + 20)
        case first =>
          as_aux_lemma =>
            go_wp2_with fail
            go_loopw [11, 12, 13] (fun sv mv jv wi => ∃ (j : Nat) (O : Nat → Prop) (S : St) (l : List Sg) (m : Nat) (M : List ByteArray) (sure : Nat), j ≤ gv.ts.length ∧ jv = .int .i64 j ∧ j ≤ 20 ∧ sv = .int .i64 sure ∧ Md w wi O bd bw mm S l m mv M sure ∧ M.length ≤ 20 * k + j) (fun _ _ jv _ => gv.ts.length - (intOf jv).toNat)
            case atStart => exact ⟨0, O6, S6, _, _, H, H.length, by omega, rfl, by omega, rfl, HM7.out, by omega⟩
            case round =>
              as_aux_lemma =>
                clear HM7
                obtain ⟨j, O, S, l, m, M, sure, hj, rfl, hj20, rfl, hM, hMl⟩ := hrel
                obtain ⟨aM, cM, rfl⟩ := hM.slice
                have hz := hM.sn.base.size
                have q0 := (hcs wr hM.sn.base).1
                by_cases hin : j < gv.ts.length ∧ j < 20
                · obtain ⟨hjl, hj2⟩ := hin
                  obtain ⟨tb, toff, hla, htc⟩ := text_cell hok.texts j hjl
                  rw [hla] at q0
                  have t0 := htc wr hM.sn.base
                  generalize gv.ts[j] = tx at *
                  have j1 : (0 : Int) ≤ (j : Int) := by omega
                  have j2 : (j : Int) < (gv.ts.length : Int) := by omega
                  have j3 : (j : Int) < 20 := by omega
                  have HM := hide hM
                  by_cases hlong : tx.size ≤ 500
                  · have hl' : ¬ (500 : Int) < (tx.size : Int) := by omega
                    by_cases hemp : tx.toList.isEmpty = true
                    · have hA := hM.sn.sync hz
                      by_cases hs0 : S.sync.1 = 0
                      · rw [hs0] at hA
                        clear hM hla
                        go_wp2_with fail
                        refine hA.mono ?_
                        rintro e w5 ⟨O5, l5, rfl, hS5, hl5, hst5⟩
                        obtain rfl : l5 = l.map syncd := by
                          rcases hl5 with ⟨_, h⟩ | ⟨h, _⟩
                          · exact h
                          · exact absurd h (by decide)
                        have hr5 := hst5.row HM.out.row HM.out.apart
                        have hM5 : Md w w5 O5 bd bw mm _ (l.map syncd) m _ M M.length := ⟨hS5, HM.out.beg.synced, hr5.1, hr5.2⟩
                        clear hA hl5 hst5 hr5 hS5
                        go_wp2
                        go_roundw
                        case rel => exact ⟨j + 1, O5, _, _, m, M, M.length, by omega, by go_num, by omega, rfl, hM5, by omega⟩
                        case measure => simp [intOf]; omega
                      · rw [(sync_no hs0).2] at hA
                        clear hM hla
                        go_wp2_with fail
                        refine hA.mono ?_
                        rintro e w5 ⟨O5, l5, rfl, hS5, hl5, hst5⟩
                        obtain rfl : l5 = l := by
                          rcases hl5 with ⟨h, _⟩ | ⟨_, h⟩
                          · exact absurd h (by decide)
                          · exact h
                        have hr5 := hst5.row HM.out.row HM.out.apart
                        have hM5 : Md w w5 O5 bd bw mm _ l5 m _ M sure := ⟨hS5, HM.out.beg, hr5.1, hr5.2⟩
                        clear hA hl5 hst5 hr5 hS5
                        go_wp2
                        go_meet
                        case rel => exact ⟨O5, _, l5, m, M, sure, rfl, hM5, by omega⟩
                    · have hemb : tx.toList.isEmpty = false := by simpa using hemp
                      have hnx := hM.beg.nx
                      have hA := hM.sn.append hz hm1 (by omega) ⟨1, tx⟩ (rec_may 1 (by omega) tx hlong)
                      clear hM hla hnx
                      go_wp2_with fail
                      refine hA.mono ?_
                      rintro e w5 ⟨O5, S5, l5, m5, c5, hS5, hG5, he5, he5', hst5⟩
                      have hr5 := hst5.row HM.out.row HM.out.apart
                      have hB5 := HM.out.beg.grew (s := tx) hG5
                      have hMn : M.length ≤ 300 := by omega
                      by_cases hc : c5 = 0
                      · rw [he5 hc]
                        rw [if_pos hc] at hB5
                        have hz5 := hS5.base.size
                        clear hA he5 he5' hG5 hst5
                        go_wp2_with (at_builtin; go_loud (refine Gk.wpList_push (enc := Gk.tenc) (k := 1) rfl (.tmp 126) (.tmp 128) 29 rfl StrT (.string ⟨#[]⟩) 16 Tryz.underlying29 str_inf rfl (by decide) Gk.tenc_len Gk.tenc_one w.heap.size _ M rfl (Gk.own_below hr5.1 (below_alloc1 w5 _)) w5.heap.size tx rfl (heap_alloc_new w5 _) ?c1 ?c2 ?c3 ?_))
                        case c1 => omega
                        case c2 => omega
                        case c3 => simp; omega
                        intro v6 w6 hv6 hg6 hat6
                        have hM6 := Md.push hT hS5 hr5.1 hr5.2 hB5 (by rw [List.length_append]; exact hv6) hg6 hat6
                        clear hv6 hg6 hat6 hS5 hr5 hB5
                        go_wp2
                        go_roundw
                        case rel => exact ⟨j + 1, O5, S5, l5, m5, M ++ [tx], sure, by omega, by go_num, by omega, rfl, hM6, by rw [List.length_append, List.length_singleton]; omega⟩
                        case measure => simp [intOf]; omega
                      · rw [he5' hc]
                        rw [if_neg hc] at hB5
                        have hM5 : Md w w5 O5 bd bw mm S5 l5 m5 _ M sure := ⟨hS5, hB5, hr5.1, hr5.2⟩
                        have hbe := hS5.base
                        rcases hG5.code with h | h | h
                        · exact absurd h hc
                        · subst h
                          clear hA he5 he5' hG5 hst5 hr5 hB5 hS5
                          go_wp2
                          go_meet
                          case rel => exact ⟨O5, S5, l5, m5, M, sure, rfl, hM5, by omega⟩
                        · subst h
                          clear hA he5 he5' hG5 hst5 hr5 hB5 hS5 hM5
                          go_wp2
                          go_ret
                          exact ⟨rfl, hbe⟩
                  · have hl' : (500 : Int) < (tx.size : Int) := by omega
                    clear hM
                    go_wp2
                    go_roundw
                    case rel => exact ⟨j + 1, O, S, l, m, M, sure, by omega, by go_num, by omega, rfl, HM.out, by omega⟩
                    case measure => simp [intOf]; omega
                · have HM := hide hM
                  clear hM
                  by_cases hjl : j < gv.ts.length
                  · have j1 : (j : Int) < (gv.ts.length : Int) := by omega
                    have j3 : ¬ (j : Int) < 20 := by omega
                    go_wp2
                    go_meet
                    case rel => exact ⟨O, S, l, m, M, sure, rfl, HM.out, by omega⟩
                  · have j1 : ¬ (j : Int) < (gv.ts.length : Int) := by omega
                    go_wp2
                    go_meet
                    case rel => exact ⟨O, S, l, m, M, sure, rfl, HM.out, by omega⟩
        case rest =>
          as_aux_lemma =>
            clear HM7 HRE
            obtain ⟨O, S, l, m, M, sure, rfl, hM, hMl⟩ := hcut
            obtain ⟨aM, cM, rfl⟩ := hM.slice
            have hz := hM.sn.base.size
            have q2 := (hcs wc hM.sn.base).2.2
            have HM := hide hM
            by_cases hdl : 4096 < gv.ds.length
            · have d1 : (4096 : Int) < (gv.ds.length : Int) := by omega
              clear hM
              go_wp2
              go_ret
              exact ⟨rfl, HM.out.sn.base⟩
            · have d1 : ¬ (4096 : Int) < (gv.ds.length : Int) := by omega
              have hCr := hM.sn.crashB hM.beg rfl hok.draws (by omega)
              clear hM
              go_wp2_with fail
              refine hCr.mono ?_
              rintro e w8 ⟨O8, S8, l8, kk, rfl, hD8, hu8, hk1, hk2, hr8, hn8, hst8⟩
              have hrow8 := hst8.row HM.out.row HM.out.apart
              have hO9 := hD8.open (most := mm) hD8.base.size hu8 (by omega) (by omega) (fun e => by have := hn8 e; omega) hm1 hm2
              have HR8 := hide hrow8
              have HRE8 := hide hr8
              clear hCr hst8 hrow8 hD8 hu8 hn8 q2 hr8
              go_wp2_with fail
              refine hO9.mono ?_
              rintro e w9 ⟨bw9, O9, S9, rfl, hS9, hu9, -, -, hst9⟩
              have hrow9 := hst9.row HR8.out.1 HR8.out.2
              have hNx := hS9.next
              have hKe : ((kk + 1 : Nat) : Int) = (kk : Int) + 1 := by omega
              rw [hKe] at hNx
              have hRd := hS9.read (fr := 1) (q := kk) (by omega) (Nat.le_refl _) (by omega) (by omega)
              have hgat : (gat 1 1 (allRecs (opened l8))).take kk = num 1 ((M.take kk).map rec1) := by
                rw [gat, Nat.sub_self, List.drop_zero, opened_recs, HRE8.out, List.take_of_length_le]
                rw [num_length, List.length_map, List.length_take]; omega
              rw [hgat] at hRd
              have x1 : ¬ (kk : Int) + 1 < (sure : Int) + 1 := by omega
              have x2 : ¬ (M.length : Int) + 1 < (kk : Int) + 1 := by omega
              have x3 : (kk : Int) + 1 - 1 = (kk : Int) := by omega
              have HS9 := hide hS9
              have HR9 := hide hrow9
              have hlen : (num 1 ((M.take kk).map rec1)).length = kk := by rw [num_length, List.length_map, List.length_take]; omega
              have HRd : Hid (Calls Tryz.prog 14 #[.pointer (some ⟨bw9, 0, none⟩), .int .i64 (1 : Int), .int .i64 (kk : Int)] w9 fun e w' => ∃ a11 c11, e = .returned (.tuple #[.slice a11 kk c11, .int .i64 0]) ∧ Gk.Lies w' recE a11 (num 1 ((M.take kk).map rec1)) ∧ Below w9.heap.size w9 w') := by
                refine hRd.mono ?_
                rintro e w11 ⟨u11, rfl, ho11, hb11⟩
                obtain ⟨a11, c11, rfl, hl11⟩ := own_recs ho11
                exact ⟨a11, c11, by rw [hlen], hl11, hb11⟩
              have hform : (aM = none ∧ kk = 0 ∧ cM = 0) ∨ ∃ g, aM = some ⟨g, 0, none⟩ ∧ kk ≤ cM := by
                rcases hrow9.1.2 with ⟨e1, h0⟩ | ⟨g, cap', cur, e1, _, _, hnc, _⟩
                · simp only [Value.slice.injEq] at e1; exact Or.inl ⟨e1.1, by omega, e1.2.2⟩
                · simp only [Value.slice.injEq] at e1; exact Or.inr ⟨g, e1.1, by omega⟩
              have hEnd : Hid (∃ (O : Nat → Prop) (S : St) (l : List Sg), ∀ W, Below w9.heap.size w9 W → Ds w.heap.size w W O bd S l 1 ((M.take kk).length + 1) ∧ Up S ∧ allRecs l = (M.take kk).map rec1 ∧ Txs W O aM (M.take kk)) := by
                obtain ⟨Od, v, hDs, -, -, -, hsub⟩ := hS9.split
                refine ⟨Od, S9, opened l8, fun W hb => ⟨by rw [List.length_take, Nat.min_eq_left hk2]; exact hDs.below hDs.base.size hb, hu9, by rw [opened_recs]; exact HRE8.out, ?_⟩⟩
                have hli : Gk.Lies w9 Gk.tenc aM M := Gk.Row.lies (k := 1) (e := StrT) (n := M.length) (cap := cM) (Gk.own_mono hrow9.1 (Nat.zero_le _))
                refine ⟨lies_take kk (hli.below hb), fun hne b off ea hO => ?_⟩
                refine hrow9.2 b ?_ (hsub b hO)
                rcases hrow9.1.2 with ⟨e1, h0⟩ | ⟨g, cap', cur, e1, _⟩
                · simp only [Value.slice.injEq] at e1; rw [e1.1] at ea; cases ea
                · simp only [Value.slice.injEq] at e1; rw [e1.1] at ea ⊢; cases ea; rfl
              have HTX : Hid (Gk.Lies w9 Gk.tenc aM M) := Gk.Row.lies (k := 1) (e := StrT) (n := M.length) (cap := cM) (Gk.own_mono hrow9.1 (Nat.zero_le _))
              clear hO9 hst9 hrow9 HR8 HR9 hKe hgat HS9 hS9 hu9 HRE8 hRd HM
              rcases hform with ⟨rfl, rfl, rfl⟩ | ⟨g9, rfl, hkc⟩
              · go_wp2_with (first | (go_at_call 9; refine hNx.mono ?_; rintro e w10 ⟨rfl, rfl⟩))
                refine HRd.out.mono ?_
                rintro e w11 ⟨a11, c11, rfl, hl11, hb11⟩
                have HB11 := hide hb11
                clear HRd hNx hl11 hb11 x1 x2 x3
                go_wp2_with fail
                go_loopw [200] (fun iv wl => iv = .int .i64 0 ∧ Below w11.heap.size w11 wl) (fun _ _ => 0)
                case atStart => exact ⟨rfl, Below.refl _ _⟩
                case round =>
                  obtain ⟨rfl, hb⟩ := hrel
                  obtain ⟨Oe, Se, le, hE⟩ := hEnd.out
                  have hE' := hE wr (HB11.out.trans (hb.mono HB11.out.size))
                  have HE := hide hE'
                  clear hE hE' hb
                  go_wp2
                  go_roundw
                  case rel => exact ⟨k + 1, Oe, Se, le, M.take 0, none, 0, by omega, by go_num, by omega, by simp, (fun _ => rfl), HE.out.1, HE.out.2.1, HE.out.2.2.1, HE.out.2.2.2, by simp⟩
                  case measure => simp [intOf]; omega
              · have y1 : (0 : Int) ≤ (kk : Int) := by omega
                have y2 : (kk : Int) ≤ (cM : Int) := by omega
                go_wp2_with (first | (go_at_call 9; refine hNx.mono ?_; rintro e w10 ⟨rfl, rfl⟩))
                refine HRd.out.mono ?_
                rintro e w11 ⟨a11, c11, rfl, hl11, hb11⟩
                have HL11 := hide hl11
                have HB11 := hide hb11
                clear HRd hNx hl11 hb11 x1 x2 x3
                go_wp2_with fail
                go_loopw [200] (fun iv wl => ∃ j : Nat, j ≤ kk ∧ iv = .int .i64 j ∧ Below w11.heap.size w11 wl) (fun iv _ => kk - (intOf iv).toNat)
                case atStart => exact ⟨0, Nat.zero_le _, rfl, Below.refl _ _⟩
                case round =>
                  obtain ⟨j, hj, rfl, hb⟩ := hrel
                  by_cases hjl : j < kk
                  · have hjM : j < M.length := by omega
                    have hjT : j < (M.take kk).length := by rw [List.length_take]; omega
                    obtain ⟨b1, o1, rfl, hb1, hc1⟩ := (HL11.out.below hb).at recE_len j (by rw [hlen]; exact hjl)
                    obtain ⟨b2, o2, e2, hb2, hc2⟩ := (HTX.out.below (HB11.out.trans (hb.mono HB11.out.size))).at Gk.tenc_len j hjM
                    cases e2
                    rw [num_at (M.take kk) 1 j (by rw [hlen]; exact hjl) hjT, List.getElem_take] at hc1
                    have d0 := hc1 0 _ rfl
                    have d1' := hc1 1 _ rfl
                    have d2 := hc1 2 _ rfl
                    have d3 := hc2 0 _ rfl
                    rw [Nat.add_zero] at d0
                    rw [Nat.mul_one, Nat.add_zero, Nat.zero_add] at d3
                    generalize M[j] = tx at *
                    replace d0 : wr.cell? ⟨b1, o1 + j * 3, none⟩ = some (.int .i64 ((1 + j : Nat) : Int)) := d0
                    replace d1' : wr.cell? ⟨b1, o1 + j * 3 + 1, none⟩ = some (.int .i64 (1 : Int)) := d1'
                    replace d2 : wr.cell? ⟨b1, o1 + j * 3 + 2, none⟩ = some (.string tx) := d2
                    replace d3 : wr.cell? ⟨g9, j, none⟩ = some (.string tx) := d3
                    rw [show ((1 + j : Nat) : Int) = (j : Int) + 1 by omega] at d0
                    have j0 : (0 : Int) ≤ (j : Int) := by omega
                    have j1 : (j : Int) < (kk : Int) := by omega
                    have z1 : ((j : Int) + 1 == (j : Int) + 1) = true := by simp
                    have z3 : (tx.toList == tx.toList) = true := by simp
                    have zw : IntKind.i64.wrap ((j : Int) + 1) = (j : Int) + 1 := by rw [IntKind.wrap_i64]; omega
                    have HB := hide hb
                    obtain ⟨W, hW⟩ : ∃ W, W = wr.alloc (Obj.cells #[.int .i64 ((j : Int) + 1), .int .i64 1, .string tx] 46) := ⟨_, rfl⟩
                    have hbW : Below wr.heap.size wr W := by rw [hW]; exact below_alloc1 _ _
                    have hWb : W.heap[wr.heap.size]? = some (Obj.cells #[.int .i64 ((j : Int) + 1), .int .i64 1, .string tx] 46 (0, 0)) := by rw [hW]; exact heap_alloc_new _ _
                    have r0 : W.cell? ⟨wr.heap.size, 0, none⟩ = some (.int .i64 ((j : Int) + 1)) := by rw [cell_of_block hWb]; rfl
                    have r1 : W.cell? ⟨wr.heap.size, 1, none⟩ = some (.int .i64 1) := by rw [cell_of_block hWb]; rfl
                    have r2 : W.cell? ⟨wr.heap.size, 2, none⟩ = some (.string tx) := by rw [cell_of_block hWb]; rfl
                    have r3 : W.cell? ⟨g9, j, none⟩ = some (.string tx) := (hbW.cell (p := ⟨g9, j, none⟩) hb2).trans d3
                    have HBW : Hid (Below w11.heap.size w11 W) := HB.out.trans (hbW.mono HB.out.size)
                    clear hc1 hc2 hb hWb hbW
                    go_wp2_with fail
                    rw [← hW]
                    clear hW d0 d1' d2 d3
                    refine wp_region_quiet_lit (by kernel_rfl) (by kernel_rfl) ?_
                    refine Gk.QW.out ?_
                    repeat (refine Gk.QW.step (fun K hK => ?_); go_simp; refine hK _ ?_; clear hK K)
                    refine Gk.QW.nil ?_
                    rintro w12 ⟨nq, rfl⟩
                    have hb12 : Below w11.heap.size w11 (W.drewN nq) := HBW.out.trans (below_draws w11.heap.size W nq)
                    clear r0 r1 r2 r3
                    generalize W.drewN nq = w13 at hb12 ⊢
                    go_wp2
                    go_roundw
                    case rel => exact ⟨j + 1, by omega, by go_num, hb12⟩
                    case measure => simp [intOf]; omega
                  · obtain rfl : j = kk := by omega
                    have j1 : ¬ (j : Int) < (j : Int) := by omega
                    obtain ⟨Oe, Se, le, hE⟩ := hEnd.out
                    have hE' := hE wr (HB11.out.trans (hb.mono HB11.out.size))
                    have HE := hide hE'
                    clear hE hE' hb
                    go_wp2
                    go_roundw
                    case rel => exact ⟨k + 1, Oe, Se, le, M.take j, _, cM, by omega, by go_num, by omega, by rw [List.length_take, Nat.min_eq_left hk2], (fun e => by cases e), HE.out.1, HE.out.2.1, HE.out.2.2.1, HE.out.2.2.2, by rw [List.length_take]; omega⟩
                    case measure => simp [intOf]; omega
      · have hbe := hS.base
        have i2 : (k : Int) < (gs.length : Int) := by omega
        have i3 : ¬ (k : Int) < 10 := by omega
        go_wp2
        go_ret
        exact ⟨rfl, hbe⟩
    · have hbe := hS.base
      have i2 : ¬ (k : Int) < (gs.length : Int) := by omega
      go_wp2
      go_ret
      exact ⟨rfl, hbe⟩

end Go.Proofs.YtdlicndbdnfekaaGreatDoor.Wl
