/- Walks over skylarkref02: Crash. -/
import Derived.Test.YtokcknfbanpjjaaESync
namespace Go.Proofs.Ytokcknfbanpjjaa.Dk
open Go.RowKit Go.Maps Go.Joins Gk

theorem crashL_cons_same {p : Bs × Fil} {r : Fls} {ds : List Int} (h : p.2.data.length = p.2.safe) : crashL (p :: r) ds = p :: crashL r ds := by rw [crashL, if_pos h]
theorem crashL_cons_torn {p : Bs × Fil} {r : Fls} {ds : List Int} (h : ¬ p.2.data.length = p.2.safe) : crashL (p :: r) ds = (p.1, tornF p.2 (ds.headD 0)) :: crashL r ds.tail := by rw [crashL, if_neg h]
theorem headD_drop (ds : List Int) (j : Nat) (h : j < ds.length) : (ds.drop j).headD 0 = ds[j] := by rw [List.drop_eq_getElem_cons h]; rfl
theorem headD_none (ds : List Int) (j : Nat) (h : ds.length ≤ j) : (ds.drop j).headD 0 = 0 := by rw [List.drop_eq_nil_of_le h]; rfl
theorem tail_dropI (ds : List Int) (j : Nat) : (ds.drop j).tail = ds.drop (j + 1) := List.tail_drop
/-- one file is another one -/
theorem RHeldL.setFile {w : World} {own : Nat → Prop} {br room : Nat} {l : Fls} {g n cap : Nat} {fused : Bool} {left : Int} {down : Bool} (h : RHeldL w own br room l (.slice (some ⟨g, 0, none⟩) n cap) fused left down) (i : Nat) (hi : i < l.length) (x : Bs × Fil) : RHeldL (w.setCells g (i * 3) (rcell x)) own br room (l.set i x) (.slice (some ⟨g, 0, none⟩) n cap) fused left down :=
  ⟨((grown_setCells g (rcell x) (i * 3) w).block br h.lt (fun e => h.rowNe rfl (by simpa using e.symm))).trans h.block, h.rrow.set rcell_len i hi x, h.ownD, h.ownR⟩

set_option maxHeartbeats 6400000 in
set_option maxRecDepth 100000 in
theorem rCrash_any {own : Nat → Prop} {br : Nat} {S : St} (w : World) (h : RHeld w own br S) (_hfr : Fresh own w) (a : Option Addr) (cap : Nat) (ds : List Int) (hd : LiesI w own a ds) (_hn : ds.length ≤ cap) (hz : a = none → cap = 0) (_hc : cap ≤ 9223372036854775807) (hr : ∀ x ∈ ds, -9223372036854775808 ≤ x ∧ x ≤ 9223372036854775807) :
    Calls Try.prog 25 #[.pointer (some ⟨br, 0, none⟩), .slice a ds.length cap] w fun e w' => e = .returned (.int .i64 (S.crash ds).1) ∧ RHeld w' own br (S.crash ds).2 ∧ Only own w w' := by
  obtain ⟨v, fused, left, hL, hF, hok⟩ := h
  have HOK := hide (hok.crash ds)
  obtain ⟨av, cv, rfl⟩ := own_slice hL.row
  have hmany := hok.many
  by_cases hlong : 4096 < ds.length
  · have hv : S.crash ds = (2, S) := by simp [St.crash, hlong]
    rw [hv]
    have HL := hide hL
    have hlong' : (4096 : Int) < (ds.length : Int) := by omega
    clear HOK hL
    go_enter Try.func25, Try.ntmps25
    go_wp2
    go_ret
    exact ⟨rfl, ⟨_, fused, left, HL.out, hF, hok⟩, Only.refl _ _⟩
  · have hv : S.crash ds = (0, { S with files := crashL S.files ds, fuse := -1, down := false }) := by simp [St.crash, hlong]
    rw [hv] at HOK ⊢
    have hlong' : ¬ (4096 : Int) < (ds.length : Int) := by omega
    have heach : ∀ p ∈ S.files, p.2.safe ≤ p.2.data.length ∧ p.2.data.length ≤ 262144 := fun p hp => by
      have h2 := hok.each _ hp
      have h3 := le_sumL' (fun f : Fil => f.data.length) hp
      have h4 := hok.sum
      have h5 := hok.room
      simp only [used] at *
      exact ⟨h2.2, by omega⟩
    have hF' : FuseIs (-1) false left := ⟨by simp, by simp, hF.lo, hF.hi⟩
    have c2 := hL.c2
    have c4 := hL.c4
    have z2 := hL.fz 2
    have z4 := hL.fz 4
    have hL1 := (hL.set (i := 2) (u := .bool false) (fused' := false) (left' := left) (down' := S.down) rfl).set (i := 4) (u := .bool false) (fused' := false) (left' := left) (down' := false) rfl
    have hO1 : Only own w ((w.setCell ⟨br, 2, none⟩ (.bool false)).setCell ⟨br, 4, none⟩ (.bool false)) := (Only.of_set w hL.ownD _).trans (Only.of_set _ hL.ownD _)
    obtain ⟨W, hW⟩ : ∃ W, W = (w.setCell ⟨br, 2, none⟩ (.bool false)).setCell ⟨br, 4, none⟩ (.bool false) := ⟨_, rfl⟩
    rw [← hW] at hL1 hO1
    obtain ⟨C, hC⟩ : ∃ C, C = crashL S.files ds := ⟨_, rfl⟩
    rw [← hC] at HOK ⊢
    have HC := hide hC
    have HD := hide hd
    have HL1 := hide hL1
    have HO1 := hide hO1
    clear hv hL hC hL1 hO1 hd hF
    go_enter Try.func25, Try.ntmps25
    go_wp2
    rw [← hW]
    clear hW c2 c4 z2 z4
    have hCs : [] ++ crashL (S.files.drop 0) (ds.drop 0) = C := by rw [HC.out]; rfl
    go_loopw [5, 6] (fun av' i wr => ∃ (k j : Nat) (A : Fls), k ≤ S.files.length ∧ j ≤ k ∧ i = .int .i64 k ∧ av' = .int .i64 j ∧ A.length = k ∧ RHeldL wr own br S.room (A ++ S.files.drop k) (.slice av S.files.length cv) false left false ∧ Hid (A ++ crashL (S.files.drop k) (ds.drop j) = C) ∧ Only own w wr) (fun _ i _ => S.files.length - (intOf i).toNat)
    case atStart => exact ⟨0, 0, [], by omega, by omega, rfl, rfl, rfl, HL1.out, hCs, HO1.out⟩
    case round =>
      obtain ⟨k, j, A, hk, hjk, rfl, rfl, hA, hh, HCr, ho⟩ := hrel
      clear hCs HC
      have HH := hide hh
      have c1 := HH.out.c1
      have hlenA : (A ++ S.files.drop k).length = S.files.length := by rw [List.length_append, List.length_drop, hA]; omega
      clear hh
      by_cases hlt : k < S.files.length
      · have i1 : (0 : Int) ≤ (k : Int) := by omega
        have i2 : (k : Int) < (S.files.length : Int) := by omega
        have hkl : k < (A ++ S.files.drop k).length := by rw [hlenA]; exact hlt
        obtain ⟨⟨key, f⟩, hx⟩ : ∃ x, S.files[k] = x := ⟨_, rfl⟩
        have hdrop : S.files.drop k = (key, f) :: S.files.drop (k + 1) := by rw [List.drop_eq_getElem_cons hlt, hx]
        have hat : (A ++ S.files.drop k)[k]'hkl = (key, f) := by
          rw [List.getElem_append_right (by omega)]
          simp [hA, hx]
        have hset : ∀ x, (A ++ S.files.drop k).set k x = (A ++ [x]) ++ S.files.drop (k + 1) := fun x => by
          rw [List.set_append_right _ _ (by omega), hA, Nat.sub_self, hdrop]; simp
        obtain ⟨g, cap', eg, r0, r1, r2⟩ := HH.out.at k hkl
        rw [hlenA] at eg
        cases eg
        rw [hat] at r0 r1 r2
        simp only at r0 r1 r2
        have hsf := heach _ (List.getElem_mem hlt)
        rw [hx] at hsf
        simp only at hsf
        have hbl := HH.out.lt
        have hgl := HH.out.rowLt (g := g) rfl
        have hbn : br ≠ wr.heap.size := by omega
        obtain ⟨nm, hnm⟩ : ∃ nm, txt key = nm := ⟨_, rfl⟩
        obtain ⟨dt, hdt⟩ : ∃ dt, txt f.data = dt := ⟨_, rfl⟩
        have hsz : dt.size = f.data.length := by rw [← hdt, Lib.size_eq, txt_list]
        rw [hnm] at r0
        rw [hdt] at r1
        clear hx hat
        by_cases htl : f.data.length = f.safe
        · have hT : (f.data.length : Int) - (f.safe : Int) = 0 := by omega
          have HE := hide (show (A ++ [(key, f)]) ++ crashL (S.files.drop (k + 1)) (ds.drop j) = C by
            rw [← HCr.out, hdrop, crashL_cons_same htl]; simp)
          have HS := hide (HH.out.below (below_alloc1 wr (.cells #[.string nm, .string dt, .int .i64 f.safe] RFil)))
          have HO := hide (ho.trans (Only.of_below (below_alloc1 wr (.cells #[.string nm, .string dt, .int .i64 f.safe] RFil))))
          rw [hdrop] at HS
          clear hset HH hdrop ho
          go_wp2
          go_roundw
          case rel => exact ⟨k + 1, j, A ++ [(key, f)], by omega, by omega, by go_num, rfl, by simp [hA], by simpa using HS.out, HE, HO.out⟩
          case measure => simp [intOf]; omega
        · obtain ⟨T, hTd⟩ : ∃ T : Nat, T = f.data.length - f.safe := ⟨_, rfl⟩
          have hT : (f.data.length : Int) - (f.safe : Int) = (T : Int) := by omega
          have hT0 : ((T : Int) == 0) = false := by rw [beq_eq_false_iff_ne]; omega
          have hT1 : (T : Int) ≤ 262144 := by omega
          obtain ⟨kp, hkp⟩ : ∃ kp, keptOf ((ds.drop j).headD 0) (f.data.length - f.safe) = kp := ⟨_, rfl⟩
          have hkl2 : kp ≤ T := by rw [← hkp, hTd]; exact keptOf_le _ _
          obtain ⟨m, hmd⟩ : ∃ m, m = f.safe + kp := ⟨_, rfl⟩
          have j0 : (0 : Int) ≤ (j : Int) := by omega
          by_cases hj : j < ds.length
          · have j1 : (j : Int) < (ds.length : Int) := by omega
            rcases HD.out.only ho with h0 | ⟨b, off, rfl, hbb, hnb, hcd⟩
            · rw [h0] at hj; simp at hj
            · have cd := hcd j hj
              have hbd := hr _ (List.getElem_mem hj)
              have hgb : b ≠ wr.heap.size := by omega
              rw [headD_drop ds j hj] at hkp
              obtain ⟨d, hde⟩ : ∃ d, ds[j] = d := ⟨_, rfl⟩
              rw [hde] at cd hbd hkp
              have hdh : (ds.drop j).headD 0 = d := by rw [headD_drop ds j hj, hde]
              rw [← hdh] at hkp
              clear hcd
              by_cases hd0 : 0 ≤ d
              · have hkv : (kp : Int) = d % ((T : Int) + 1) := by
                  rw [hdh] at hkp
                  rw [← hkp, ← hTd]
                  unfold keptOf
                  have h1 := Int.emod_nonneg d (show (T : Int) + 1 ≠ 0 by omega)
                  split
                  · omega
                  · have : d = 0 := by omega
                    subst this; simp
                have htm : Int.tmod d ((T : Int) + 1) = (kp : Int) := by rw [Int.tmod_eq_emod_of_nonneg hd0, hkv]
                have hne : ((T : Int) + 1 == 0) = false := by rw [beq_eq_false_iff_ne]; omega
                have hne' : (T : Int) + 1 ≠ 0 := by omega
                have HDH := hide hdh
                have hem : d % ((T : Int) + 1) = (kp : Int) := hkv.symm
                have HTd := hide hTd
                clear hkv hde hdh hTd
                have hm : (f.safe : Int) + (kp : Int) = (m : Int) := by rw [hmd]; omega
                have hml : m ≤ f.data.length := by omega
                have hm0 : (0 : Int) ≤ (m : Int) := by omega
                have hm1 : (m : Int) ≤ (f.data.length : Int) := by omega
                have hes : (dt.extract 0 m).size = m := by rw [ByteArray.size_extract, hsz]; omega
                have HD4 := hide (show txt (f.data.take m) = dt.extract 0 m by rw [← hdt, txt_cut])
                have HX' := hide (show (key, tornF f ((ds.drop j).headD 0)) = (key, ⟨f.data.take m, m⟩) by rw [hmd, ← hkp]; rfl)
                clear hkp hmd
                go_wp2_with fail
                obtain ⟨X, hX⟩ : ∃ X, X = wr.alloc (.cells #[.string nm, .string (dt.extract 0 m), .int .i64 m] RFil) := ⟨_, rfl⟩
                have hbX : Below wr.heap.size wr X := by rw [hX]; exact below_alloc1 _ _
                have hAX : X.heap[wr.heap.size]? = some (.cells #[.string nm, .string (dt.extract 0 m), .int .i64 m] RFil (0, 0)) := by rw [hX]; exact heap_alloc_new wr _
                rw [← hX]
                clear hX
                have HHX := hide (HH.out.below hbX)
                have e1 := HHX.out.c1
                have f0 : X.cell? ⟨wr.heap.size, 0, none⟩ = some (.string nm) := cell_of_block hAX 0
                have f1 : X.cell? ⟨wr.heap.size, 1, none⟩ = some (.string (dt.extract 0 m)) := cell_of_block hAX 1
                have f2 : X.cell? ⟨wr.heap.size, 2, none⟩ = some (.int .i64 m) := cell_of_block hAX 2
                obtain ⟨g', cap', eg, q0, q1, q2⟩ := HHX.out.at k hkl
                rw [hlenA] at eg
                cases eg
                have zg : ∀ q, X.frozen? ⟨g, q, none⟩ = false := fun q => by
                  obtain ⟨a, c, cur, e, hg, _⟩ := Gk.own_form HHX.out.row (by omega)
                  rw [hlenA] at e
                  cases e
                  exact unfrozen_of_block hg _
                have z0 := zg (k * 3)
                have z1 := zg (k * 3 + 1)
                have z2 := zg (k * 3 + 2)
                have hgne : g ≠ wr.heap.size := by have := HH.out.rowLt (g := g) rfl; omega
                have hgne' : wr.heap.size ≠ g := Ne.symm hgne
                have hbne : br ≠ g := Ne.symm (HHX.out.rowNe (g := g) rfl)
                have hs := (HHX.out.setFile k hkl (key, ⟨f.data.take m, m⟩)).below (Below.refl _ _).drew
                have hc3 : rcell (key, ⟨f.data.take m, m⟩) = [.string nm, .string (dt.extract 0 m), .int .i64 m] := by rw [← hnm, ← HD4.out]; rfl
                rw [hc3, hset] at hs
                have hsw : X.setCells g (k * 3) [.string nm, .string (dt.extract 0 m), .int .i64 m] = ((X.setCell ⟨g, k * 3, none⟩ (.string nm)).setCell ⟨g, k * 3 + 1, none⟩ (.string (dt.extract 0 m))).setCell ⟨g, k * 3 + 2, none⟩ (.int .i64 m) := rfl
                rw [hsw] at hs
                have hOs : Only own X (((X.setCell ⟨g, k * 3, none⟩ (.string nm)).setCell ⟨g, k * 3 + 1, none⟩ (.string (dt.extract 0 m))).setCell ⟨g, k * 3 + 2, none⟩ (.int .i64 m)) := ((Only.of_set X (a := ⟨g, k * 3, none⟩) (HHX.out.ownR g rfl) _).trans (Only.of_set _ (a := ⟨g, k * 3 + 1, none⟩) (HHX.out.ownR g rfl) _)).trans (Only.of_set _ (a := ⟨g, k * 3 + 2, none⟩) (HHX.out.ownR g rfl) _)
                have HS := hide hs
                have HO := hide (((ho.trans (Only.of_below hbX)).trans hOs).trans (Only.of_below (Below.refl _ _).drew))
                have HE := hide (show (A ++ [(key, ⟨f.data.take m, m⟩)]) ++ crashL (S.files.drop (k + 1)) (ds.drop (j + 1)) = C by
                  rw [← HCr.out, hdrop, crashL_cons_torn htl, tail_dropI, HX'.out]; simp)
                clear hs hsw hOs hc3 hset zg ho hbX hAX
                go_region_law (fail)
                all_goals
                  go_wp2
                  go_roundw
                  case rel => exact ⟨k + 1, j + 1, A ++ [(key, ⟨f.data.take m, m⟩)], by omega, by omega, by go_num, by go_num, by simp [hA], by simpa using HS.out, HE, HO.out⟩
                  case measure => simp [intOf]; omega
              · have hkv : kp = 0 := by
                  rw [hdh] at hkp
                  rw [← hkp]; unfold keptOf; rw [if_neg (by omega)]
                subst hkv
                have hd0' : ¬ (0 : Int) ≤ d := hd0
                have HDH := hide hdh
                have HTd := hide hTd
                clear hde hdh hTd
                have hm : (f.safe : Int) = (m : Int) := by rw [hmd]; omega
                have hml : m ≤ f.data.length := by omega
                have hm0 : (0 : Int) ≤ (m : Int) := by omega
                have hm1 : (m : Int) ≤ (f.data.length : Int) := by omega
                have hes : (dt.extract 0 m).size = m := by rw [ByteArray.size_extract, hsz]; omega
                have HD4 := hide (show txt (f.data.take m) = dt.extract 0 m by rw [← hdt, txt_cut])
                have HX' := hide (show (key, tornF f ((ds.drop j).headD 0)) = (key, ⟨f.data.take m, m⟩) by unfold tornF; rw [hkp, hmd])
                clear hkp hmd
                go_wp2_with fail
                obtain ⟨X, hX⟩ : ∃ X, X = wr.alloc (.cells #[.string nm, .string (dt.extract 0 m), .int .i64 m] RFil) := ⟨_, rfl⟩
                have hbX : Below wr.heap.size wr X := by rw [hX]; exact below_alloc1 _ _
                have hAX : X.heap[wr.heap.size]? = some (.cells #[.string nm, .string (dt.extract 0 m), .int .i64 m] RFil (0, 0)) := by rw [hX]; exact heap_alloc_new wr _
                rw [← hX]
                clear hX
                have HHX := hide (HH.out.below hbX)
                have e1 := HHX.out.c1
                have f0 : X.cell? ⟨wr.heap.size, 0, none⟩ = some (.string nm) := cell_of_block hAX 0
                have f1 : X.cell? ⟨wr.heap.size, 1, none⟩ = some (.string (dt.extract 0 m)) := cell_of_block hAX 1
                have f2 : X.cell? ⟨wr.heap.size, 2, none⟩ = some (.int .i64 m) := cell_of_block hAX 2
                obtain ⟨g', cap', eg, q0, q1, q2⟩ := HHX.out.at k hkl
                rw [hlenA] at eg
                cases eg
                have zg : ∀ q, X.frozen? ⟨g, q, none⟩ = false := fun q => by
                  obtain ⟨a, c, cur, e, hg, _⟩ := Gk.own_form HHX.out.row (by omega)
                  rw [hlenA] at e
                  cases e
                  exact unfrozen_of_block hg _
                have z0 := zg (k * 3)
                have z1 := zg (k * 3 + 1)
                have z2 := zg (k * 3 + 2)
                have hgne : g ≠ wr.heap.size := by have := HH.out.rowLt (g := g) rfl; omega
                have hgne' : wr.heap.size ≠ g := Ne.symm hgne
                have hbne : br ≠ g := Ne.symm (HHX.out.rowNe (g := g) rfl)
                have hs := (HHX.out.setFile k hkl (key, ⟨f.data.take m, m⟩)).below (Below.refl _ _).drew
                have hc3 : rcell (key, ⟨f.data.take m, m⟩) = [.string nm, .string (dt.extract 0 m), .int .i64 m] := by rw [← hnm, ← HD4.out]; rfl
                rw [hc3, hset] at hs
                have hsw : X.setCells g (k * 3) [.string nm, .string (dt.extract 0 m), .int .i64 m] = ((X.setCell ⟨g, k * 3, none⟩ (.string nm)).setCell ⟨g, k * 3 + 1, none⟩ (.string (dt.extract 0 m))).setCell ⟨g, k * 3 + 2, none⟩ (.int .i64 m) := rfl
                rw [hsw] at hs
                have hOs : Only own X (((X.setCell ⟨g, k * 3, none⟩ (.string nm)).setCell ⟨g, k * 3 + 1, none⟩ (.string (dt.extract 0 m))).setCell ⟨g, k * 3 + 2, none⟩ (.int .i64 m)) := ((Only.of_set X (a := ⟨g, k * 3, none⟩) (HHX.out.ownR g rfl) _).trans (Only.of_set _ (a := ⟨g, k * 3 + 1, none⟩) (HHX.out.ownR g rfl) _)).trans (Only.of_set _ (a := ⟨g, k * 3 + 2, none⟩) (HHX.out.ownR g rfl) _)
                have HS := hide hs
                have HO := hide (((ho.trans (Only.of_below hbX)).trans hOs).trans (Only.of_below (Below.refl _ _).drew))
                have HE := hide (show (A ++ [(key, ⟨f.data.take m, m⟩)]) ++ crashL (S.files.drop (k + 1)) (ds.drop (j + 1)) = C by
                  rw [← HCr.out, hdrop, crashL_cons_torn htl, tail_dropI, HX'.out]; simp)
                clear hs hsw hOs hc3 hset zg ho hbX hAX
                go_region_law (fail)
                all_goals
                  go_wp2
                  go_roundw
                  case rel => exact ⟨k + 1, j + 1, A ++ [(key, ⟨f.data.take m, m⟩)], by omega, by omega, by go_num, by go_num, by simp [hA], by simpa using HS.out, HE, HO.out⟩
                  case measure => simp [intOf]; omega
          · have j1 : ¬ (j : Int) < (ds.length : Int) := by omega
            have hkv : kp = 0 := by
              rw [headD_none ds j (by omega)] at hkp
              rw [← hkp]; rfl
            subst hkv
            have HTd := hide hTd
            clear hTd
            have hm : (f.safe : Int) = (m : Int) := by rw [hmd]; omega
            have hml : m ≤ f.data.length := by omega
            have hm0 : (0 : Int) ≤ (m : Int) := by omega
            have hm1 : (m : Int) ≤ (f.data.length : Int) := by omega
            have hes : (dt.extract 0 m).size = m := by rw [ByteArray.size_extract, hsz]; omega
            have HD4 := hide (show txt (f.data.take m) = dt.extract 0 m by rw [← hdt, txt_cut])
            have HX' := hide (show (key, tornF f ((ds.drop j).headD 0)) = (key, ⟨f.data.take m, m⟩) by unfold tornF; rw [hkp, hmd])
            clear hkp hmd
            go_wp2_with fail
            obtain ⟨X, hX⟩ : ∃ X, X = wr.alloc (.cells #[.string nm, .string (dt.extract 0 m), .int .i64 m] RFil) := ⟨_, rfl⟩
            have hbX : Below wr.heap.size wr X := by rw [hX]; exact below_alloc1 _ _
            have hAX : X.heap[wr.heap.size]? = some (.cells #[.string nm, .string (dt.extract 0 m), .int .i64 m] RFil (0, 0)) := by rw [hX]; exact heap_alloc_new wr _
            rw [← hX]
            clear hX
            have HHX := hide (HH.out.below hbX)
            have e1 := HHX.out.c1
            have f0 : X.cell? ⟨wr.heap.size, 0, none⟩ = some (.string nm) := cell_of_block hAX 0
            have f1 : X.cell? ⟨wr.heap.size, 1, none⟩ = some (.string (dt.extract 0 m)) := cell_of_block hAX 1
            have f2 : X.cell? ⟨wr.heap.size, 2, none⟩ = some (.int .i64 m) := cell_of_block hAX 2
            obtain ⟨g', cap', eg, q0, q1, q2⟩ := HHX.out.at k hkl
            rw [hlenA] at eg
            cases eg
            have zg : ∀ q, X.frozen? ⟨g, q, none⟩ = false := fun q => by
              obtain ⟨a, c, cur, e, hg, _⟩ := Gk.own_form HHX.out.row (by omega)
              rw [hlenA] at e
              cases e
              exact unfrozen_of_block hg _
            have z0 := zg (k * 3)
            have z1 := zg (k * 3 + 1)
            have z2 := zg (k * 3 + 2)
            have hgne : g ≠ wr.heap.size := by have := HH.out.rowLt (g := g) rfl; omega
            have hgne' : wr.heap.size ≠ g := Ne.symm hgne
            have hbne : br ≠ g := Ne.symm (HHX.out.rowNe (g := g) rfl)
            have hs := (HHX.out.setFile k hkl (key, ⟨f.data.take m, m⟩)).below (Below.refl _ _).drew
            have hc3 : rcell (key, ⟨f.data.take m, m⟩) = [.string nm, .string (dt.extract 0 m), .int .i64 m] := by rw [← hnm, ← HD4.out]; rfl
            rw [hc3, hset] at hs
            have hsw : X.setCells g (k * 3) [.string nm, .string (dt.extract 0 m), .int .i64 m] = ((X.setCell ⟨g, k * 3, none⟩ (.string nm)).setCell ⟨g, k * 3 + 1, none⟩ (.string (dt.extract 0 m))).setCell ⟨g, k * 3 + 2, none⟩ (.int .i64 m) := rfl
            rw [hsw] at hs
            have hOs : Only own X (((X.setCell ⟨g, k * 3, none⟩ (.string nm)).setCell ⟨g, k * 3 + 1, none⟩ (.string (dt.extract 0 m))).setCell ⟨g, k * 3 + 2, none⟩ (.int .i64 m)) := ((Only.of_set X (a := ⟨g, k * 3, none⟩) (HHX.out.ownR g rfl) _).trans (Only.of_set _ (a := ⟨g, k * 3 + 1, none⟩) (HHX.out.ownR g rfl) _)).trans (Only.of_set _ (a := ⟨g, k * 3 + 2, none⟩) (HHX.out.ownR g rfl) _)
            have HS := hide hs
            have HO := hide (((ho.trans (Only.of_below hbX)).trans hOs).trans (Only.of_below (Below.refl _ _).drew))
            have HE := hide (show (A ++ [(key, ⟨f.data.take m, m⟩)]) ++ crashL (S.files.drop (k + 1)) (ds.drop (j + 1)) = C by
              rw [← HCr.out, hdrop, crashL_cons_torn htl, tail_dropI, HX'.out]; simp)
            clear hs hsw hOs hc3 hset zg ho hbX hAX
            go_region_law (fail)
            all_goals
              go_wp2
              go_roundw
              case rel => exact ⟨k + 1, j + 1, A ++ [(key, ⟨f.data.take m, m⟩)], by omega, by omega, by go_num, by go_num, by simp [hA], by simpa using HS.out, HE, HO.out⟩
              case measure => simp [intOf]; omega
      · obtain rfl : k = S.files.length := by omega
        have hCe : A = C := by have := HCr.out; rw [List.drop_length] at this; simpa [crashL] using this
        have hhe := HH.out
        rw [List.drop_length, List.append_nil, hCe] at hhe
        go_wp2
        go_ret
        exact ⟨rfl, ⟨_, false, left, hhe, hF', HOK.out⟩, ho⟩

end Go.Proofs.Ytokcknfbanpjjaa.Dk
