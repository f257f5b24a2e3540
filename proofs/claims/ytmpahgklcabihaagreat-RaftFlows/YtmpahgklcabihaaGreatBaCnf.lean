/- Layer 15: none of entries is ahead: isAhead, slices.IndexFunc, slices.ContainsFunc. Layer 15: what a merge changed is written: confirm. -/
import Derived.Test.YtmpahgklcabihaaGreatBaCall
namespace Go.Proofs.YtmpahgklcabihaaGreat.Ba
open Go.RowKit Go.Joins Go.Proofs.YtmpahgklcabihaaGreat.Gk
open Go.Proofs.YtmpahgklcabihaaGreat.Dk (St Bs)
open Go.Proofs.YtmpahgklcabihaaGreat.Rl (En Lo LH ER ptr blk eenc)

section
variable {bb bd : Nat} {n : Int} {S : St} {s : Bl} {X : Nat → Prop}
set_option maxRecDepth 100000 in
set_option maxHeartbeats 1000000 in
theorem isAhead_no (e : En) (w : World) (h : BB w bb bd n S s X) (he : e.t ≤ s.t) :
    Calls Tryz.prog 228 #[ptr bb, .agg #[.int .i64 e.t, .string e.d]] w fun r w' => r = .returned (.bool false) ∧ Below w.heap.size w w' := by
  obtain ⟨bl, v, c0, c1, c2, c3, c4, hl⟩ := h.cells
  have hlt := h.blt
  have he' : ¬ s.t < e.t := by omega
  clear h hl c0 c1 c3 c4
  go_enter Tryz.func228, Tryz.ntmps228
  go_wp2
  go_region_law (fail)
  all_goals
    go_wp2
    go_ret
    refine ⟨?_, ((Below.refl _ w).alloc (Nat.le_refl _) _).drew⟩
    show Ending.returned (.bool (decide (s.t < e.t))) = _
    rw [decide_eq_false (by omega)]
set_option maxRecDepth 100000 in
set_option maxHeartbeats 1000000 in
theorem index_no (a : Option Addr) (cap : Nat) (fs : List En) (w : World) (h : BB w bb bd n S s X) (hl : Gk.Lies w eenc a fs) (hn : fs.length ≤ 1048577) (he : ∀ e ∈ fs, e.t ≤ s.t) :
    Calls Tryz.prog 244 #[.slice a fs.length cap, .func (.func 228) #[ptr bb] #[]] w fun r w' => r = .returned (.int .i64 (-1)) ∧ Below w.heap.size w w' := by
  have eg := enters_of Tryz.func228 (by kernel_rfl) rfl
  go_enter Tryz.func244, Tryz.ntmps244
  go_wp2
  go_loopw [5, 8] (fun _ i wr => ∃ k : Nat, k ≤ fs.length ∧ i = .int .i64 k ∧ Below w.heap.size w wr) (fun _ i _ => fs.length - (intOf i).toNat)
  case atStart => exact ⟨0, by omega, rfl, Below.refl _ _⟩
  case round =>
    obtain ⟨k, hk, rfl, hb⟩ := hrel
    by_cases hlt : k < fs.length
    · obtain ⟨b, off, rfl, hbl, hc⟩ := (hl.below hb).at Rl.eenc_len k hlt
      have c0 := hc 0 _ rfl
      have c1 := hc 1 _ rfl
      rw [Nat.add_zero] at c0
      have hcall := isAhead_no fs[k] wr (h.below hb) (he _ (List.getElem_mem hlt))
      generalize fs[k] = x at *
      clear hc hl
      go_wp2_with fail
      refine hcall.mono ?_
      rintro r w' ⟨rfl, hb'⟩
      go_wp2
      go_roundw
      case rel => exact ⟨k + 1, by omega, by go_num, hb.trans (hb'.mono hb.size)⟩
      case measure => simp [intOf]; omega
    · go_wp2
      go_ret
      exact ⟨rfl, hb⟩
set_option maxRecDepth 100000 in
set_option maxHeartbeats 1000000 in
theorem contains_no (a : Option Addr) (cap : Nat) (fs : List En) (w : World) (h : BB w bb bd n S s X) (hl : Gk.Lies w eenc a fs) (hn : fs.length ≤ 1048577) (he : ∀ e ∈ fs, e.t ≤ s.t) :
    Calls Tryz.prog 227 #[.slice a fs.length cap, .func (.func 228) #[ptr bb] #[]] w fun r w' => r = .returned (.bool false) ∧ Below w.heap.size w w' := by
  have HI := hide (index_no a cap fs w h hl hn he)
  go_enter Tryz.func227, Tryz.ntmps227
  go_wp2_with fail
  refine HI.out.mono ?_
  rintro r w1 ⟨rfl, hb⟩
  go_wp2
  go_ret
  exact ⟨rfl, hb⟩
end
end Go.Proofs.YtmpahgklcabihaaGreat.Ba

namespace Go.Proofs.YtmpahgklcabihaaGreat.Ba
open Go.RowKit Go.Joins Go.Proofs.YtmpahgklcabihaaGreat.Gk
open Go.Proofs.YtmpahgklcabihaaGreat.Dk (St Bs)
open Go.Proofs.YtmpahgklcabihaaGreat.Rl (En Lo LH ER ptr blk eenc EnT)

theorem ls_info : (Tryz.prog.info? LsT).map (fun i => (i.zero, i.size, i.bytes)) = some (some (.slice none 0 0), 1, 24) := by kernel_rfl
theorem own_type {w : World} {B e size n : Nat} {v : Value} {xs : List Value} (h : w.ownsRow B e size v n xs) {g : Nat} (hg : v.ownBlock = some g) : g < w.heap.size ∧ ∃ cur, w.heap[g]? = some (.cells cur e (0, 0)) := by
  rcases h.2 with ⟨rfl, _⟩ | ⟨g', cap, cur, rfl, _, h2, _⟩
  · cases hg
  · cases hg; exact ⟨(Array.getElem?_eq_some_iff.1 h2).1, cur, h2⟩
/-- lists that are gathered -/
structure CL (w W : World) (v : Value) (l : List LX) : Prop where
  own : W.ownsRow w.heap.size LsT 1 v l.length (rc lenc l)
  lr : LR W l
  bel : Below w.heap.size w W
theorem CL.below {w W W' : World} {v : Value} {l : List LX} (h : CL w W v l) (hb : Below W.heap.size W W') : CL w W' v l :=
  ⟨Gk.own_below h.own hb, h.lr.below hb, h.bel.trans (hb.mono h.bel.size)⟩
theorem CL.er {w W W' : World} {v vd : Value} {l : List LX} {ds : List En} (h : CL w W v l) (hd : ER W vd ds) (hg : W.grownBy W' v.ownBlock) : ER W' vd ds :=
  hd.stay fun g hb => hg.block g (hd.lt hb) fun e => by
    obtain ⟨_, cur, hc⟩ := own_type h.own e.symm
    exact hd.ne hc (by decide) hb rfl
theorem CL.push {w W W' : World} {v v' : Value} {l : List LX} {x : LX} (h : CL w W v l) (hx : x.1.may) (hxo : W.ownsRow 0 FdT 3 (lv x) x.1.flds.length (fcells x.1.flds)) (ho : W'.ownsRow w.heap.size LsT 1 v' (l ++ [x]).length (rc lenc (l ++ [x]))) (hg : W.grownBy W' v.ownBlock) : CL w W' v' (l ++ [x]) := by
  have hl : LR W (l ++ [x]) := fun y hy => by
    rcases List.mem_append.1 hy with hy | hy
    · exact h.lr y hy
    · rw [List.mem_singleton.1 hy]; exact ⟨hx, hxo⟩
  refine ⟨ho, fun y hy => ⟨(hl y hy).1, Dk.ownsRow_stay (hl y hy).2 fun g hb => ?_⟩, h.bel.grown hg h.bel.size fun k hk => (h.own.lt k hk).1⟩
  obtain ⟨h1, cur, h2⟩ := own_type (hl y hy).2 hb
  refine hg.block g h1 fun e => ?_
  obtain ⟨_, cur', h3⟩ := own_type h.own e.symm
  rw [h2] at h3; cases h3

/-- what confirm writes -/
def cnl (i c : Nat) (es : List En) : List Rc := (if 0 < c then [Rc.ct (i + 1)] else []) ++ (es.drop i).map Rc.en
def cnf (S : St) (l : List Rc) : Nat × St := if l = [] then (0, S) else wrt S (frs l)

section
variable {bb bd : Nat} {n : Int} {S : St} {s : Bl} {X : Nat → Prop}
set_option maxRecDepth 100000 in
set_option maxHeartbeats 8000000 in
theorem confirm_any (a : Option Addr) (cap : Nat) (fs : List En) (i c : Nat) (w : World) (h : BB w bb bd n S s X) (hl : Gk.Lies w eenc a fs) (hn : fs.length ≤ 1048577) (hf : ∀ e ∈ fs, e.t ≤ s.t) (he : Es s.es) (hi : i ≤ s.es.length) (hc : c ≤ 1048577) (hsz : (frs (cnl i c s.es)).length ≤ 262144) :
    Calls Tryz.prog 195 #[ptr bb, .slice a fs.length cap, .int .i64 ((i + c : Nat) : Int), .int .i64 c] w fun r w' => r = .returned (.int .i64 (cnf S (cnl i c s.es)).1) ∧ ∃ X', BB w' bb bd n (cnf S (cnl i c s.es)).2 s X' ∧ Tu X X' w w' := by
  have HC := hide (contains_no a cap fs w h hl hn hf)
  have hm := he.many
  have w1 : IntKind.i64.wrap (((i + c : Nat) : Int) - (c : Int)) = (i : Int) := by rw [show ((i + c : Nat) : Int) - (c : Int) = i by omega]; exact wrap_in (by omega) (by omega)
  obtain ⟨j, hj⟩ : ∃ j, i + 1 = j := ⟨_, rfl⟩
  have w2 : IntKind.i64.wrap ((i : Int) + 1) = (j : Int) := by rw [wrap_in (by omega) (by omega)]; omega
  generalize hwas : i + c = was at *
  clear hl
  go_enter Tryz.func195, Tryz.ntmps195
  go_wp2_with fail
  refine HC.out.mono ?_
  rintro r w3 ⟨rfl, hb3⟩
  clear HC
  have hCL0 : CL w w3 (.slice none 0 0) [] := ⟨World.ownsRow_nil _ _ _ _, (fun x hx => by simp at hx), hb3⟩
  have HB := hide h
  refine (Classical.em (c = 0)).elim (fun hc0 => ?c1) (fun hc0 => ?c2)
  case' c1 =>
    subst hc0
    have HPRE := hide (show cnl i 0 s.es = [] ++ (s.es.drop i).map Rc.en by rfl)
    obtain ⟨bl, vl, _, _, _, _, c4, hlog⟩ := (h.below hb3).cells
    have HF := hide (from_any bl s.es vl i w3 hlog he hi)
    rw [hj] at HF
    clear h hlog
    obtain ⟨wT, HWT⟩ : ∃ wT, Hid (w3 = wT) := ⟨_, rfl⟩
    obtain ⟨lT, HLT⟩ : ∃ lT : List LX, Hid ([] = lT) := ⟨_, rfl⟩
    obtain ⟨pT, HPT⟩ : ∃ pT : List Rc, Hid ([] = pT) := ⟨_, rfl⟩
    have hrT : rcs lT = pT := by rw [← HLT.out, ← HPT.out]; rfl
    have HPL : Hid (pT.length ≤ 1) := by rw [← HPT.out]; exact Nat.zero_le _
    rw [HPT.out] at HPRE
    have hCT := hide hCL0
    rw [HLT.out] at hCT
    have HJ := hide hj
    have HRT := hide hrT
    clear hj hrT hCL0
    obtain rfl : i = was := hwas
    go_wp2_with fail
    rw [HWT.out] at HF hCT ⊢
    clear HWT c4 HLT HPT w1
  case' c2 =>
    have HCU := hide (cutList_any (i + 1) w3)
    rw [hj] at HCU
    have hcp : (0 : Int) < (c : Int) := by omega
    have hcp' : 0 < c := by omega
    have HPRE := hide (show cnl i c s.es = [Rc.ct j] ++ (s.es.drop i).map Rc.en by rw [cnl, if_pos hcp', hj])
    have HJ := hide hj
    have hjm : j ≤ 1048577 := by omega
    clear hj
    go_wp2_with fail
    refine HCU.out.mono ?_
    rintro r w4 ⟨u, rfl, ho4, hb4⟩
    clear HCU
    obtain ⟨ua, uc, rfl⟩ := own_slice ho4
    have hba := hide ((Below.refl w4.heap.size w4).alloc (Nat.le_refl _) (.cells #[.slice ua 2 uc] LsT))
    have HC5 := hide ((hCL0.below hb4).below hba.out)
    have ho5 := hide (Gk.own_below (Gk.own_mono ho4 (Nat.zero_le _)) hba.out)
    clear hCL0 ho4
    go_wp2_with (at_builtin; refine wpList_append_row (enc := lenc) (k := 1) rfl _ _ 264 rfl LsT (.slice none 0 0) 24 Tryz.underlying264 ls_info rfl (by decide) lenc_len lenc_one w.heap.size _ [] rfl HC5.out.own (some ⟨w4.heap.size, 0, none⟩) [(Rc.ct j, ua, uc)] 1 1 rfl rfl (one_lies (heap_alloc_new w4 _)) (fun e => by cases e) (by simp) (by simp) HC5.out.bel.size ?_)
    intro vT wT hown hgT hatT
    have hCL0 := HC5.out.push (x := (Rc.ct j, ua, uc)) hjm ho5.out hown hgT
    obtain ⟨lT, hlT⟩ : ∃ lT : List LX, [] ++ [(Rc.ct j, ua, uc)] = lT := ⟨_, rfl⟩
    obtain ⟨pT, hpT⟩ : ∃ pT : List Rc, [Rc.ct j] = pT := ⟨_, rfl⟩
    have HRT := hide (show rcs lT = pT by rw [← hlT, ← hpT]; rfl)
    have HPL : Hid (pT.length ≤ 1) := by rw [← hpT]; exact Nat.le_refl _
    rw [hpT] at HPRE
    rw [hlT] at hCL0
    obtain ⟨bl, vl, _, _, _, _, c4, hlog⟩ := (h.below hCL0.bel).cells
    have HF := hide (from_any bl s.es vl i wT hlog he hi)
    rw [HJ.out] at HF
    obtain ⟨aT, cT, rfl⟩ := own_slice hCL0.own
    have hCT := hide hCL0
    clear h hlog HC5 ho5 hba hown hgT hatT hb4 hlT hpT hCL0 w1 hwas
    go_wp2_with fail
    clear c4
  all_goals
    refine HF.out.mono ?_
    clear HF
    rintro r w5 ⟨vd, rfl, hd5, _, hb5⟩
    have HC6 := hide (hCT.out.below hb5)
    have HLL : Hid (lT.length ≤ 1) := by
      show _ ≤ _
      have := congrArg List.length HRT.out
      rw [List.length_map] at this
      rw [this]; exact HPL.out
    obtain ⟨ad, cd, rfl, _, hcd, hcd2⟩ := hd5.slice
    obtain ⟨ds, HDS⟩ : ∃ ds, Hid (s.es.drop i = ds) := ⟨_, rfl⟩
    have hdm : ∀ e ∈ ds, (Rc.en e).may := fun e hx => by rw [← HDS.out] at hx; exact he.each e (List.mem_of_mem_drop hx)
    have hdl : ds.length ≤ 1048576 := by rw [← HDS.out, List.length_drop]; omega
    rw [HDS.out] at hd5 HPRE hcd ⊢
    have HD5 := hide hd5
    clear hd5 hCT hf hi
    go_wp2
    go_loopw [10, 35] (fun vL ix W => ∃ k : Nat, k ≤ ds.length ∧ ix = .int .i64 k ∧ ∃ l, CL w W vL l ∧ Hid (rcs l = pT ++ (ds.take k).map Rc.en) ∧ ER W (.slice ad ds.length cd) ds ∧ l.length ≤ k + 1) (fun _ ix _ => ds.length - (intOf ix).toNat)
    case atStart => exact ⟨0, Nat.zero_le _, rfl, lT, HC6.out, by show _ = _; rw [HRT.out]; simp, HD5.out, by have := HLL.out; omega⟩
    case round =>
      clear HC6 HD5
      obtain ⟨k, hk, rfl, l, hC, hr, hd, hll⟩ := hrel
      obtain ⟨aL, cL, rfl⟩ := own_slice hC.own
      by_cases hlt : k < ds.length
      · obtain ⟨b, off, rfl, hbl, hcc⟩ := hd.lies.at Rl.eenc_len k hlt
        have c0 := hcc 0 _ rfl
        have c1 := hcc 1 _ rfl
        rw [Nat.add_zero] at c0
        have hxm := hdm _ (List.getElem_mem hlt)
        have HTK := hide (show (ds.take (k + 1)).map Rc.en = (ds.take k).map Rc.en ++ [Rc.en ds[k]] by rw [List.take_succ_eq_append_getElem hlt, List.map_append]; rfl)
        generalize ds[k] = x at *
        have HE := hide (fun W => entryList_any x W)
        have HCC := hide hC
        have HDD := hide hd
        clear hcc hC hd
        have hb6 : Below wr.heap.size wr (wr.alloc (.cells #[.int .i64 x.t, .string x.d] EnT)) := (Below.refl _ wr).alloc (Nat.le_refl _) _
        go_wp2_with fail
        refine (HE.out _).mono ?_
        rintro r w7 ⟨u, rfl, ho7, hb7⟩
        clear HE c0 c1
        obtain ⟨ux, up, rfl⟩ := own_slice ho7
        have hb8 := hide ((Below.refl w7.heap.size w7).alloc (Nat.le_refl _) (.cells #[.slice ux 3 up] LsT))
        have hb67 := hide ((hb6.trans (hb7.mono hb6.size)).trans (hb8.out.mono (Nat.le_trans hb6.size hb7.size)))
        have HC8 := hide (HCC.out.below hb67.out)
        have HD8 := hide (HDD.out.below hb67.out)
        have ho8 := hide (Gk.own_below (Gk.own_mono ho7 (Nat.zero_le _)) hb8.out)
        clear HCC HDD ho7 hb6 hb7
        go_wp2_with (at_builtin; refine wpList_append_row (enc := lenc) (k := 1) rfl _ _ 264 rfl LsT (.slice none 0 0) 24 Tryz.underlying264 ls_info rfl (by decide) lenc_len lenc_one w.heap.size _ l rfl HC8.out.own (some ⟨w7.heap.size, 0, none⟩) [(Rc.en x, ux, up)] 1 1 rfl rfl (one_lies (heap_alloc_new w7 _)) (fun e => by cases e) (by simp; omega) (by simp; omega) HC8.out.bel.size ?_)
        intro v9 w9 hown9 hg9 hat9
        have HC9 := hide (HC8.out.push (x := (Rc.en x, ux, up)) hxm ho8.out (by simpa using hown9) hg9)
        have HD9 := hide (HC8.out.er HD8.out hg9)
        obtain ⟨a9, c9, rfl⟩ := own_slice hown9
        clear hown9 hg9 hat9 HC8 HD8 ho8 hb67 hb8
        go_wp2
        go_roundw
        case rel => exact ⟨k + 1, by omega, by go_num, l ++ [(Rc.en x, ux, up)], HC9.out, by show _ = _; rw [HTK.out, ← List.append_assoc, ← hr.out]; simp [rcs], HD9.out, by simp; omega⟩
        case measure => simp [intOf]; omega
      · obtain rfl : k = ds.length := by omega
        rw [List.take_length] at hr
        have HRR := hide (show rcs l = cnl i _ s.es by rw [hr.out, ← HPRE.out])
        have HCC := hide hC
        have hlies : Gk.Lies wr lenc aL l := by
          rcases hC.own.2 with ⟨e, h0⟩ | ⟨g, cc, cur, e, _, hg, _, _, _, h4⟩
          · have : l = [] := List.eq_nil_of_length_eq_zero h0
            exact Or.inl this
          · exact (show Gk.Row wr lenc LsT 1 (.slice aL l.length cL) l from Gk.own_mono hC.own (Nat.zero_le _)).lies
        by_cases hl0 : l = []
        · have HZ := hide (show cnf S (cnl i _ s.es) = (0, S) by rw [cnf, ← HRR.out, hl0]; rfl)
          subst hl0
          have HW := hide (write_none bb aL cL wr)
          simp only [List.length_nil] at *
          clear hlies hC
          go_wp2_with fail
          refine HW.out.mono ?_
          rintro r w8 ⟨rfl, rfl⟩
          go_wp2
          go_ret
          rw [HZ.out]
          exact ⟨rfl, X, HB.out.below HCC.out.bel, Tu.of_below HCC.out.bel⟩
        · have HZ := hide (show cnf S (cnl i _ s.es) = wrt S (frs (cnl i _ s.es)) by rw [cnf, if_neg (by rw [← HRR.out]; simpa [rcs] using hl0)])
          have HW := hide (write_any bb bd n S s X aL cL l wr (HB.out.below hC.bel) hlies hC.lr hl0 (by rw [HRR.out]; exact hsz))
          rw [HRR.out] at HW
          rw [← HZ.out] at HW
          clear hlies hC
          go_wp2_with fail
          refine HW.out.mono ?_
          rintro r w8 ⟨rfl, X8, hB8, ht8⟩
          go_wp2
          go_ret
          exact ⟨rfl, X8, hB8, (Tu.of_below HCC.out.bel).trans ht8⟩
end
end Go.Proofs.YtmpahgklcabihaaGreat.Ba
