/- The walk over disk.go: Crash. -/
import Derived.Test.YtokcknfbanpjjaaDSync
namespace Go.Proofs.Ytokcknfbanpjjaa.Dk
open Go.RowKit Go.Maps Go.Joins

/-- the numbers of a slice lie behind its address, in no block that is owned -/
def LiesI (w : World) (own : Nat → Prop) (a : Option Addr) (ds : List Int) : Prop := ds = [] ∨ ∃ b off, a = some ⟨b, off, none⟩ ∧ b < w.heap.size ∧ ¬ own b ∧ ∀ i (h : i < ds.length), w.cell? ⟨b, off + i, none⟩ = some (.int .i64 ds[i])
theorem LiesI.only {w w' : World} {own : Nat → Prop} {a : Option Addr} {ds : List Int} (h : LiesI w own a ds) (ho : Only own w w') : LiesI w' own a ds := by
  rcases h with rfl | ⟨b, off, rfl, hlt, hn, hl⟩
  · exact Or.inl rfl
  · exact Or.inr ⟨b, off, rfl, Nat.lt_of_lt_of_le hlt ho.size, hn, fun i hi => (World.cell?_of_block (a := ⟨b, off + i, none⟩) (ho.block b hlt hn)).trans (hl i hi)⟩

theorem fu_set {w : World} {own : Nat → Prop} {bd bm room : Nat} {l : List (Bs × Ent)} {fuse : Int} {down : Bool} (h : HeldL w own bd bm room l fuse down) : HeldL ((w.setCell ⟨bd, 2, none⟩ (.int .i64 (-1))).setCell ⟨bd, 3, none⟩ (.bool false)) own bd bm room l (-1) false :=
  Base.set (Base.set h (i := 2) (u := .int .i64 (-1)) (fuse' := -1) (down' := down) rfl) (i := 3) (u := .bool false) (fuse' := -1) (down' := false) rfl

abbrev strip (p : Bs × Ent) : Bs × Fil := (p.1, p.2.2)
theorem torn_len {f : Fil} {draw : Int} (h : f.safe ≤ f.data.length) : (tornF f draw).data.length = f.safe + keptOf draw (f.data.length - f.safe) := by
  have := keptOf_le draw (f.data.length - f.safe)
  simp only [tornF, List.length_take]; omega
theorem names_stay {wr w6 w7 : World} {B e bm nn : Nat} {D : DataW Value} {v : Value} {n : Nat} {xs : List Value} (ho : wr.ownsRow B e 1 v n xs) (hm : wr.ownsMap Try.prog 9 RV bm nn D) (hb : Below wr.heap.size wr w6) (ht : w6.mapTurned w7 bm) : w7.ownsRow B e 1 v n xs :=
  ownsRow_stay ho fun g' hg' => (ht.grown.block g' (Nat.lt_of_lt_of_le (ho.lt g' hg').2 hb.size) (fun e => by
    cases e
    rcases ho.2 with ⟨e1, _⟩ | ⟨g2, _, cur, e1, _, hc2, _⟩
    · rw [e1] at hg'; simp [Value.ownBlock] at hg'
    · rw [e1] at hg'
      simp only [Value.ownBlock, Option.some.injEq] at hg'
      obtain ⟨es, clock, hbb, _⟩ := hm
      rw [← hg', hc2] at hbb
      cases hbb)).trans (hb.block g' (ho.lt g' hg').2)

set_option maxHeartbeats 6400000 in
set_option maxRecDepth 100000 in
theorem crash_any {own : Nat → Prop} {bd : Nat} {S : St} (w : World) (h : Held w own bd S) (a : Option Addr) (cap : Nat) (ds : List Int) (hd : LiesI w own a ds) (hn : ds.length ≤ cap) (hz : a = none → cap = 0) (hc : cap ≤ 9223372036854775807) (hr : ∀ x ∈ ds, -9223372036854775808 ≤ x ∧ x ≤ 9223372036854775807) :
    Calls Try.prog 24 #[.pointer (some ⟨bd, 0, none⟩), .slice a ds.length cap] w fun e w' => e = .returned (.int .i64 (S.crash ds).1) ∧ Held w' own bd (S.crash ds).2 ∧ Only own w w' := by
  have HOK := hide (h.ok.crash ds)
  by_cases hlong : 4096 < ds.length
  · have hv : S.crash ds = (2, S) := by simp [St.crash, hlong]
    rw [hv]
    clear HOK
    go_enter Try.func24, Try.ntmps24
    go_wp2
    go_ret
    exact ⟨rfl, h, Only.refl _ _⟩
  · have hv : S.crash ds = (0, { S with files := crashL S.files ds, fuse := -1, down := false }) := by simp [St.crash, hlong]
    rw [hv] at HOK ⊢
    obtain ⟨bm, l, hL, hfl, hok⟩ := h
    have hmany : l.length ≤ 64 := by have := hok.many; rw [hfl, List.length_map] at this; exact this
    have heach : ∀ p ∈ l, named p.1 = true ∧ p.2.2.safe ≤ p.2.2.data.length ∧ p.2.2.data.length ≤ 262144 := fun p hp => by
      have h1 : (p.1, p.2.2) ∈ S.files := by rw [hfl]; exact List.mem_map.2 ⟨p, hp, rfl⟩
      have h2 := hok.each _ h1
      have h3 := le_sumL' (fun f : Fil => f.data.length) h1
      have h4 := hok.sum
      have h5 := hok.room
      simp only [used] at *
      exact ⟨h2.1, h2.2, by omega⟩
    have HFL := hide hfl
    clear hfl hv
    have c2 := hL.base.c2
    have c3 := hL.base.c3
    have z2 := hL.base.fz 2
    have z3 := hL.base.fz 3
    have hL1 := fu_set hL
    have hO1 : Only own w ((w.setCell ⟨bd, 2, none⟩ (.int .i64 (-1))).setCell ⟨bd, 3, none⟩ (.bool false)) := (Only.of_set w hL.base.ownD _).trans (Only.of_set _ hL.base.ownD _)
    go_enter Try.func24, Try.ntmps24
    go_wp2_with fail
    obtain ⟨W, hW⟩ : ∃ W, W = (w.setCell ⟨bd, 2, none⟩ (.int .i64 (-1))).setCell ⟨bd, 3, none⟩ (.bool false) := ⟨_, rfl⟩
    rw [← hW] at hL1 hO1 ⊢
    clear hW c2 c3 z2 z3
    have hRi := rising_any W hL1.base hmany
    refine hRi.mono ?_
    rintro e w4 ⟨v, rfl, hown4, hb4⟩
    have hlen : (nms l).length = l.length := by simp [nms]
    rw [hlen] at hown4
    obtain ⟨an, cn, rfl⟩ := own_slice hown4
    have h5 := hL1.below hb4
    have hO5 := hO1.trans (Only.of_below hb4)
    have hd5 := hd.only hO5
    have hB0 := hb4.size
    clear hRi hL1 hd
    go_wp2
    have hris := h5.base.rising
    obtain ⟨C, hC⟩ : ∃ C, C = crashL S.files ds := ⟨_, rfl⟩
    have HC := hide hC
    have hC0 : C = crashL (l.map strip) ds := by rw [hC, HFL.out]
    clear hC
    go_loopw [1, 21] (fun dv i wr => ∃ (k : Nat) (A : List (Bs × Ent)) (a' : Option Addr) (c' : Nat) (ds' : List Int), k ≤ l.length ∧ i = .int .i64 k ∧ dv = .slice a' ds'.length c' ∧ HeldL wr own bd bm S.room (A ++ l.drop k) (-1) false ∧ A.map (·.1) = (l.take k).map (·.1) ∧ A.map strip ++ crashL ((l.drop k).map strip) ds' = C ∧
        LiesI wr own a' ds' ∧ ds'.length ≤ c' ∧ (a' = none → c' = 0) ∧ c' ≤ 9223372036854775807 ∧ (∀ x ∈ ds', -9223372036854775808 ≤ x ∧ x ≤ 9223372036854775807) ∧ wr.ownsRow W.heap.size 9 1 (.slice an l.length cn) l.length (tcells (nms l)) ∧ Only own w wr) (fun _ i _ => l.length - (intOf i).toNat)
    case atStart => exact ⟨0, [], a, cap, ds, by omega, rfl, rfl, by simpa using h5, by simp, by rw [hC0]; simp, hd5, hn, hz, hc, hr, hown4, hO5⟩
    case round =>
      obtain ⟨k, A, a', c', ds', hk, rfl, rfl, hH, hAk, hCr, hd', hn', hz', hc', hr', ho, hO⟩ := hrel
      by_cases hlt : k < l.length
      · obtain ⟨g, cap', e⟩ := ownsRow_form ho (by omega)
        cases e
        obtain ⟨⟨key, v, f⟩, hx⟩ : ∃ x, l[k] = x := ⟨_, rfl⟩
        have hdrop : l.drop k = (key, v, f) :: l.drop (k + 1) := by rw [List.drop_eq_getElem_cons hlt, hx]
        rw [hdrop] at hH hCr
        have hrk := hH.base.rising
        have hgl := getL_mid hrk
        have hsf := (heach _ (List.getElem_mem hlt)).2
        rw [hx] at hsf
        simp only at hsf
        have hrow : RowOk wr own (v, f) := hH.rows.1 _ (getL_some hgl)
        have hap := hH.rows.others hrk hgl
        obtain ⟨ad, c, rfl, hcz, hcl, hcm⟩ := hrow.open
        have HP : ∀ x, Hid (putL key x (A ++ (key, .slice ad f.data.length c, f) :: l.drop (k + 1)) = (A ++ [(key, x)]) ++ l.drop (k + 1)) := fun x => hide (by rw [putL_mid hrk]; simp)
        have hAk' : ∀ x : Ent, (A ++ [(key, x)]).map (·.1) = (l.take (k + 1)).map (·.1) := fun x => by rw [List.take_succ_eq_append_getElem hlt, List.map_append, List.map_append, hAk, hx]; rfl
        have hxs : (tcells (nms l))[k]? = some (.string ⟨key.toArray⟩) := by
          simp [tcells, nms, List.getElem?_eq_getElem hlt, hx]
        have hcell : wr.cell? ⟨g, k, none⟩ = some (.string ⟨key.toArray⟩) := by rw [ho.cellAt _ (by omega)]; exact hxs
        obtain ⟨s, hsk⟩ : ∃ s : ByteArray, s = ⟨key.toArray⟩ := ⟨_, rfl⟩
        have hkey : s.data.toList = key := by rw [hsk]
        have hss : s.size ≤ 32 := by
          have := (heach l[k] (List.getElem_mem hlt)).1
          rw [hx] at this
          exact named_size' (by rw [hkey]; exact this)
        rw [← hsk] at hcell hxs
        have hlk : fileAt (A ++ (key, .slice ad f.data.length c, f) :: l.drop (k + 1)) s.data.toList = FV (.slice ad f.data.length c) f.safe := by rw [hkey]; simp [fileAt, hgl]
        have hc1 := hH.base.c1
        have hown := hH.base.map
        have hne := hH.base.ne
        have hne2 : wr.heap.size ≠ bm := by have := hH.base.map.lt; omega
        have i1 : (0 : Int) ≤ (k : Int) := by omega
        have i2 : (k : Int) < (l.length : Int) := by omega
        have hlkn : (A ++ (key, Value.slice ad f.data.length c, f) :: l.drop (k + 1)).length ≤ 64 := by
          have h1 := congrArg List.length hAk
          simp only [List.length_map, List.length_take] at h1
          simp only [List.length_append, List.length_cons, List.length_drop]
          omega
        clear hx hxs hsk hdrop hrk hgl
        by_cases htl : f.data.length = f.safe
        · have HCr := hide (show (A ++ [(key, (Value.slice ad f.data.length c, f))]).map strip ++ crashL ((l.drop (k + 1)).map strip) ds' = C by
            rw [← hCr, List.map_cons, crashL, if_pos (by exact htl)]; simp)
          clear hCr
          obtain ⟨W, hW⟩ : ∃ W, W = wr.alloc (.cells #[.slice ad f.data.length c, .int .i64 f.safe] 61) := ⟨_, rfl⟩
          have hbW : Below wr.heap.size wr W := by rw [hW]; exact below_alloc1 _ _
          have hAW : W.heap[wr.heap.size]? = some (.cells #[.slice ad f.data.length c, .int .i64 f.safe] 61 (0, 0)) := by rw [hW]; exact heap_alloc_new wr _
          have hlW := (Array.getElem?_eq_some_iff.1 hAW).1
          have hTl := tail_any ad f.data.length c f.safe W hsf.1 hsf.2
          have ht0 : f.data.length - f.safe = 0 := by omega
          rw [ht0] at hTl
          clear ht0 htl
          go_wp2_with (first | (at_lookup; refine wpList_lookup_file1 rfl _ _ rfl bm _ (A ++ (key, .slice ad f.data.length c, f) :: l.drop (k + 1)) rfl hown s (by omega) rfl _ hlk ?_) | fail)
          rw [← hW]
          clear hW
          refine hTl.mono ?_
          rintro e w5 ⟨rfl, hb5⟩
          have hb5' := hbW.trans (hb5.mono hbW.size)
          have hA5 := (hb5.block _ hlW).trans hAW
          clear hTl hlk
          have hHs := hH.below hb5'
          have hos := own_keepF hb5' ho
          have hds := hd'.only (Only.of_below (own := own) hb5')
          have hOs := hO.trans (Only.of_below hb5')
          have heq : A ++ (key, Value.slice ad f.data.length c, f) :: l.drop (k + 1) = (A ++ [(key, (.slice ad f.data.length c, f))]) ++ l.drop (k + 1) := by simp
          rw [heq] at hHs
          clear heq hcell hc1 hown hA5 hAW
          go_wp2
          go_roundw
          case rel => exact ⟨k + 1, _, a', c', ds', by omega, by go_num, rfl, hHs, hAk' _, HCr.out, hds, hn', hz', hc', hr', hos, hOs⟩
          case measure => simp [intOf]; omega
        · have htp : f.data.length - f.safe ≠ 0 := by have := hsf.1; omega
          obtain ⟨tl, htl'⟩ : ∃ tl, tl = f.data.length - f.safe := ⟨_, rfl⟩
          have hbt : ((tl : Int) == 0) = false := by rw [beq_eq_false_iff_ne]; omega
          cases ds' with
          | nil =>
            have HCr := hide (show (A ++ [(key, (Value.slice ad (tornF f 0).data.length c, tornF f 0))]).map strip ++ crashL ((l.drop (k + 1)).map strip) [] = C by
              rw [← hCr, List.map_cons, crashL, if_neg (by exact htl)]; simp)
            clear hCr
            obtain ⟨W, hW⟩ : ∃ W, W = wr.alloc (.cells #[.slice ad f.data.length c, .int .i64 f.safe] 61) := ⟨_, rfl⟩
            have hbW : Below wr.heap.size wr W := by rw [hW]; exact below_alloc1 _ _
            have hAW : W.heap[wr.heap.size]? = some (.cells #[.slice ad f.data.length c, .int .i64 f.safe] 61 (0, 0)) := by rw [hW]; exact heap_alloc_new wr _
            have hlW := (Array.getElem?_eq_some_iff.1 hAW).1
            have hTl := tail_any ad f.data.length c f.safe W hsf.1 hsf.2
            rw [← htl'] at hTl
            clear htl' htl htp
            go_wp2_with (first | (at_lookup; refine wpList_lookup_file1 rfl _ _ rfl bm _ (A ++ (key, .slice ad f.data.length c, f) :: l.drop (k + 1)) rfl hown s (by omega) rfl _ hlk ?_) | fail)
            rw [← hW]
            clear hW
            refine hTl.mono ?_
            rintro e w5 ⟨rfl, hb5⟩
            have hb5' := hbW.trans (hb5.mono hbW.size)
            have hA5 := (hb5.block _ hlW).trans hAW
            clear hTl hlk
            go_wp2
            have hS : PS bd bm wr.heap.size (.slice ad f.data.length c) f.safe w5 := ⟨(hb5'.cell (p := ⟨bd, 1, none⟩) hH.base.lt).trans hc1, cell_of_block hA5 0, cell_of_block hA5 1⟩
            go_region_held3 (PS bd bm wr.heap.size (.slice ad f.data.length c) f.safe) (first | exact PS.drew (by assumption) | exact PS.below (by assumption) (by assumption) | exact PS.turned (by assumption) hne hne2 (by assumption))
              (first | (go_at_call 46; refine (torn_any ad f.data.length c f.safe 0 _ hsf.1 hcl hcz hcm hsf.2 (by omega) (by omega)).mono ?_; rintro e w6 ⟨rfl, hb6⟩; obtain ⟨w7, hrun7, hown7, hturn7⟩ := store_file (ownsMap_stay (w' := w6) hH.base.map ((hb6.block _ (Nat.lt_of_lt_of_le hH.base.map.lt hb5'.size)).trans (hb5'.block _ hH.base.map.lt))) (by omega) s hss (.slice ad (tornF f 0).data.length c) (tornF f 0); rw [torn_len hsf.1] at hrun7; simp only [tornF] at hrun7))
            have hb6' : Below wr.heap.size wr w6 := hb5'.drew.trans (hb6.mono hb5'.size)
            rw [hkey] at hown7
            have hx7 : RowOk wr own (.slice ad (tornF f 0).data.length c, tornF f 0) := by
              have h1 := own_cut hrow.1 (f.safe + keptOf 0 (f.data.length - f.safe)) (by have := keptOf_le 0 (f.data.length - f.safe); have := hsf.1; omega)
              refine ⟨?_, fun g' hg' => hrow.2 g' ((ownBlock_len ad _ c _ c).trans hg')⟩
              have h2 := torn_len (draw := 0) hsf.1
              simp only [tornF] at h2 ⊢
              rw [h2] at h1 ⊢
              exact h1
            have hH7 := hH.stored hb6' hown7 hturn7 hx7 (fun p hp g' hg' => hap p hp g' ((ownBlock_len ad _ c _ c).trans hg'))
            rw [(HP _).out] at hH7
            have ho7 := names_stay ho hH.base.map hb6' hturn7
            have hO7 := (hO.trans (Only.of_below hb6')).trans (Only.of_grown (own := own) hturn7.grown fun k e => by cases e; exact hH.base.ownM)
            have hdx := hd'.only ((Only.of_below hb6').trans (Only.of_grown (own := own) hturn7.grown fun k e => by cases e; exact hH.base.ownM))
            clear hrun7 hown7 hturn7 hb6 hcell hc1 hS
            go_wp2
            go_roundw
            case rel => exact ⟨k + 1, _, a', c', [], by omega, by go_num, rfl, hH7, hAk' _, HCr.out, hdx, hn', hz', hc', hr', ho7, hO7⟩
            case measure => simp [intOf]; omega
          | cons x r =>
            have hxr := hr' x (List.mem_cons_self ..)
            have HCr := hide (show (A ++ [(key, (Value.slice ad (tornF f x).data.length c, tornF f x))]).map strip ++ crashL ((l.drop (k + 1)).map strip) r = C by
              rw [← hCr, List.map_cons, crashL, if_neg (by exact htl)]; simp)
            clear hCr
            rcases hd' with hd0 | ⟨b, off, rfl, hbl, hbn, hdl⟩
            · cases hd0
            have hd0 := hdl 0 (by simp)
            simp only [List.getElem_cons_zero, Nat.add_zero] at hd0
            have hd' : LiesI wr own (some ⟨b, off + 1, none⟩) r := by
              refine Or.inr ⟨b, off + 1, rfl, hbl, hbn, fun i hi => ?_⟩
              have := hdl (i + 1) (by simp; omega)
              simp only [List.getElem_cons_succ] at this
              rw [← this]; congr 2; omega
            have hrl : (x :: r).length = r.length + 1 := rfl
            rw [hrl] at hn'
            clear hdl
            obtain ⟨W, hW⟩ : ∃ W, W = wr.alloc (.cells #[.slice ad f.data.length c, .int .i64 f.safe] 61) := ⟨_, rfl⟩
            have hbW : Below wr.heap.size wr W := by rw [hW]; exact below_alloc1 _ _
            have hAW : W.heap[wr.heap.size]? = some (.cells #[.slice ad f.data.length c, .int .i64 f.safe] 61 (0, 0)) := by rw [hW]; exact heap_alloc_new wr _
            have hlW := (Array.getElem?_eq_some_iff.1 hAW).1
            have hTl := tail_any ad f.data.length c f.safe W hsf.1 hsf.2
            rw [← htl'] at hTl
            clear htl' htl htp
            go_wp2_with (first | (at_lookup; refine wpList_lookup_file1 rfl _ _ rfl bm _ (A ++ (key, .slice ad f.data.length c, f) :: l.drop (k + 1)) rfl hown s (by omega) rfl _ hlk ?_) | fail)
            rw [← hW]
            clear hW
            refine hTl.mono ?_
            rintro e w5 ⟨rfl, hb5⟩
            have hb5' := hbW.trans (hb5.mono hbW.size)
            have hA5 := (hb5.block _ hlW).trans hAW
            clear hTl hlk
            have hd5x := (hb5'.cell (p := ⟨b, off, none⟩) hbl).trans hd0
            have j0 : (0 : Int) < (r.length : Int) + 1 := by omega
            have j1 : (1 : Int) ≤ (r.length : Int) + 1 := by omega
            have j2 : (r.length : Int) + 1 ≤ (c' : Int) := by omega
            by_cases hcx : c' = 1
            · obtain rfl : r = [] := List.eq_nil_of_length_eq_zero (by omega)
              subst hcx
              go_wp2
              go_quiet (fail)
              go_wp2
              obtain ⟨w5n, hw5n⟩ : ∃ w5n, w5n = w5.drewN nq := ⟨_, rfl⟩
              have hb5n : Below wr.heap.size wr w5n := by rw [hw5n]; exact hb5'.trans (below_draws _ _ _)
              have hA5n : w5n.heap[wr.heap.size]? = some (.cells #[.slice ad f.data.length c, .int .i64 f.safe] 61 (0, 0)) := by rw [hw5n]; exact hA5
              rw [← hw5n]
              clear hw5n
              have hS : PS bd bm wr.heap.size (.slice ad f.data.length c) f.safe w5n := ⟨(hb5n.cell (p := ⟨bd, 1, none⟩) hH.base.lt).trans hc1, cell_of_block hA5n 0, cell_of_block hA5n 1⟩
              go_region_held3 (PS bd bm wr.heap.size (.slice ad f.data.length c) f.safe) (first | exact PS.drew (by assumption) | exact PS.below (by assumption) (by assumption) | exact PS.turned (by assumption) hne hne2 (by assumption))
                (first | (go_at_call 46; refine (torn_any ad f.data.length c f.safe x _ hsf.1 hcl hcz hcm hsf.2 (by omega) (by omega)).mono ?_; rintro e w6 ⟨rfl, hb6⟩; obtain ⟨w7, hrun7, hown7, hturn7⟩ := store_file (ownsMap_stay (w' := w6) hH.base.map ((hb6.block _ (Nat.lt_of_lt_of_le hH.base.map.lt hb5n.size)).trans (hb5n.block _ hH.base.map.lt))) (by omega) s hss (.slice ad (tornF f x).data.length c) (tornF f x); rw [torn_len hsf.1] at hrun7; simp only [tornF] at hrun7))
              have hb6' : Below wr.heap.size wr w6 := hb5n.drew.trans (hb6.mono hb5n.size)
              rw [hkey] at hown7
              have hx7 : RowOk wr own (.slice ad (tornF f x).data.length c, tornF f x) := by
                have h1 := own_cut hrow.1 (f.safe + keptOf x (f.data.length - f.safe)) (by have := keptOf_le x (f.data.length - f.safe); have := hsf.1; omega)
                refine ⟨?_, fun g' hg' => hrow.2 g' ((ownBlock_len ad _ c _ c).trans hg')⟩
                have h2 := torn_len (draw := x) hsf.1
                simp only [tornF] at h2 ⊢
                rw [h2] at h1 ⊢
                exact h1
              have hH7 := hH.stored hb6' hown7 hturn7 hx7 (fun p hp g' hg' => hap p hp g' ((ownBlock_len ad _ c _ c).trans hg'))
              rw [(HP _).out] at hH7
              have ho7 := names_stay ho hH.base.map hb6' hturn7
              have hO7 := (hO.trans (Only.of_below hb6')).trans (Only.of_grown (own := own) hturn7.grown fun k e => by cases e; exact hH.base.ownM)
              have hdx := hd'.only ((Only.of_below hb6').trans (Only.of_grown (own := own) hturn7.grown fun k e => by cases e; exact hH.base.ownM))
              clear hrun7 hown7 hturn7 hb6 hcell hc1 hS
              go_wp2
              go_roundw
              case rel => exact ⟨k + 1, _, some ⟨b, off, none⟩, 0, [], by omega, by go_num, rfl, hH7, hAk' _, HCr.out, Or.inl rfl, by simp, by simp, by omega, by simp, ho7, hO7⟩
              case measure => simp [intOf]; omega
            · go_wp2
              go_quiet (fail)
              go_wp2
              obtain ⟨w5n, hw5n⟩ : ∃ w5n, w5n = w5.drewN nq := ⟨_, rfl⟩
              have hb5n : Below wr.heap.size wr w5n := by rw [hw5n]; exact hb5'.trans (below_draws _ _ _)
              have hA5n : w5n.heap[wr.heap.size]? = some (.cells #[.slice ad f.data.length c, .int .i64 f.safe] 61 (0, 0)) := by rw [hw5n]; exact hA5
              rw [← hw5n]
              clear hw5n
              have hS : PS bd bm wr.heap.size (.slice ad f.data.length c) f.safe w5n := ⟨(hb5n.cell (p := ⟨bd, 1, none⟩) hH.base.lt).trans hc1, cell_of_block hA5n 0, cell_of_block hA5n 1⟩
              go_region_held3 (PS bd bm wr.heap.size (.slice ad f.data.length c) f.safe) (first | exact PS.drew (by assumption) | exact PS.below (by assumption) (by assumption) | exact PS.turned (by assumption) hne hne2 (by assumption))
                (first | (go_at_call 46; refine (torn_any ad f.data.length c f.safe x _ hsf.1 hcl hcz hcm hsf.2 (by omega) (by omega)).mono ?_; rintro e w6 ⟨rfl, hb6⟩; obtain ⟨w7, hrun7, hown7, hturn7⟩ := store_file (ownsMap_stay (w' := w6) hH.base.map ((hb6.block _ (Nat.lt_of_lt_of_le hH.base.map.lt hb5n.size)).trans (hb5n.block _ hH.base.map.lt))) (by omega) s hss (.slice ad (tornF f x).data.length c) (tornF f x); rw [torn_len hsf.1] at hrun7; simp only [tornF] at hrun7))
              have hb6' : Below wr.heap.size wr w6 := hb5n.drew.trans (hb6.mono hb5n.size)
              rw [hkey] at hown7
              have hx7 : RowOk wr own (.slice ad (tornF f x).data.length c, tornF f x) := by
                have h1 := own_cut hrow.1 (f.safe + keptOf x (f.data.length - f.safe)) (by have := keptOf_le x (f.data.length - f.safe); have := hsf.1; omega)
                refine ⟨?_, fun g' hg' => hrow.2 g' ((ownBlock_len ad _ c _ c).trans hg')⟩
                have h2 := torn_len (draw := x) hsf.1
                simp only [tornF] at h2 ⊢
                rw [h2] at h1 ⊢
                exact h1
              have hH7 := hH.stored hb6' hown7 hturn7 hx7 (fun p hp g' hg' => hap p hp g' ((ownBlock_len ad _ c _ c).trans hg'))
              rw [(HP _).out] at hH7
              have ho7 := names_stay ho hH.base.map hb6' hturn7
              have hO7 := (hO.trans (Only.of_below hb6')).trans (Only.of_grown (own := own) hturn7.grown fun k e => by cases e; exact hH.base.ownM)
              have hdx := hd'.only ((Only.of_below hb6').trans (Only.of_grown (own := own) hturn7.grown fun k e => by cases e; exact hH.base.ownM))
              clear hrun7 hown7 hturn7 hb6 hcell hc1 hS
              go_wp2
              go_roundw
              case rel => exact ⟨k + 1, _, some ⟨b, off + 1, none⟩, c' - 1, r, by omega, by go_num, rfl, hH7, hAk' _, HCr.out, hdx, by omega, by simp, by omega, fun y hy => hr' y (List.mem_cons_of_mem _ hy), ho7, hO7⟩
              case measure => simp [intOf]; omega
      · obtain rfl : k = l.length := by omega
        rw [List.drop_length] at hH hCr
        rw [List.append_nil] at hH
        have HE := hide (show crashL S.files ds = A.map strip by rw [← HC.out, ← hCr]; simp [crashL])
        clear hCr hAk
        go_wp2
        go_ret
        exact ⟨rfl, ⟨bm, A, hH, HE.out, HOK.out⟩, hO⟩

end Go.Proofs.Ytokcknfbanpjjaa.Dk
