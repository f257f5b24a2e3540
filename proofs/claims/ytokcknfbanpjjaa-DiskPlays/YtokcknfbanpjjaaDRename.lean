/- The walk over disk.go: Rename. -/
import Derived.Test.YtokcknfbanpjjaaDCutCall
namespace Go.Proofs.Ytokcknfbanpjjaa.Dk
open Go.RowKit Go.Maps Go.Joins

theorem delL_comm {α : Type} (a b : Bs) (l : List (Bs × α)) : delL b (delL a l) = delL a (delL b l) := by
  simp only [delL, List.filter_filter]; congr 1; funext p; rw [Bool.and_comm]

set_option maxHeartbeats 3200000 in
theorem rename_any {own : Nat → Prop} {bd : Nat} {S : St} (w : World) (h : Held w own bd S) (s t : ByteArray) (hs : s.size ≤ 140737488351232) (ht : t.size ≤ 140737488351232) :
    Calls Try.prog 16 #[.pointer (some ⟨bd, 0, none⟩), .string s, .string t] w fun e w' => e = .returned (.int .i64 (S.rename s.data.toList t.data.toList).1) ∧ Held w' own bd (S.rename s.data.toList t.data.toList).2 ∧ Only own w w' := by
  have HOK := hide (h.ok.rename s.data.toList t.data.toList)
  obtain ⟨bm, l, hL, hfl, hok⟩ := h
  have hN := fun W => name_any s W hs
  have hN2 := fun W => name_any t W ht
  obtain ⟨R, hR⟩ : ∃ R, R = S.rename s.data.toList t.data.toList := ⟨_, rfl⟩
  rw [← hR] at HOK ⊢
  have hRn : named s.data.toList = false ∨ named t.data.toList = false → R = (20, S) := fun hn => by rw [hR, St.rename, if_pos hn]
  have hRm : named s.data.toList = true → named t.data.toList = true → getL s.data.toList l = none → R = (5, S) := fun hn hn2 hg => by rw [hR, St.rename, if_neg (by rw [hn, hn2]; simp), hfl, getL_strip, hg]; rfl
  have hRs : ∀ v f, named s.data.toList = true → named t.data.toList = true → getL s.data.toList l = some (v, f) → R = S.do fun l => putL t.data.toList f (delL s.data.toList l) := fun v f hn hn2 hg => by rw [hR, St.rename, if_neg (by rw [hn, hn2]; simp), hfl, getL_strip, hg]; rfl
  have hmany : l.length ≤ 64 := by have := hok.many; rw [hfl, List.length_map] at this; exact this
  have HFL := hide hfl
  clear hR hfl
  cases hnm : named s.data.toList
  · have HV := hide (hRn (Or.inl hnm))
    rw [hnm] at hN
    clear hRn hRm hRs HOK hN2
    go_enter Try.func16, Try.ntmps16
    go_wp2_with fail
    refine (hN _).mono ?_
    rintro e w1 ⟨rfl, hb1⟩
    clear hN
    go_wp2
    go_ret
    rw [HV.out]
    exact ⟨rfl, ⟨bm, l, hL.below hb1, HFL.out, hok⟩, Only.of_below hb1⟩
  · rw [hnm] at hN
    cases hnm2 : named t.data.toList
    · have HV := hide (hRn (Or.inr hnm2))
      rw [hnm2] at hN2
      clear hRn hRm hRs HOK
      go_enter Try.func16, Try.ntmps16
      go_wp2_with fail
      refine (hN _).mono ?_
      rintro e w1 ⟨rfl, hb1⟩
      clear hN
      go_wp2_with fail
      refine (hN2 _).mono ?_
      rintro e w2 ⟨rfl, hb2⟩
      clear hN2
      have hbx := hb1.trans (hb2.mono hb1.size)
      go_wp2
      go_ret
      rw [HV.out]
      exact ⟨rfl, ⟨bm, l, hL.below hbx, HFL.out, hok⟩, Only.of_below hbx⟩
    · rw [hnm2] at hN2
      have hns2 := named_size' hnm2
      cases hgl : getL s.data.toList l with
      | none =>
        have HV := hide (hRm hnm hnm2 hgl)
        have hfa : fileAt l s.data.toList = noFile := by simp [fileAt, hgl]
        have hsm : (getL s.data.toList l).isSome = false := by rw [hgl]; rfl
        clear hRn hRm hRs HOK hgl
        go_enter Try.func16, Try.ntmps16
        go_wp2_with fail
        refine (hN _).mono ?_
        rintro e w1 ⟨rfl, hb1⟩
        clear hN
        go_wp2_with fail
        refine (hN2 _).mono ?_
        rintro e w2 ⟨rfl, hb2⟩
        clear hN2
        have hbx := hb1.trans (hb2.mono hb1.size)
        have h2 := hL.below hbx
        have c1 := h2.base.c1
        have hown := h2.base.map
        clear hb1 hb2 h2
        go_wp2_with (first | (at_lookup; refine wpList_lookup_file rfl _ _ rfl bm l.length l rfl hown s hs rfl noFile false hfa hsm ?_) | go_in)
        go_ret
        rw [HV.out]
        exact ⟨rfl, ⟨bm, l, hL.below (hbx.alloc hbx.size _), HFL.out, hok⟩, Only.of_below (hbx.alloc hbx.size _)⟩
      | some x =>
        obtain ⟨v, f⟩ := x
        have hrow : RowOk w own (v, f) := hL.rows.1 _ (getL_some hgl)
        obtain ⟨ad, cap, rfl, _⟩ := hrow.open
        have hap := hL.rows.others hL.base.rising hgl
        have HG := hide (hRs _ _ hnm hnm2 hgl)
        have hfa : fileAt l s.data.toList = FV (.slice ad f.data.length cap) f.safe := by simp [fileAt, hgl]
        have hsm : (getL s.data.toList l).isSome = true := by rw [hgl]; rfl
        clear hRn hRm hRs hgl
        have key : ∀ w1, Below w.heap.size w w1 → HeldL (w1.alloc (.cells #[.slice ad f.data.length cap, .int .i64 f.safe] 61)) own bd bm S.room l S.fuse S.down := fun w1 hb => hL.below (hb.alloc hb.size _)
        have hT := fun w1 hb => takes_any _ (key w1 hb) hok.f0 hok.f1
        cases htk : (taken S.fuse S.down).1
        · have HV := hide (show R = (21, S.take.2) by rw [HG.out]; unfold St.do; rw [if_neg (by simp only [St.take]; rw [htk]; simp)])
          rw [htk] at hT
          go_enter Try.func16, Try.ntmps16
          go_wp2_with fail
          refine (hN _).mono ?_
          rintro e w1 ⟨rfl, hb1⟩
          clear hN
          go_wp2_with fail
          refine (hN2 _).mono ?_
          rintro e w2 ⟨rfl, hb2⟩
          clear hN2
          have hbx := hb1.trans (hb2.mono hb1.size)
          have h2 := hL.below hbx
          have c1 := h2.base.c1
          have hown := h2.base.map
          have hT1 := hT w2 hbx
          clear hb1 hb2 h2 hT key
          go_wp2_with (first | (at_lookup; refine wpList_lookup_file rfl _ _ rfl bm l.length l rfl hown s hs rfl (FV (.slice ad f.data.length cap) f.safe) true hfa hsm ?_) | fail)
          refine hT1.mono ?_
          rintro e w3 ⟨rfl, h4, hg3⟩
          go_wp2
          go_ret
          rw [HV.out]
          exact ⟨rfl, ⟨bm, l, h4, HFL.out, hok.take⟩, (Only.of_below (hbx.alloc hbx.size _)).trans (Only.of_grown hg3 fun k e => by cases e; exact hL.base.ownD)⟩
        · have HV := hide (show R = (0, { S.take.2 with files := putL t.data.toList f (delL s.data.toList S.files) }) by
            rw [HG.out]; unfold St.do; rw [if_pos (by simp only [St.take]; exact htk)])
          rw [htk] at hT
          go_enter Try.func16, Try.ntmps16
          go_wp2_with fail
          refine (hN _).mono ?_
          rintro e w1 ⟨rfl, hb1⟩
          clear hN
          go_wp2_with fail
          refine (hN2 _).mono ?_
          rintro e w2 ⟨rfl, hb2⟩
          clear hN2
          have hbx := hb1.trans (hb2.mono hb1.size)
          have h2 := hL.below hbx
          have c1 := h2.base.c1
          have hown := h2.base.map
          have hT1 := hT w2 hbx
          have hL1 := key w2 hbx
          have hA1 := (one_box (w := w2) (x0 := .slice ad f.data.length cap) (x1 := .int .i64 f.safe) (t := 61)).1
          have hbd1 := Nat.lt_of_lt_of_le hL.base.lt hbx.size
          have hbm1 := Nat.lt_of_lt_of_le hL.base.map.lt hbx.size
          have hby := hbx.alloc hbx.size (.cells #[.slice ad f.data.length cap, .int .i64 f.safe] 61)
          have hzb : w2.heap.size < (w2.alloc (.cells #[.slice ad f.data.length cap, .int .i64 f.safe] 61)).heap.size := by simp
          have hrow1 : RowOk (w2.alloc (.cells #[.slice ad f.data.length cap, .int .i64 f.safe] 61)) own (.slice ad f.data.length cap, f) := hrow.stay fun g hg => hby.block g (hrow.lt hg)
          clear hb1 hb2 h2 hT key
          go_wp2_with (first | (at_lookup; refine wpList_lookup_file rfl _ _ rfl bm l.length l rfl hown s hs rfl (FV (.slice ad f.data.length cap) f.safe) true hfa hsm ?_) | fail)
          refine hT1.mono ?_
          rintro e w3 ⟨rfl, h4, hg3⟩
          have hA3 := (hg3.block w2.heap.size hzb (by simp; omega)).trans hA1
          have hlt3 := (Array.getElem?_eq_some_iff.1 hA3).1
          have hrow3 := hrow1.stay fun g hg => hg3.block g (hrow1.lt hg) (by simpa using (hL1.base.rowNe hrow1 hg).1)
          have hO := (Only.of_below (own := own) hby).trans (Only.of_grown (own := own) hg3 fun k e => by cases e; exact hL.base.ownD)
          have c1' := h4.base.c1
          have hown3 := h4.base.map
          clear hT1 hA1 hrow1 hL1 hg3 hown c1
          go_wp2_with (first | (at_delete; refine wpList_delete_own _ rfl _ _ MapT 9 rfl 61 keyed Try.underlying37 RV bm l.length (DD l) rfl hown3 _ _ rfl (key_str s hs) ?_; intro w4 hown4 hturn4; have hA4 := (hturn4.grown.block _ hlt3 (by simp; omega)).trans hA3; have c0 : w4.cell? ⟨w2.heap.size, 0, none⟩ = some (.slice ad f.data.length cap) := cell_of_block hA4 0; have c2 : w4.cell? ⟨w2.heap.size, 1, none⟩ = some (.int .i64 f.safe) := cell_of_block hA4 1) | fail)
          rw [DD_del] at hown4
          have hst : ∀ k, k < w3.heap.size → k ≠ bm → w4.heap[k]? = w3.heap[k]? := fun k hk hne => hturn4.grown.block k hk (by simpa using hne)
          have hdl := h4.rows.del s.data.toList
          have hB4 : Base w4 own bd bm S.room (delL s.data.toList l) _ _ := ⟨(hst _ h4.base.lt h4.base.ne).trans h4.base.block, ownsMap_tight hown4, h4.base.ownD, h4.base.ownM⟩
          have hr4 : RowsOk w4 own (delL s.data.toList l) := ⟨fun p hp => (hdl.1 p hp).stay fun g hg => hst g ((hdl.1 p hp).lt hg) (h4.base.rowNe (hdl.1 p hp) hg).2, hdl.2⟩
          have hrow4 := hrow3.stay fun g hg => hst g (hrow3.lt hg) (h4.base.rowNe hrow3 hg).2
          have hP := put_any w4 hB4 t hns2 ad cap f (hr4.del _) hrow4 (fun p hp => hap p (mem_delL.1 hp).1) (Nat.le_trans (List.length_filter_le _ _) hmany)
          refine hP.mono ?_
          rintro e w5 ⟨rfl, h6, hg6⟩
          clear hP
          go_wp2
          go_ret
          have hR5 := HOK.out
          rw [HV.out] at hR5 ⊢
          refine ⟨rfl, ⟨bm, _, h6, ?_, hR5⟩, (hO.trans (Only.of_grown hturn4.grown fun k e => by cases e; exact hL.base.ownM)).trans (Only.of_grown hg6 fun k e => by cases e; exact hL.base.ownM)⟩
          show putL t.data.toList f (delL s.data.toList S.files) = _
          rw [putL_map (fun x : Ent => x.2), delL_map (fun x : Ent => x.2), ← HFL.out]

end Go.Proofs.Ytokcknfbanpjjaa.Dk
