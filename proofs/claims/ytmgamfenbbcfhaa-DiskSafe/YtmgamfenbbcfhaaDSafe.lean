/- DiskSafe: what was synced is there behind a crash, whatever is drawn; behind it stands a beginning of what was appended since. -/
import Derived.Test.YtmgamfenbbcfhaaDAmong
import Derived.Lib.Strings
namespace Go.Proofs.Ytmgamfenbbcfhaa.Dk
open Go.RowKit Go.Maps Go.Joins

/-- the first so many texts, one behind the other -/
def catT (l : List ByteArray) (i : Nat) : Bs := (l.take i).flatMap fun s => s.data.toList
theorem catT_next {l : List ByteArray} {i : Nat} (h : i < l.length) : catT l (i + 1) = catT l i ++ (l[i]).data.toList := by
  rw [catT, List.take_succ_eq_append_getElem h, List.flatMap_append]; simp [catT]
/-- the disk behind so many appends, of which the first m + 1 were synced -/
def sfS (l : List ByteArray) (m i : Nat) : St := ⟨262144, if i = 0 then [] else [([97], ⟨catT l i, (catT l (min i (m + 1))).length⟩)], -1, false⟩
theorem nmA : named [97] = true := by decide
theorem sf_app (l : List ByteArray) (m i : Nat) (h : i < l.length) (hs : (catT l i).length + (l[i]).data.toList.length ≤ 262144) :
    (sfS l m i).append [97] (l[i]).data.toList = (0, ⟨262144, [([97], ⟨catT l (i + 1), (catT l (min i (m + 1))).length⟩)], -1, false⟩) := by
  have h0 : ¬ 262144 < (catT l i).length + (l[i]).data.toList.length := by omega
  by_cases hi : i = 0
  · subst hi
    have e0 : catT l 0 = [] := rfl
    have h1 : ¬ 262144 < (l[0]).data.toList.length := by omega
    rw [catT_next h, Nat.zero_min, e0]
    generalize (l[0]).data.toList = y at *
    simp [St.append, sfS, nmA, used, sumL, getL, putL, insL, delL, fileOr, St.do, St.take, taken, h1]
  · rw [catT_next h]
    simp only [sfS, if_neg hi]
    generalize catT l i = x at *
    generalize (l[i]).data.toList = y at *
    simp [St.append, nmA, used, sumL, getL, putL, insL, delL, fileOr, St.do, St.take, taken, h0]
theorem sf_sync (l : List ByteArray) (m i : Nat) (h : i ≤ m) : (St.mk 262144 [([97], ⟨catT l (i + 1), (catT l (min i (m + 1))).length⟩)] (-1) false).sync = (0, sfS l m (i + 1)) := by
  have e : min (i + 1) (m + 1) = i + 1 := by omega
  simp [St.sync, St.do, St.take, taken, syncL, sfS, e]
theorem sf_not (l : List ByteArray) (m i : Nat) (h : ¬ i ≤ m) : St.mk 262144 [([97], ⟨catT l (i + 1), (catT l (min i (m + 1))).length⟩)] (-1) false = sfS l m (i + 1) := by
  have e : min (i + 1) (m + 1) = m + 1 := by omega
  have e' : min i (m + 1) = m + 1 := by omega
  simp [sfS, e, e']
theorem sf_crash (l : List ByteArray) (m i : Nat) (draw : Int) (hi : i ≠ 0) : ∃ n, (catT l (min i (m + 1))).length ≤ n ∧ n ≤ (catT l i).length ∧ ((sfS l m i).crash [draw]).1 = 0 ∧ ((sfS l m i).crash [draw]).2.read [97] = ((catT l i).take n, 0) := by
  have hle : (catT l (min i (m + 1))).length ≤ (catT l i).length := by
    have : catT l i = catT l (min i (m + 1)) ++ ((l.take i).drop (min i (m + 1))).flatMap fun s => s.data.toList := by
      unfold catT
      rw [← List.flatMap_append]
      congr 1
      have h1 : l.take (min i (m + 1)) = (l.take i).take (min i (m + 1)) := by rw [List.take_take]; congr 1; omega
      rw [h1, List.take_append_drop]
    rw [this, List.length_append]; omega
  simp only [sfS, if_neg hi]
  generalize catT l i = x at *
  generalize (catT l (min i (m + 1))).length = u at *
  by_cases ht : x.length = u
  · refine ⟨x.length, by omega, Nat.le_refl _, ?_, ?_⟩
    · simp [St.crash]
    · simp [St.crash, crashL, ht, St.read, nmA, getL]
      rw [List.take_of_length_le (by omega)]
  · have := keptOf_le draw (x.length - u)
    refine ⟨u + keptOf draw (x.length - u), by omega, by omega, ?_, ?_⟩
    · simp [St.crash]
    · simp [St.crash, crashL, ht, St.read, nmA, getL, tornF]

theorem txt_append (k : Bs) (s : ByteArray) : txt k ++ s = txt (k ++ s.data.toList) := by
  rw [← bytes_eta (txt k ++ s), data_append, txt_list]; rfl
theorem txt_size (k : Bs) : (txt k).size = k.length := by show k.toArray.size = _; simp

theorem txt_ne {k : Bs} (h : k ≠ []) : (txt k).toList.isEmpty = false := by
  cases k with
  | nil => exact absurd rfl h
  | cons x r => rw [Lib.toList_data, txt_list]; rfl
theorem txt_extract (k : Bs) (n : Nat) : (txt k).extract 0 n = txt (k.take n) := by
  apply ByteArray.ext
  apply Array.ext'
  rw [ByteArray.data_extract, Array.toList_extract]
  simp [txt]

set_option maxHeartbeats 6400000 in
set_option maxRecDepth 100000 in
theorem safe_law (a : Option Addr) (cap : Nat) (ts : List ByteArray) (sy draw : Int) (w : World) (hl : LiesT w a ts) (hsz : ∀ t ∈ ts, t.size ≤ 140737488351232) (hn : ts.length ≤ 9223372036854775807) (h1 : (Lit.int .i64 sy).wf = true) (h2 : (Lit.int .i64 draw).wf = true) :
    Calls Try.prog 6 #[.slice a ts.length cap, .int .i64 sy, .int .i64 draw] w fun e w' => e = .returned (.bool true) ∧ Below w.heap.size w w' := by
  obtain ⟨s0, s1⟩ := bounds_i64 h1
  obtain ⟨d0, d1⟩ := bounds_i64 h2
  have m0 := Int.emod_nonneg sy (show (60 : Int) ≠ 0 by omega)
  have m1 := Int.emod_lt_of_pos sy (show (0 : Int) < 60 by omega)
  obtain ⟨m, hm⟩ : ∃ m : Nat, sy % 60 = m := ⟨(sy % 60).toNat, by omega⟩
  go_enter Try.func6, Try.ntmps6
  go_wp2_with fail
  refine (new_ok 262144 w (by omega)).mono ?_
  rintro e w1 ⟨bd, rfl, h1, hb1⟩
  have hz1 := hb1.size
  go_wp2_with fail
  refine (works_any w1).mono ?_
  rintro e w2 ⟨rfl, hb2⟩
  have hB2 := hb1.trans (hb2.mono hz1)
  have h2 : Held w2 (since w.heap.size) bd (sfS ts m 0) := h1.below hb2
  clear hb1 hb2 h1
  have hm60 : m < 60 := by omega
  go_wp2
  go_loopw [9, 10, 11] (fun su wh i wr => ∃ k : Nat, k ≤ ts.length ∧ k ≤ 50 ∧ i = .int .i64 k ∧ su = .string (txt (catT ts (min k (m + 1)))) ∧ wh = .string (txt (catT ts k)) ∧ (catT ts k).length ≤ 1000 * k ∧ Held wr (since w.heap.size) bd (sfS ts m k) ∧ Below w.heap.size w wr) (fun _ _ i _ => ts.length - (intOf i).toNat)
  case atStart => exact ⟨0, by omega, by omega, rfl, rfl, rfl, by simp [catT], h2, hB2⟩
  case round =>
    obtain ⟨k, hk, hk5, rfl, rfl, rfl, hcl, hH, hB⟩ := hrel
    have hz := hB.size
    by_cases hlt : k < ts.length ∧ k < 50
    · obtain ⟨b, off, rfl, c0⟩ := hl.at k hlt.1 hB
      have hts := hsz ts[k] (List.getElem_mem hlt.1)
      have HN := hide (catT_next hlt.1)
      have HA := fun hs => sf_app ts m k hlt.1 hs
      have i1 : (0 : Int) ≤ (k : Int) := by omega
      have i2 : (k : Int) < (ts.length : Int) := by omega
      have i3 : (k : Int) < 50 := by omega
      obtain ⟨t, ht⟩ : ∃ t, ts[k] = t := ⟨_, rfl⟩
      rw [ht] at c0 hts HN HA
      have HT := hide ht
      clear ht
      by_cases htl : 1000 < t.size
      · go_wp2
        go_ret
        exact ⟨rfl, hB⟩
      · have htl' : (t.size : Int) ≤ 1000 := by omega
        have htd : t.data.toList.length = t.size := (Lib.size_eq t).symm
        have hA := append_any wr hH (fresh_since hz) ⟨#[97]⟩ t (by decide) hts
        rw [show (sfS ts m k).append (ByteArray.mk #[97]).data.toList t.data.toList = _ from HA (by omega)] at hA
        clear HA
        go_wp2_with fail
        refine hA.mono ?_
        rintro e w3 ⟨rfl, h3, hO⟩
        have hO' := hO.below hz (fun _ h => h)
        have hB3 := hB.trans hO'
        have hz3 := hB3.size
        obtain ⟨b', off', e, c0'⟩ := hl.at k hlt.1 hB3
        cases e
        rw [HT.out] at c0'
        have HX := hide (show txt (catT ts k) ++ t = txt (catT ts (k + 1)) by rw [txt_append, HN.out])
        have hxs : (txt (catT ts k)).size = (catT ts k).length := txt_size _
        have hcl' : (catT ts (k + 1)).length ≤ 1000 * (k + 1) := by rw [HN.out, List.length_append]; omega
        have hsum : ¬ 9223372036854775807 < (txt (catT ts k)).size + t.size := by omega
        clear hA hO hO' hB hH c0 HN
        generalize txt (catT ts k) = wh at *
        by_cases hkm : k ≤ m
        · have HS := sf_sync ts m k hkm
          have hS := sync_any w3 h3
          rw [HS] at hS
          have hki : (k : Int) ≤ (m : Int) := by omega
          have HMk := hide (show min (k + 1) (m + 1) = k + 1 by omega)
          clear HS
          go_wp2_with fail
          refine (among_any sy 60 w3 (by omega) (by omega) s0 s1).mono ?_
          rintro e w' ⟨rfl, rfl⟩
          rw [hm]
          go_wp2_with fail
          refine hS.mono ?_
          rintro e w4 ⟨rfl, h4, hO⟩
          have hB4 := hB3.trans (hO.below hz3 fun _ h => h)
          clear hS hO h3 hB3 c0'
          go_wp2
          go_roundw
          case rel => exact ⟨k + 1, by omega, by omega, by go_num, by rw [HMk.out, HX.out], by rw [HX.out], hcl', h4, hB4⟩
          case measure => simp [intOf]; omega
        · rw [sf_not ts m k hkm] at h3
          have hki : (m : Int) < (k : Int) := by omega
          have HMk := hide (show min (k + 1) (m + 1) = min k (m + 1) by omega)
          go_wp2_with fail
          refine (among_any sy 60 w3 (by omega) (by omega) s0 s1).mono ?_
          rintro e w' ⟨rfl, rfl⟩
          rw [hm]
          go_wp2
          go_roundw
          case rel => exact ⟨k + 1, by omega, by omega, by go_num, by rw [HMk.out], by rw [HX.out], hcl', h3, hB3⟩
          case measure => simp [intOf]; omega
    · have hend : (ts.length : Int) ≤ (k : Int) ∨ ((k : Int) < (ts.length : Int) ∧ (50 : Int) ≤ (k : Int)) := by omega
      by_cases hW : catT ts k = []
      · rw [hW]
        have hem : (txt []).toList.isEmpty = true := by rw [Lib.toList_data, txt_list]; rfl
        generalize txt [] = wh at *
        rcases hend with hend | ⟨hend, hend2⟩
        · go_wp2
          go_ret
          exact ⟨rfl, hB⟩
        · go_wp2
          go_ret
          exact ⟨rfl, hB⟩
      · rcases hend with hend | ⟨hend, hend2⟩
        · have HW := hide hW
          have hk0 : k ≠ 0 := fun e => hW (by rw [e]; rfl)
          obtain ⟨n, hn1, hn2, hcr0, hcr⟩ := sf_crash ts m k draw hk0
          have hne : (txt (catT ts k)).toList.isEmpty = false := txt_ne hW
          have hxs : (txt (catT ts k)).size = (catT ts k).length := txt_size _
          have hus : (txt (catT ts (min k (m + 1)))).size = (catT ts (min k (m + 1))).length := txt_size _
          have HX := hide (show (txt (catT ts k)).extract 0 n = txt ((catT ts k).take n) by rw [txt_extract])
          have hsn : (txt ((catT ts k).take n)).size = n := by rw [txt_size, List.length_take]; omega
          obtain ⟨wh, hwh⟩ : ∃ wh, wh = txt (catT ts k) := ⟨_, rfl⟩
          obtain ⟨su, hsu⟩ : ∃ su, su = txt (catT ts (min k (m + 1))) := ⟨_, rfl⟩
          obtain ⟨rd, hrd⟩ : ∃ rd, rd = txt ((catT ts k).take n) := ⟨_, rfl⟩
          rw [← hwh] at hne hxs HX ⊢
          rw [← hsu] at hus ⊢
          rw [← hrd] at hsn HX
          have HRD := hide hrd
          clear hwh hsu hrd hW
          go_wp2_with fail
          obtain ⟨W, hWW⟩ : ∃ W, W = wr.alloc (.cells #[.int .i64 draw] 3) := ⟨_, rfl⟩
          rw [← hWW]
          have hbW : Below wr.heap.size wr W := by rw [hWW]; exact below_alloc1 _ _
          have hAW : W.heap[wr.heap.size]? = some (.cells #[.int .i64 draw] 3 (0, 0)) := by rw [hWW]; exact heap_alloc_new wr _
          clear hWW
          have hzW := (Array.getElem?_eq_some_iff.1 hAW).1
          have h6 := hH.now.below hbW
          have hld : LiesI W (fun b => since w.heap.size b ∧ b < wr.heap.size) (some ⟨wr.heap.size, 0, none⟩) [draw] := by
            refine Or.inr ⟨_, _, rfl, hzW, fun h => by omega, fun i hi => ?_⟩
            rw [Nat.zero_add, cell_of_block hAW]
            match i, hi with
            | 0, _ => rfl
          have hC := crash_any W h6 (some ⟨wr.heap.size, 0, none⟩) 1 [draw] hld (by simp) (by simp) (by omega) (by simpa using ⟨d0, d1⟩)
          rw [hcr0] at hC
          generalize ((sfS ts m k).crash [draw]).2 = R at *
          refine hC.mono ?_
          rintro e w6 ⟨rfl, h7, hO6⟩
          have hB6 := (hB.trans (hbW.mono hz)).trans (hO6.below (by omega) fun _ h => h.1)
          have hz6 := hB6.size
          have hA := read_any w6 h7 ⟨#[97]⟩ (by decide)
          rw [show R.read (ByteArray.mk #[97]).data.toList = _ from hcr] at hA
          simp only [show (ByteArray.mk ((catT ts k).take n).toArray) = rd from HRD.out.symm] at hA
          clear hC hcr hO6 h6 hH hB hbW hld hAW
          go_wp2_with fail
          refine hA.mono ?_
          rintro e w7 ⟨rfl, hb7⟩
          have hB7 := hB6.trans (hb7.mono hz6)
          have beq : (rd.toList == rd.toList) = true := by simp
          have j1 : (su.size : Int) ≤ (rd.size : Int) := by omega
          have j2 : (rd.size : Int) ≤ (wh.size : Int) := by omega
          have j0 : (0 : Int) ≤ (rd.size : Int) := by omega
          have HX' : wh.extract 0 n = rd := HX.out
          clear hA hb7 h7
          go_wp2
          go_ret
          exact ⟨rfl, hB7⟩
        · have HW := hide hW
          have hk0 : k ≠ 0 := fun e => hW (by rw [e]; rfl)
          obtain ⟨n, hn1, hn2, hcr0, hcr⟩ := sf_crash ts m k draw hk0
          have hne : (txt (catT ts k)).toList.isEmpty = false := txt_ne hW
          have hxs : (txt (catT ts k)).size = (catT ts k).length := txt_size _
          have hus : (txt (catT ts (min k (m + 1)))).size = (catT ts (min k (m + 1))).length := txt_size _
          have HX := hide (show (txt (catT ts k)).extract 0 n = txt ((catT ts k).take n) by rw [txt_extract])
          have hsn : (txt ((catT ts k).take n)).size = n := by rw [txt_size, List.length_take]; omega
          obtain ⟨wh, hwh⟩ : ∃ wh, wh = txt (catT ts k) := ⟨_, rfl⟩
          obtain ⟨su, hsu⟩ : ∃ su, su = txt (catT ts (min k (m + 1))) := ⟨_, rfl⟩
          obtain ⟨rd, hrd⟩ : ∃ rd, rd = txt ((catT ts k).take n) := ⟨_, rfl⟩
          rw [← hwh] at hne hxs HX ⊢
          rw [← hsu] at hus ⊢
          rw [← hrd] at hsn HX
          have HRD := hide hrd
          clear hwh hsu hrd hW
          go_wp2_with fail
          obtain ⟨W, hWW⟩ : ∃ W, W = wr.alloc (.cells #[.int .i64 draw] 3) := ⟨_, rfl⟩
          rw [← hWW]
          have hbW : Below wr.heap.size wr W := by rw [hWW]; exact below_alloc1 _ _
          have hAW : W.heap[wr.heap.size]? = some (.cells #[.int .i64 draw] 3 (0, 0)) := by rw [hWW]; exact heap_alloc_new wr _
          clear hWW
          have hzW := (Array.getElem?_eq_some_iff.1 hAW).1
          have h6 := hH.now.below hbW
          have hld : LiesI W (fun b => since w.heap.size b ∧ b < wr.heap.size) (some ⟨wr.heap.size, 0, none⟩) [draw] := by
            refine Or.inr ⟨_, _, rfl, hzW, fun h => by omega, fun i hi => ?_⟩
            rw [Nat.zero_add, cell_of_block hAW]
            match i, hi with
            | 0, _ => rfl
          have hC := crash_any W h6 (some ⟨wr.heap.size, 0, none⟩) 1 [draw] hld (by simp) (by simp) (by omega) (by simpa using ⟨d0, d1⟩)
          rw [hcr0] at hC
          generalize ((sfS ts m k).crash [draw]).2 = R at *
          refine hC.mono ?_
          rintro e w6 ⟨rfl, h7, hO6⟩
          have hB6 := (hB.trans (hbW.mono hz)).trans (hO6.below (by omega) fun _ h => h.1)
          have hz6 := hB6.size
          have hA := read_any w6 h7 ⟨#[97]⟩ (by decide)
          rw [show R.read (ByteArray.mk #[97]).data.toList = _ from hcr] at hA
          simp only [show (ByteArray.mk ((catT ts k).take n).toArray) = rd from HRD.out.symm] at hA
          clear hC hcr hO6 h6 hH hB hbW hld hAW
          go_wp2_with fail
          refine hA.mono ?_
          rintro e w7 ⟨rfl, hb7⟩
          have hB7 := hB6.trans (hb7.mono hz6)
          have beq : (rd.toList == rd.toList) = true := by simp
          have j1 : (su.size : Int) ≤ (rd.size : Int) := by omega
          have j2 : (rd.size : Int) ≤ (wh.size : Int) := by omega
          have j0 : (0 : Int) ≤ (rd.size : Int) := by omega
          have HX' : wh.extract 0 n = rd := HX.out
          clear hA hb7 h7
          go_wp2
          go_ret
          exact ⟨rfl, hB7⟩

end Go.Proofs.Ytmgamfenbbcfhaa.Dk
