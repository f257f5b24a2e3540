/- DiskSwap: a file that is put in the place of another one has, behind a crash anywhere between, the old bytes or the new ones, whole. -/
import Derived.Test.YtmgamfenbbcfhaaDAmong
import Derived.Test.YtmgamfenbbcfhaaDFuse
namespace Go.Proofs.Ytmgamfenbbcfhaa.Dk
open Go.RowKit Go.Maps Go.Joins

theorem named_a : named [97] = true := by decide
theorem named_b : named [98] = true := by decide

/-- the disk ahead of the swap; with the new file; synced; renamed -/
def sw0 (was : Bs) (n : Int) : St := ⟨5000, [([97], ⟨was, was.length⟩)], n, false⟩
def sw1 (was will : Bs) (n : Int) (d : Bool) (s : Nat) : St := ⟨5000, [([97], ⟨was, was.length⟩), ([98], ⟨will, s⟩)], n, d⟩
def sw2 (will : Bs) (n : Int) : St := ⟨5000, [([97], ⟨will, will.length⟩)], n, false⟩

theorem sw_a (was : Bs) (h : was.length ≤ 1000) : (St.new 5000).append [97] was = (0, ⟨5000, [([97], ⟨was, 0⟩)], -1, false⟩) := by
  simp [St.append, St.new, named_a, used, sumL, getL, putL, insL, delL, fileOr, St.do, St.take, taken]; omega
theorem sw_b (was : Bs) : (St.mk 5000 [([97], ⟨was, 0⟩)] (-1) false).sync = (0, sw0 was (-1)) := by
  simp [St.sync, St.do, St.take, taken, syncL, sw0]
theorem sw_c (was : Bs) (n : Int) (h : 0 ≤ n) : (sw0 was (-1)).light n = (0, sw0 was n) := by
  simp [St.light, sw0]; omega
theorem sw_d (was will : Bs) (n : Int) (h0 : 0 ≤ n) (h : was.length ≤ 1000) (h' : will.length ≤ 1000) : (sw0 was n).append [98] will = if n = 0 then (21, ⟨5000, [([97], ⟨was, was.length⟩)], 0, true⟩) else (0, sw1 was will (n - 1) false 0) := by
  have hb : bytesBefore [98] [97] = false := by decide
  have hs : ¬ 5000 < was.length + will.length := by omega
  by_cases hn : n = 0
  · subst hn; simp [St.append, sw0, named_b, used, sumL, getL, St.do, St.take, taken, hs]
  · have hn' : ¬ n = -1 := by omega
    simp [St.append, sw0, sw1, named_b, used, sumL, getL, putL, insL, delL, fileOr, St.do, St.take, taken, hs, hn, hn', hb]
theorem sw_e (was will : Bs) (n : Int) (h0 : 0 ≤ n) : (sw1 was will n false 0).sync = if n = 0 then (21, sw1 was will 0 true 0) else (0, sw1 was will (n - 1) false will.length) := by
  by_cases hn : n = 0
  · subst hn; simp [St.sync, St.do, St.take, taken, sw1]
  · have hn' : ¬ n = -1 := by omega
    simp [St.sync, St.do, St.take, taken, syncL, sw1, hn, hn']
theorem sw_f (was will : Bs) (n : Int) (h0 : 0 ≤ n) : (sw1 was will n false will.length).rename [98] [97] = if n = 0 then (21, sw1 was will 0 true will.length) else (0, sw2 will (n - 1)) := by
  by_cases hn : n = 0
  · subst hn; simp [St.rename, named_a, named_b, getL, St.do, St.take, taken, sw1]
  · have hn' : ¬ n = -1 := by omega
    simp [St.rename, named_a, named_b, getL, putL, insL, delL, St.do, St.take, taken, sw1, sw2, hn, hn']
/-- what is safe is read behind a crash -/
theorem crash_safe (S : St) (ds : List Int) (h : ds.length ≤ 4096) (k : Bs) (f : Fil) (r : Fls) (hf : S.files = (k, f) :: r) (hs : f.data.length = f.safe) (hn : named k = true) : (S.crash ds).1 = 0 ∧ (S.crash ds).2.read k = (f.data, 0) := by
  have hl : ¬ 4096 < ds.length := by omega
  simp [St.crash, hl, hf, crashL, hs, St.read, hn, getL]

theorem LiesI.later {w W : World} {a : Option Addr} {ds : List Int} (h : LiesI w (since w.heap.size) a ds) (hb : Below w.heap.size w W) {B : Nat} (hB : w.heap.size ≤ B) : LiesI W (since B) a ds := by
  rcases h with rfl | ⟨b, off, rfl, hlt, _, hl⟩
  · exact Or.inl rfl
  · exact Or.inr ⟨b, off, rfl, Nat.lt_of_lt_of_le hlt hb.size, fun e => by simp only [since] at e; omega, fun i hi => (hb.cell (p := ⟨b, off + i, none⟩) hlt).trans (hl i hi)⟩

set_option maxHeartbeats 6400000 in
set_option maxRecDepth 100000 in
theorem swap_law (was will : ByteArray) (fuse : Int) (a : Option Addr) (cap : Nat) (ds : List Int) (w : World) (hwas : was.size ≤ 140737488351232) (hwill : will.size ≤ 140737488351232) (f0 : -9223372036854775808 ≤ fuse) (f1 : fuse ≤ 9223372036854775807)
    (hd : LiesI w (since w.heap.size) a ds) (hn : ds.length ≤ cap) (hz : a = none → cap = 0) (hc : cap ≤ 9223372036854775807) (hr : ∀ x ∈ ds, -9223372036854775808 ≤ x ∧ x ≤ 9223372036854775807) :
    Calls Try.prog 7 #[.string was, .string will, .agg #[.int .i64 fuse, .slice a ds.length cap]] w fun e w' => e = .returned (.bool true) ∧ Below w.heap.size w w' := by
  have m0 := Int.emod_nonneg fuse (show (5 : Int) ≠ 0 by omega)
  have m1 := Int.emod_lt_of_pos fuse (show (0 : Int) < 5 by omega)
  have hwl : was.data.toList.length = was.size := (Lib.size_eq was).symm
  have hvl : will.data.toList.length = will.size := (Lib.size_eq will).symm
  go_enter Try.func7, Try.ntmps7
  go_wp2_with fail
  obtain ⟨W, hW⟩ : ∃ W, W = w.alloc (.cells #[.int .i64 fuse, .slice a ds.length cap] 59) := ⟨_, rfl⟩
  rw [← hW]
  have hbW : Below w.heap.size w W := by rw [hW]; exact below_alloc1 _ _
  have hAW : W.heap[w.heap.size]? = some (.cells #[.int .i64 fuse, .slice a ds.length cap] 59 (0, 0)) := by rw [hW]; exact heap_alloc_new w _
  clear hW
  have hzW := (Array.getElem?_eq_some_iff.1 hAW).1
  have hdW := hd.later hbW (B := W.heap.size) hbW.size
  clear hd
  refine (new_ok 5000 W (by omega)).mono ?_
  rintro e w1 ⟨bd, rfl, h1, hb1⟩
  have hz1 := hb1.size
  have hWo := works_any w1
  go_wp2_with fail
  refine hWo.mono ?_
  rintro e w2 ⟨rfl, hb2⟩
  have hb2' := hb1.trans (hb2.mono hz1)
  have h2 : Held w2 (since W.heap.size) bd (St.new 5000) := h1.below hb2
  have hz2 := hb2'.size
  have hA2 := (hb2'.block _ hzW).trans hAW
  have c0 : w2.cell? ⟨w.heap.size, 0, none⟩ = some (.int .i64 fuse) := cell_of_block hA2 0
  have c1 : w2.cell? ⟨w.heap.size, 1, none⟩ = some (.slice a ds.length cap) := cell_of_block hA2 1
  clear hWo hb1 hb2 h1 hA2
  by_cases hlong : 1000 < was.size ∨ 1000 < will.size ∨ 4096 < ds.length
  · go_wp2
    all_goals
      go_ret
      exact ⟨rfl, hbW.trans (hb2'.mono hbW.size)⟩
  · have g1 : (was.size : Int) ≤ 1000 := by omega
    have g2 : (will.size : Int) ≤ 1000 := by omega
    have g3 : (ds.length : Int) ≤ 4096 := by omega
    have hB2 := hb2'
    clear c0 c1 hb2'
    have c1 : w2.cell? ⟨w.heap.size, 1, none⟩ = some (.slice a ds.length cap) := cell_of_block ((hB2.block _ hzW).trans hAW) 1
    have hA := append_any w2 h2 (fresh_since hz2) ⟨#[97]⟩ was (by decide) hwas
    rw [show (St.new 5000).append (ByteArray.mk #[97]).data.toList was.data.toList = _ from sw_a _ (by omega)] at hA
    go_wp2_with fail
    refine hA.mono ?_
    rintro e w3 ⟨rfl, h3, hO⟩
    have hB3 := hB2.trans (hO.below hz2 fun _ h => h)
    have hz3 := hB3.size
    have c0 : w3.cell? ⟨w.heap.size, 0, none⟩ = some (.int .i64 fuse) := cell_of_block ((hB3.block _ hzW).trans hAW) 0
    have c1 : w3.cell? ⟨w.heap.size, 1, none⟩ = some (.slice a ds.length cap) := cell_of_block ((hB3.block _ hzW).trans hAW) 1
    clear hA hO h2 hB2
    have hA := sync_any w3 h3
    rw [sw_b] at hA
    go_wp2_with fail
    refine hA.mono ?_
    rintro e w4 ⟨rfl, h4, hO⟩
    have hB4 := hB3.trans (hO.below hz3 fun _ h => h)
    have hz4 := hB4.size
    have c0 : w4.cell? ⟨w.heap.size, 0, none⟩ = some (.int .i64 fuse) := cell_of_block ((hB4.block _ hzW).trans hAW) 0
    have c1 : w4.cell? ⟨w.heap.size, 1, none⟩ = some (.slice a ds.length cap) := cell_of_block ((hB4.block _ hzW).trans hAW) 1
    clear hA hO h3 hB3
    go_wp2_with fail
    refine (among_any fuse 5 w4 (by omega) (by omega) f0 f1).mono ?_
    rintro e w' ⟨rfl, rfl⟩
    have hA := fuse_any w' h4 (fuse % 5) (by omega)
    rw [sw_c _ _ m0] at hA
    go_wp2_with fail
    refine hA.mono ?_
    rintro e w5 ⟨rfl, h5, hO⟩
    have hB5 := hB4.trans (hO.below hz4 fun _ h => h)
    have hz5 := hB5.size
    have c0 : w5.cell? ⟨w.heap.size, 0, none⟩ = some (.int .i64 fuse) := cell_of_block ((hB5.block _ hzW).trans hAW) 0
    have c1 : w5.cell? ⟨w.heap.size, 1, none⟩ = some (.slice a ds.length cap) := cell_of_block ((hB5.block _ hzW).trans hAW) 1
    clear hA hO h4 hB4
    generalize fuse % 5 = n at *
    have hD := sw_d was.data.toList will.data.toList n m0 (by omega) (by omega)
    by_cases n0 : n = 0
    · subst n0
      rw [if_pos rfl] at hD
      have hA := append_any w5 h5 (fresh_since hz5) ⟨#[98]⟩ will (by decide) hwill
      rw [show (sw0 was.data.toList 0).append (ByteArray.mk #[98]).data.toList will.data.toList = _ from hD] at hA
      go_wp2_with fail
      refine hA.mono ?_
      rintro e w6 ⟨rfl, h6, hO⟩
      have hB6 := hB5.trans (hO.below hz5 fun _ h => h)
      have hz6 := hB6.size
      have c1 : w6.cell? ⟨w.heap.size, 1, none⟩ = some (.slice a ds.length cap) := cell_of_block ((hB6.block _ hzW).trans hAW) 1
      clear hA hO h5 hB5
      obtain ⟨hc0, hcr⟩ := crash_safe (St.mk 5000 [([97], ⟨was.data.toList, was.data.toList.length⟩)] 0 true) ds (by omega) [97] ⟨was.data.toList, was.data.toList.length⟩ [] rfl rfl named_a
      have hC := crash_any w6 h6 a cap ds (hdW.only (Only.of_below hB6)) hn hz hc hr
      rw [hc0] at hC
      clear hc0
      generalize ((St.mk 5000 [([97], ⟨was.data.toList, was.data.toList.length⟩)] 0 true).crash ds).2 = R at *
      go_wp2_with fail
      refine hC.mono ?_
      rintro e w7 ⟨rfl, h7, hO⟩
      have hB7 := hB6.trans (hO.below hz6 fun _ h => h)
      have hz7 := hB7.size
      have hA := read_any w7 h7 ⟨#[97]⟩ (by decide)
      rw [show R.read (ByteArray.mk #[97]).data.toList = _ from hcr] at hA
      simp only [bytes_eta] at hA
      clear hC hcr hO h6 hB6 c1
      have beq : (was.toList == was.toList) = true := by simp
      go_wp2_with fail
      refine hA.mono ?_
      rintro e w8 ⟨rfl, hb⟩
      have hBx := hbW.trans ((hB7.trans (hb.mono hz7)).mono hbW.size)
      clear hA hb h7 hB7
      go_wp2
      all_goals
        go_ret
        exact ⟨rfl, hBx⟩
    · rw [if_neg n0] at hD
      have hA := append_any w5 h5 (fresh_since hz5) ⟨#[98]⟩ will (by decide) hwill
      rw [show (sw0 was.data.toList n).append (ByteArray.mk #[98]).data.toList will.data.toList = _ from hD] at hA
      go_wp2_with fail
      refine hA.mono ?_
      rintro e w6 ⟨rfl, h6, hO⟩
      have hB6 := hB5.trans (hO.below hz5 fun _ h => h)
      have hz6 := hB6.size
      have c1 : w6.cell? ⟨w.heap.size, 1, none⟩ = some (.slice a ds.length cap) := cell_of_block ((hB6.block _ hzW).trans hAW) 1
      clear hA hO h5 hB5
      have hE := sw_e was.data.toList will.data.toList (n - 1) (by omega)
      by_cases n1 : n - 1 = 0
      · rw [if_pos n1] at hE
        have hA := sync_any w6 h6
        rw [hE] at hA
        go_wp2_with fail
        refine hA.mono ?_
        rintro e w7 ⟨rfl, h7, hO⟩
        have hB7 := hB6.trans (hO.below hz6 fun _ h => h)
        have hz7 := hB7.size
        have c1 : w7.cell? ⟨w.heap.size, 1, none⟩ = some (.slice a ds.length cap) := cell_of_block ((hB7.block _ hzW).trans hAW) 1
        clear hA hO h6 hB6
        obtain ⟨hc0, hcr⟩ := crash_safe (sw1 was.data.toList will.data.toList 0 true 0) ds (by omega) [97] ⟨was.data.toList, was.data.toList.length⟩ [([98], ⟨will.data.toList, 0⟩)] rfl rfl named_a
        have hC := crash_any w7 h7 a cap ds (hdW.only (Only.of_below hB7)) hn hz hc hr
        rw [hc0] at hC
        clear hc0
        generalize ((sw1 was.data.toList will.data.toList 0 true 0).crash ds).2 = R at *
        go_wp2_with fail
        refine hC.mono ?_
        rintro e w8 ⟨rfl, h8, hO⟩
        have hB8 := hB7.trans (hO.below hz7 fun _ h => h)
        have hz8 := hB8.size
        have hA := read_any w8 h8 ⟨#[97]⟩ (by decide)
        rw [show R.read (ByteArray.mk #[97]).data.toList = _ from hcr] at hA
        simp only [bytes_eta] at hA
        clear hC hcr hO h7 hB7 c1
        have beq : (was.toList == was.toList) = true := by simp
        go_wp2_with fail
        refine hA.mono ?_
        rintro e w9 ⟨rfl, hb⟩
        have hBx := hbW.trans ((hB8.trans (hb.mono hz8)).mono hbW.size)
        clear hA hb h8 hB8
        go_wp2
        all_goals
          go_ret
          exact ⟨rfl, hBx⟩
      · rw [if_neg n1] at hE
        have hA := sync_any w6 h6
        rw [hE] at hA
        go_wp2_with fail
        refine hA.mono ?_
        rintro e w7 ⟨rfl, h7, hO⟩
        have hB7 := hB6.trans (hO.below hz6 fun _ h => h)
        have hz7 := hB7.size
        have c1 : w7.cell? ⟨w.heap.size, 1, none⟩ = some (.slice a ds.length cap) := cell_of_block ((hB7.block _ hzW).trans hAW) 1
        clear hA hO h6 hB6
        have hF := sw_f was.data.toList will.data.toList (n - 1 - 1) (by omega)
        by_cases n2 : n - 1 - 1 = 0
        · rw [if_pos n2] at hF
          have hA := rename_any w7 h7 ⟨#[98]⟩ ⟨#[97]⟩ (by decide) (by decide)
          rw [show (sw1 was.data.toList will.data.toList (n - 1 - 1) false will.data.toList.length).rename (ByteArray.mk #[98]).data.toList (ByteArray.mk #[97]).data.toList = _ from hF] at hA
          go_wp2_with fail
          refine hA.mono ?_
          rintro e w8 ⟨rfl, h8, hO⟩
          have hB8 := hB7.trans (hO.below hz7 fun _ h => h)
          have hz8 := hB8.size
          have c1 : w8.cell? ⟨w.heap.size, 1, none⟩ = some (.slice a ds.length cap) := cell_of_block ((hB8.block _ hzW).trans hAW) 1
          clear hA hO h7 hB7
          obtain ⟨hc0, hcr⟩ := crash_safe (sw1 was.data.toList will.data.toList 0 true will.data.toList.length) ds (by omega) [97] ⟨was.data.toList, was.data.toList.length⟩ [([98], ⟨will.data.toList, will.data.toList.length⟩)] rfl rfl named_a
          have hC := crash_any w8 h8 a cap ds (hdW.only (Only.of_below hB8)) hn hz hc hr
          rw [hc0] at hC
          clear hc0
          generalize ((sw1 was.data.toList will.data.toList 0 true will.data.toList.length).crash ds).2 = R at *
          go_wp2_with fail
          refine hC.mono ?_
          rintro e w9 ⟨rfl, h9, hO⟩
          have hB9 := hB8.trans (hO.below hz8 fun _ h => h)
          have hz9 := hB9.size
          have hA := read_any w9 h9 ⟨#[97]⟩ (by decide)
          rw [show R.read (ByteArray.mk #[97]).data.toList = _ from hcr] at hA
          simp only [bytes_eta] at hA
          clear hC hcr hO h8 hB8 c1
          have beq : (was.toList == was.toList) = true := by simp
          go_wp2_with fail
          refine hA.mono ?_
          rintro e w10 ⟨rfl, hb⟩
          have hBx := hbW.trans ((hB9.trans (hb.mono hz9)).mono hbW.size)
          clear hA hb h9 hB9
          go_wp2
          all_goals
            go_ret
            exact ⟨rfl, hBx⟩
        · rw [if_neg n2] at hF
          have hA := rename_any w7 h7 ⟨#[98]⟩ ⟨#[97]⟩ (by decide) (by decide)
          rw [show (sw1 was.data.toList will.data.toList (n - 1 - 1) false will.data.toList.length).rename (ByteArray.mk #[98]).data.toList (ByteArray.mk #[97]).data.toList = _ from hF] at hA
          go_wp2_with fail
          refine hA.mono ?_
          rintro e w8 ⟨rfl, h8, hO⟩
          have hB8 := hB7.trans (hO.below hz7 fun _ h => h)
          have hz8 := hB8.size
          have c1 : w8.cell? ⟨w.heap.size, 1, none⟩ = some (.slice a ds.length cap) := cell_of_block ((hB8.block _ hzW).trans hAW) 1
          clear hA hO h7 hB7
          obtain ⟨hc0, hcr⟩ := crash_safe (sw2 will.data.toList (n - 1 - 1 - 1)) ds (by omega) [97] ⟨will.data.toList, will.data.toList.length⟩ [] rfl rfl named_a
          have hC := crash_any w8 h8 a cap ds (hdW.only (Only.of_below hB8)) hn hz hc hr
          rw [hc0] at hC
          clear hc0
          generalize ((sw2 will.data.toList (n - 1 - 1 - 1)).crash ds).2 = R at *
          go_wp2_with fail
          refine hC.mono ?_
          rintro e w9 ⟨rfl, h9, hO⟩
          have hB9 := hB8.trans (hO.below hz8 fun _ h => h)
          have hz9 := hB9.size
          have hA := read_any w9 h9 ⟨#[97]⟩ (by decide)
          rw [show R.read (ByteArray.mk #[97]).data.toList = _ from hcr] at hA
          simp only [bytes_eta] at hA
          clear hC hcr hO h8 hB8 c1
          have beq : (will.toList == will.toList) = true := by simp
          go_wp2_with fail
          refine hA.mono ?_
          rintro e w10 ⟨rfl, hb⟩
          have hBx := hbW.trans ((hB9.trans (hb.mono hz9)).mono hbW.size)
          clear hA hb h9 hB9
          go_wp2
          all_goals
            go_ret
            exact ⟨rfl, hBx⟩

end Go.Proofs.Ytmgamfenbbcfhaa.Dk
