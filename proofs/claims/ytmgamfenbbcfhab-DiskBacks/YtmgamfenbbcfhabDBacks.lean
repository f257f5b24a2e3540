/- DiskBacks: what is appended and cut off again leaves the file as it was, now and behind a sync and a crash. -/
import Derived.Test.YtmgamfenbbcfhabDPlain
namespace Go.Proofs.Ytmgamfenbbcfhab.Dk
open Go.RowKit Go.Maps Go.Joins

theorem nmBa : named [97] = true := by decide
theorem bk_app {S : St} (hu : S.Up 1000) {f : Fil} (hg : getL [97] S.files = some f) (d : Bs) (hd : used S.files + d.length ≤ 1000) :
    S.append [97] d = (0, { S with files := putL [97] ⟨f.data ++ d, f.safe⟩ S.files }) := by
  have hr := hu.room
  rw [St.append, if_neg (by rw [nmBa]; simp), if_neg (by rw [hg]; simp; omega), hu.do]
  simp [fileOr, hg]
theorem bk_cut {S : St} (h : S.Ok) (hu : S.Up 1000) {f : Fil} (hg : getL [97] S.files = some f) (d : Bs) :
    ({ S with files := putL [97] ⟨f.data ++ d, f.safe⟩ S.files } : St).cut [97] (f.data.length : Nat) = (0, S) := by
  have hs := (h.each _ (getL_some hg)).2
  simp only at hs
  rw [St.cut, if_neg (by rw [nmBa]; simp)]
  simp only [getL_put h.rising]
  rw [if_neg (by simp only [List.length_append]; omega), (hu.with _).do]
  simp only [putL_put h.rising, Int.toNat_natCast, List.take_left, Nat.min_eq_left hs]
  rw [show (⟨f.data, f.safe⟩ : Fil) = f from rfl, putL_same h.rising hg]
theorem bk_sync {S : St} (hu : S.Up 1000) : S.sync = (0, { S with files := syncL S.files }) := by rw [St.sync, hu.do]
theorem bk_crash {S : St} (hu : S.Up 1000) (ds : List Int) (h : ds.length ≤ 4096) : ({ S with files := syncL S.files } : St).crash ds = (0, { S with files := syncL S.files }) := by
  rw [St.crash, if_neg (by omega)]
  simp only [crash_all_safe _ ds (sync_safe S.files), hu.fuse, hu.down]

theorem LiesI.to {w W : World} {own : Nat → Prop} {a : Option Addr} {ds : List Int} (h : LiesI w (since w.heap.size) a ds) (hb : Below w.heap.size w W) (ho : ∀ b, own b → w.heap.size ≤ b) : LiesI W own a ds := by
  rcases h with rfl | ⟨b, off, rfl, hlt, _, hl⟩
  · exact Or.inl rfl
  · exact Or.inr ⟨b, off, rfl, Nat.lt_of_lt_of_le hlt hb.size, fun e => by have := ho b e; omega, fun i hi => (hb.cell (p := ⟨b, off + i, none⟩) hlt).trans (hl i hi)⟩

set_option maxHeartbeats 6400000 in
set_option maxRecDepth 100000 in
theorem backs_law (a : Option Addr) (cap : Nat) (ac : List ActV) (data : ByteArray) (da : Option Addr) (dc : Nat) (ds : List Int) (w : World) (hA : ActsAt w a ac) (hd : data.size ≤ 140737488351232) (hI : IntsAt w da dc ds) :
    Calls Try.prog 3 #[.slice a ac.length cap, .string data, .slice da ds.length dc] w fun e w' => e = .returned (.bool true) ∧ Below w.heap.size w w' := by
  have hdl : data.data.toList.length = data.size := (Lib.size_eq data).symm
  go_enter Try.func3, Try.ntmps3
  go_wp2_with fail
  refine (works_any w).mono ?_
  rintro e w1 ⟨rfl, hb1⟩
  have hz1 := hb1.size
  have hG := grown_law 1000 a cap ac w w1 hA hb1 (by omega) (by omega)
  rw [show ((1000 : Int) % 2000).toNat = 1000 from rfl] at hG
  have hup := grownS_up 1000 ac (min 100 ac.length)
  generalize grownS 1000 ac (min 100 ac.length) = S at *
  go_wp2_with fail
  refine hG.mono ?_
  rintro e w2 ⟨bd, rfl, h2, hb2⟩
  have hok := h2.ok
  have hB2 := hb1.trans (hb2.mono hz1)
  have hz2 := hB2.size
  have hAl := all_any w2 h2
  clear hG hb2 hb1
  go_wp2_with fail
  refine hAl.mono ?_
  rintro e w3 ⟨v, rfl, hown3, hb3⟩
  obtain ⟨an, cn, rfl⟩ := own_slice hown3
  have h3 := h2.renew hb3
  have hno := row_not (own := since w1.heap.size) hown3 hz2
  obtain ⟨an', cn', e, hlT⟩ := own_liesT hown3
  cases e
  have hB3 := hB2.trans (hb3.mono hz2)
  have hz3 := hB3.size
  have hown : ∀ b, renew (since w1.heap.size) w2.heap.size w3.heap.size b → w.heap.size ≤ b := by
    rintro b (⟨h1, _⟩ | h1)
    · simp only [since] at h1; omega
    · omega
  have hfr : ∀ W : World, w3.heap.size ≤ W.heap.size → Fresh (renew (since w1.heap.size) w2.heap.size w3.heap.size) W := fun W h => fresh_renew h
  have hlen : (allOf S.files).length ≤ 128 := by rw [allOf_length]; have := hok.many; omega
  generalize renew (since w1.heap.size) w2.heap.size w3.heap.size = own at *
  have hRd := read_any w3 h3 ⟨#[97]⟩ (by decide)
  clear hAl hb3 hB2 hown3 h2
  cases hg : getL [97] S.files with
  | none =>
    rw [show S.read (ByteArray.mk #[97]).data.toList = ([], 5) from by show S.read [97] = _; rw [St.read, if_neg (by rw [nmBa]; simp), hg]] at hRd
    go_wp2_with fail
    refine hRd.mono ?_
    rintro e w4 ⟨rfl, hb4⟩
    have hB4 := hB3.trans (hb4.mono hz3)
    clear hRd
    go_wp2
    go_ret
    exact ⟨rfl, hB4⟩
  | some f =>
    rw [show S.read (ByteArray.mk #[97]).data.toList = (f.data, 0) from by show S.read [97] = _; rw [St.read, if_neg (by rw [nmBa]; simp), hg]] at hRd
    go_wp2_with fail
    refine hRd.mono ?_
    rintro e w4 ⟨rfl, hb4⟩
    have hB4 := hB3.trans (hb4.mono hz3)
    have hz4 := hB4.size
    have h4 := h3.below hb4
    have hl4 := hlT.later hb4
    have hU := used_held w4 h4
    have hzz := hb4.size
    have hus := hok.sum
    rw [hup.room] at hus
    clear hRd hb4 hB3 h3 hlT
    generalize hq : used S.files = q at *
    have hwr : IntKind.i64.wrap ((1000 : Int) - (q : Int)) = 1000 - (q : Int) := wrap_small (by omega) (by omega)
    go_wp2_with fail
    refine hU.mono ?_
    rintro e w5 ⟨rfl, hb5⟩
    have hB5 := hB4.trans (hb5.mono hz4)
    have hz5 := hB5.size
    have h5 := h4.below hb5
    have hl5 := hl4.later hb5
    have hzz5 := Nat.le_trans hzz hb5.size
    clear hU hb5 hB4 h4 hl4
    by_cases hlong : (1000 : Int) - (q : Int) < (data.size : Int) ∨ 4096 < ds.length
    · go_wp2
      all_goals
        go_ret
        exact ⟨rfl, hB5⟩
    · have g1 : (data.size : Int) ≤ 1000 - (q : Int) := by omega
      have g2 : (ds.length : Int) ≤ 4096 := by omega
      have hA := append_any w5 h5 (hfr w5 hzz5) ⟨#[97]⟩ data (by decide) hd
      rw [show S.append (ByteArray.mk #[97]).data.toList data.data.toList = _ from bk_app hup hg data.data.toList (by omega)] at hA
      go_wp2_with fail
      refine hA.mono ?_
      rintro e w6 ⟨rfl, h6, hO⟩
      have hB6 := hB5.trans (hO.below hz5 hown)
      have hz6 := hB6.size
      have hl6 := hl5.only hno hO
      have hzz6 := Nat.le_trans hzz5 hO.size
      clear hA hO h5 hB5 hl5
      have hA := cut_any w6 h6 (hfr w6 hzz6) ⟨#[97]⟩ (f.data.length : Nat) (by decide) (by omega) (by have := le_sumL (fun f : Fil => f.data.length) (getL_some hg); simp only [used] at hq; simp only at this; omega)
      rw [show (St.mk S.room (putL [97] ⟨f.data ++ data.data.toList, f.safe⟩ S.files) S.fuse S.down).cut (ByteArray.mk #[97]).data.toList (f.data.length : Nat) = _ from bk_cut hok hup hg data.data.toList] at hA
      go_wp2_with fail
      refine hA.mono ?_
      rintro e w7 ⟨rfl, h7, hO⟩
      have hB7 := hB6.trans (hO.below hz6 hown)
      have hz7 := hB7.size
      have hl7 := hl6.only hno hO
      clear hA hO h6 hB6 hl6
      have hAl := all_any w7 h7
      go_wp2_with fail
      refine hAl.mono ?_
      rintro e w8 ⟨v8, rfl, hown8, hb8⟩
      obtain ⟨a8, c8, rfl, hl8⟩ := own_liesT hown8
      have hB8 := hB7.trans (hb8.mono hz7)
      have hz8 := hB8.size
      have h8 := h7.below hb8
      have hlb := hl7.later hb8
      clear hAl hown8 hb8 h7 hB7 hl7
      go_wp2_with fail
      refine (sameT_any a8 an c8 cn (allOf S.files) w8 hl8 hlb (by omega)).mono ?_
      rintro e w9 ⟨rfl, hb9⟩
      have hB9 := hB8.trans (hb9.mono hz8)
      have hz9 := hB9.size
      have h9 := h8.below hb9
      have hl9 := hlb.later hb9
      clear hb9 h8 hB8 hlb hl8
      have hA := sync_any w9 h9
      rw [bk_sync hup] at hA
      go_wp2_with fail
      refine hA.mono ?_
      rintro e w10 ⟨rfl, h10, hO⟩
      have hB10 := hB9.trans (hO.below hz9 hown)
      have hz10 := hB10.size
      have hl10 := hl9.only hno hO
      clear hA hO h9 hB9 hl9
      have hA := crash_any w10 h10 da dc ds (hI.lies.to hB10 hown) hI.room hI.nil hI.max hI.each
      rw [bk_crash hup ds (by omega)] at hA
      go_wp2_with fail
      refine hA.mono ?_
      rintro e w11 ⟨rfl, h11, hO⟩
      have hB11 := hB10.trans (hO.below hz10 hown)
      have hz11 := hB11.size
      have hl11 := hl10.only hno hO
      clear hA hO h10 hB10 hl10
      have hAl := all_any w11 h11
      rw [allOf_sync] at hAl
      go_wp2_with fail
      refine hAl.mono ?_
      rintro e w12 ⟨v12, rfl, hown12, hb12⟩
      obtain ⟨a12, c12, rfl, hl12⟩ := own_liesT hown12
      have hB12 := hB11.trans (hb12.mono hz11)
      have hz12 := hB12.size
      have hlb := hl11.later hb12
      clear hAl hown12 hb12 h11 hB11 hl11
      go_wp2_with fail
      refine (sameT_any a12 an c12 cn (allOf S.files) w12 hl12 hlb (by omega)).mono ?_
      rintro e w13 ⟨rfl, hb13⟩
      have hB13 := hB12.trans (hb13.mono hz12)
      clear hb13 hB12 hlb hl12
      go_wp2
      go_ret
      exact ⟨rfl, hB13⟩

end Go.Proofs.Ytmgamfenbbcfhab.Dk
