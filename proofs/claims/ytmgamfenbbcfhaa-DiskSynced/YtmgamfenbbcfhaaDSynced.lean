/- DiskSynced: behind a sync a crash changes nothing, whatever is drawn; nor does a crash behind a crash. -/
import Derived.Test.YtmgamfenbbcfhaaDPlain
namespace Go.Proofs.Ytmgamfenbbcfhaa.Dk
open Go.RowKit Go.Maps Go.Joins

theorem LiesI.into {w W : World} {own : Nat → Prop} {a : Option Addr} {ds : List Int} (h : LiesI w (since w.heap.size) a ds) (hb : Below w.heap.size w W) (ho : ∀ b, own b → w.heap.size ≤ b) : LiesI W own a ds := by
  rcases h with rfl | ⟨b, off, rfl, hlt, _, hl⟩
  · exact Or.inl rfl
  · exact Or.inr ⟨b, off, rfl, Nat.lt_of_lt_of_le hlt hb.size, fun e => by have := ho b e; omega, fun i hi => (hb.cell (p := ⟨b, off + i, none⟩) hlt).trans (hl i hi)⟩
/-- the disk behind a crash -/
def crashed (S : St) (ds : List Int) : St := { S with files := crashL S.files ds, fuse := -1, down := false }
theorem sy_1 (S : St) (ds : List Int) (h : ds.length ≤ 4096) : S.crash ds = (0, crashed S ds) := by rw [St.crash, if_neg (by omega)]; rfl
theorem sy_2 {S : St} (hok : S.Ok) (ds : List Int) : (crashed S ds).crash [] = (0, crashed S ds) := by
  rw [St.crash, if_neg (by simp)]
  have := crash_all_safe (crashL S.files ds) [] (crash_safe_all S.files ds fun p hp => (hok.each p hp).2)
  simp only [crashed, this]
theorem sy_3 {S : St} {r : Nat} (hu : S.Up r) : S.sync = (0, { S with files := syncL S.files }) := by rw [St.sync, hu.do]
theorem sy_4 {S : St} {r : Nat} (hu : S.Up r) (ds : List Int) (h : ds.length ≤ 4096) : ({ S with files := syncL S.files } : St).crash ds = (0, { S with files := syncL S.files }) := by
  rw [St.crash, if_neg (by omega)]
  simp only [crash_all_safe _ ds (sync_safe S.files), hu.fuse, hu.down]

set_option maxHeartbeats 6400000 in
set_option maxRecDepth 100000 in
theorem synced_law (room : Int) (a : Option Addr) (cap : Nat) (ac : List ActV) (da : Option Addr) (dc : Nat) (ds : List Int) (w : World) (hr : (Lit.int .i64 room).wf = true) (hA : ActsAt w a ac) (hI : IntsAt w da dc ds) :
    Calls Try.prog 5 #[.int .i64 room, .slice a ac.length cap, .slice da ds.length dc] w fun e w' => e = .returned (.bool true) ∧ Below w.heap.size w w' := by
  obtain ⟨r0, r1⟩ := bounds_i64 hr
  go_enter Try.func5, Try.ntmps5
  go_wp2_with fail
  refine (works_any w).mono ?_
  rintro e w1 ⟨rfl, hb1⟩
  have hz1 := hb1.size
  have hG := fun W hb => grown_law room a cap ac w W hA hb r0 r1
  have hup := grownS_up (room % 2000).toNat ac (min 100 ac.length)
  generalize (room % 2000).toNat = rm at *
  generalize grownS rm ac (min 100 ac.length) = S at *
  have hG1 := hG w1 hb1
  go_wp2_with fail
  refine hG1.mono ?_
  rintro e w2 ⟨bd, rfl, h2, hb2⟩
  have hok := h2.ok
  have hB2 := hb1.trans (hb2.mono hz1)
  have hz2 := hB2.size
  clear hG1 hb2 hb1
  by_cases hlong : 4096 < ds.length
  · go_wp2
    go_ret
    exact ⟨rfl, hB2⟩
  · have g2 : (ds.length : Int) ≤ 4096 := by omega
    have hown : ∀ b, since w1.heap.size b → w.heap.size ≤ b := fun b h => Nat.le_trans hz1 h
    have hA := crash_any w2 h2 da dc ds (hI.lies.into hB2 hown) hI.room hI.nil hI.max hI.each
    rw [sy_1 S ds (by omega)] at hA
    go_wp2_with fail
    refine hA.mono ?_
    rintro e w3 ⟨rfl, h3, hO⟩
    have hB3 := hB2.trans (hO.below hz2 hown)
    have hz3 := hB3.size
    clear hA hO h2 hB2
    have hAl := all_any w3 h3
    go_wp2_with fail
    refine hAl.mono ?_
    rintro e w4 ⟨v4, rfl, hown4, hb4⟩
    obtain ⟨a4, c4, rfl, hl4⟩ := own_liesT hown4
    have h4 := h3.renew hb4
    have hno := row_not (own := since w1.heap.size) hown4 (Nat.le_refl _)
    have hB4 := hB3.trans (hb4.mono hz3)
    have hz4 := hB4.size
    have hown2 : ∀ b, renew (since w1.heap.size) w3.heap.size w4.heap.size b → w.heap.size ≤ b := by
      rintro b (⟨h1, _⟩ | h1)
      · exact hown b h1
      · omega
    generalize renew (since w1.heap.size) w3.heap.size w4.heap.size = own at *
    have hlen : (allOf (crashed S ds).files).length ≤ 128 := by rw [allOf_length]; have := h4.ok.many; omega
    clear hAl hown4 hb4 hB3 h3
    have hA := crash_any w4 h4 none 0 [] (Or.inl rfl) (by simp) (by simp) (by omega) (by simp)
    rw [sy_2 hok ds] at hA
    go_wp2_with fail
    refine hA.mono ?_
    rintro e w5 ⟨rfl, h5, hO⟩
    have hB5 := hB4.trans (hO.below hz4 hown2)
    have hz5 := hB5.size
    have hl5 := hl4.only hno hO
    clear hA hO h4 hB4 hl4
    have hAl := all_any w5 h5
    go_wp2_with fail
    refine hAl.mono ?_
    rintro e w6 ⟨v6, rfl, hown6, hb6⟩
    obtain ⟨a6, c6, rfl, hl6⟩ := own_liesT hown6
    have hB6 := hB5.trans (hb6.mono hz5)
    have hz6 := hB6.size
    have hlb := hl5.later hb6
    clear hAl hown6 hb6 hB5 h5 hl5
    go_wp2_with fail
    refine (sameT_any a6 a4 c6 c4 (allOf (crashed S ds).files) w6 hl6 hlb (by omega)).mono ?_
    rintro e w7 ⟨rfl, hb7⟩
    have hB7 := hB6.trans (hb7.mono hz6)
    have hz7 := hB7.size
    clear hb7 hB6 hlb hl6 hno hown2 hown
    have hG1 := hG w7 hB7
    go_wp2_with fail
    refine hG1.mono ?_
    rintro e w8 ⟨bd', rfl, h8, hb8⟩
    have hB8 := hB7.trans (hb8.mono hz7)
    have hz8 := hB8.size
    have hown : ∀ b, since w7.heap.size b → w.heap.size ≤ b := fun b h => Nat.le_trans hz7 h
    clear hG1 hG hB7
    have hA := sync_any w8 h8
    rw [sy_3 hup] at hA
    go_wp2_with fail
    refine hA.mono ?_
    rintro e w9 ⟨rfl, h9, hO⟩
    have hB9 := hB8.trans (hO.below hz8 hown)
    have hz9 := hB9.size
    clear hA hO h8 hB8 hb8
    have hAl := all_any w9 h9
    go_wp2_with fail
    refine hAl.mono ?_
    rintro e w10 ⟨v10, rfl, hown10, hb10⟩
    obtain ⟨a10, c10, rfl, hl10⟩ := own_liesT hown10
    have h10 := h9.renew hb10
    have hno := row_not (own := since w7.heap.size) hown10 (Nat.le_refl _)
    have hB10 := hB9.trans (hb10.mono hz9)
    have hz10 := hB10.size
    have hown2 : ∀ b, renew (since w7.heap.size) w9.heap.size w10.heap.size b → w.heap.size ≤ b := by
      rintro b (⟨h1, _⟩ | h1)
      · exact hown b h1
      · omega
    generalize renew (since w7.heap.size) w9.heap.size w10.heap.size = own at *
    have hlen2 : (allOf (syncL S.files)).length ≤ 128 := by rw [allOf_sync, allOf_length]; have := hok.many; omega
    clear hAl hown10 hb10 hB9 h9
    have hA := crash_any w10 h10 da dc ds (hI.lies.into hB10 hown2) hI.room hI.nil hI.max hI.each
    rw [sy_4 hup ds (by omega)] at hA
    go_wp2_with fail
    refine hA.mono ?_
    rintro e w11 ⟨rfl, h11, hO⟩
    have hB11 := hB10.trans (hO.below hz10 hown2)
    have hz11 := hB11.size
    have hl11 := hl10.only hno hO
    clear hA hO h10 hB10 hl10
    have hAl := all_any w11 h11
    go_wp2_with fail
    refine hAl.mono ?_
    rintro e w12 ⟨v12, rfl, hown12, hb12⟩
    obtain ⟨a12, c12, rfl, hl12⟩ := own_liesT hown12
    have hB12 := hB11.trans (hb12.mono hz11)
    have hz12 := hB12.size
    have hlb := hl11.later hb12
    clear hAl hown12 hb12 hB11 h11 hl11
    go_wp2_with fail
    refine (sameT_any a12 a10 c12 c10 (allOf (syncL S.files)) w12 hl12 hlb (by omega)).mono ?_
    rintro e w13 ⟨rfl, hb13⟩
    have hB13 := hB12.trans (hb13.mono hz12)
    clear hb13 hB12 hlb hl12
    go_wp2
    go_ret
    exact ⟨rfl, hB13⟩

end Go.Proofs.Ytmgamfenbbcfhaa.Dk
