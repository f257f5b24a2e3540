/- Walks over points.go: owner; ring.go: Points, Moved. -/
import Derived.Test.YtcmdglmcmifflaaDoorRgIn
namespace Go.Proofs.YtcmdglmcmifflaaDoor.Rg
open Go.RowKit Go.Joins Gk

set_option maxHeartbeats 800000 in
theorem nanS_any (x : Int) (w : World) : Calls Tryd.prog 91 #[.int .u64 x] w fun e w' => e = .returned (.bool false) ∧ w' = w := by
  go_enter Tryd.func91, Tryd.ntmps91
  go_wp2
  go_ret
  exact ⟨by simp, rfl⟩
set_option maxHeartbeats 1600000 in
theorem less_any (x y : Int) (w : World) : Calls Tryd.prog 90 #[.int .u64 x, .int .u64 y] w fun e w' => e = .returned (.bool (decide (x < y))) ∧ w' = w := by
  go_enter Tryd.func90, Tryd.ntmps90
  go_wp2_with (go_at_call 88; refine (Rs.nanU_any _ _).mono ?_; rintro e w' ⟨rfl, hw⟩; rw [hw])
  go_ret
  exact ⟨rfl, rfl⟩
/-- between the two ends of a search -/
structure Btw (h : Int) (l : List Pt) (i j : Nat) : Prop where
  le : i ≤ j
  top : j ≤ l.length
  lo : ∀ t (ht : t < l.length), t < i → hp l[t] < h
  hi : ∀ t (ht : t < l.length), j ≤ t → h ≤ hp l[t]
theorem Btw.up {h : Int} {l : List Pt} (hs : l.Pairwise plt) {i j k : Nat} (b : Btw h l i j) (hk : k < l.length) (h2 : k < j) (hlt : hp l[k] < h) : Btw h l (k + 1) j :=
  ⟨by omega, b.top, fun t ht htk => by have := plt_le hs (i := t) (j := k) (by omega) hk; omega, b.hi⟩
theorem Btw.down {h : Int} {l : List Pt} (hs : l.Pairwise plt) {i j k : Nat} (b : Btw h l i j) (hk : k < l.length) (h2 : i ≤ k) (hge : ¬ hp l[k] < h) : Btw h l i k :=
  ⟨by omega, by omega, b.lo, fun t ht htk => by have := plt_le hs (i := k) (j := t) htk ht; omega⟩

/-- what a search answers: the place, and whether the hash is there -/
def Found (h : Int) (l : List Pt) (e : Ending) : Prop := ∃ bb, e = .returned (.tuple #[.int .i64 (fstHi h l : Nat), .bool bb])

set_option maxHeartbeats 3200000 in
set_option maxRecDepth 100000 in
theorem search_any (g cap : Nat) (h : Int) (l : List Pt) (hs : l.Pairwise plt) (hlen : l.length ≤ 100000) (w : World) (hc : ∀ i (hi : i < l.length), w.cell? ⟨g, i, none⟩ = some (.int .u64 (hp l[i]))) :
    Calls Tryd.prog 76 #[.slice (some ⟨g, 0, none⟩) l.length cap, .int .u64 h] w fun e w' => Found h l e ∧ w' = w := by
  have hL := fun x W => less_any x h W
  have hN := fun x W => nanS_any x W
  have HC := hide hc
  have HS := hide hs
  clear hc hs
  obtain ⟨n, hn⟩ : ∃ n, l.length = n := ⟨_, rfl⟩
  have HN := hide hn
  rw [hn] at hlen ⊢
  clear hn
  go_enter Tryd.func76, Tryd.ntmps76
  go_wp2
  go_loop [7, 8] (fun iv jv => ∃ i j : Nat, j ≤ n ∧ i ≤ j ∧ iv = .int .i64 i ∧ jv = .int .i64 j ∧ Hid (Btw h l i j)) (fun iv jv => (intOf jv).toNat - (intOf iv).toNat)
  case atStart => exact ⟨0, n, Nat.le_refl _, Nat.zero_le _, rfl, rfl, ⟨Nat.zero_le _, by have := HN.out; omega, fun t _ h => by omega, fun t ht h => by have := HN.out; omega⟩⟩
  case round =>
    obtain ⟨i, j, hj, hij, rfl, rfl, HB⟩ := hrel
    by_cases hlt : i < j
    · have i1 : (i : Int) < (j : Int) := by omega
      obtain ⟨k, hk⟩ : ∃ k, k = (i + j) / 2 := ⟨_, rfl⟩
      have k1 : i ≤ k := by omega
      have k2 : k < j := by omega
      have hkl : k < l.length := by have := HN.out; omega
      have q1 : wrap64 ((i : Int) + (j : Int)) = (i : Int) + (j : Int) := by unfold wrap64; omega
      have q2 : IntKind.u64.wrap ((i : Int) + (j : Int)) = (i : Int) + (j : Int) := by rw [IntKind.wrap_u64]; omega
      have q3 : ((i : Int) + (j : Int)) / 2 = (k : Int) := by omega
      have q4 : IntKind.u64.wrap (k : Int) = (k : Int) := by rw [IntKind.wrap_u64]; omega
      have q5 : IntKind.i64.wrap (k : Int) = (k : Int) := by rw [IntKind.wrap_i64]; omega
      have q6 : (k : Int) < (n : Int) := by omega
      have c0 := HC.out k hkl
      have HU := hide (fun e => HB.out.up HS.out hkl k2 e)
      have HD := hide (fun e => HB.out.down HS.out hkl k1 e)
      generalize hp l[k] = x at c0 HU HD
      clear hk hkl
      by_cases hx : x < h
      · go_wp2_with (go_at_call 90; refine (hL _ _).mono ?_; rintro e w' ⟨rfl, hw⟩; obtain rfl := hw.symm)
        go_round
        case rel => exact ⟨k + 1, j, hj, by omega, by go_num, rfl, HU.out hx⟩
        case measure => simp [intOf]; omega
      · go_wp2_with (go_at_call 90; refine (hL _ _).mono ?_; rintro e w' ⟨rfl, hw⟩; obtain rfl := hw.symm)
        go_round
        case rel => exact ⟨i, k, by omega, by omega, rfl, rfl, HD.out hx⟩
        case measure => simp [intOf]; omega
    · have i1 : ¬ (i : Int) < (j : Int) := by omega
      have hji : j = i := by omega
      have HF := hide (show (fstHi h l : Nat) = i from fstHi_unique (by have := HB.out.top; omega) HB.out.lo (by rw [← hji]; exact HB.out.hi))
      clear hji
      by_cases hin : i < n
      · have i2 : (i : Int) < (n : Int) := by omega
        have c0 := HC.out i (by have := HN.out; omega)
        generalize hp (l[i]'(by have := HN.out; omega)) = x at c0
        by_cases hx : x = h
        · have hb : (x == h) = true := by simp [hx]
          go_wp2
          go_ret2
          exact ⟨⟨true, by rw [HF.out]; rfl⟩, rfl⟩
        · have hb : (x == h) = false := by simp [hx]
          go_wp2_with (go_at_call 91; refine (hN _ _).mono ?_; rintro e w' ⟨rfl, hw⟩; obtain rfl := hw.symm)
          go_ret2
          exact ⟨⟨false, by rw [HF.out]; rfl⟩, rfl⟩
      · have i2 : ¬ (i : Int) < (n : Int) := by omega
        go_wp2
        go_ret2
        exact ⟨⟨false, by rw [HF.out]; rfl⟩, rfl⟩

/-- the chain of a hash -/
def ow (ws : List Int) (h : Int) : Int := (met h (pts ws)).1
theorem Owns.ow {ws : List Int} {h : Int} {c : Nat} (a : Owns ws h c) : (c : Int) = ow ws h := by
  obtain ⟨p, hp, rfl⟩ := a
  have hne : pts ws ≠ [] := fun e => by have := hp.1; rw [e] at this; cases this
  obtain ⟨q, hq, hm⟩ := met_near h (pts ws) (lex_pts ws) hne
  rw [Rg.ow, hm, hp.unique hq]
theorem May.ow {ws : List Int} (hM : May ws) (h : Int) : ∃ c, Owns ws h c ∧ ow ws h = (c : Int) := by
  obtain ⟨p, hp, hm⟩ := met_near h (pts ws) (lex_pts ws) hM.pts_ne
  exact ⟨p.1, ⟨p, hp, rfl⟩, by rw [Rg.ow, hm]⟩
theorem of_ow (a : Option Addr) (cap : Nat) (ws : List Int) (hM : May ws) (key : ByteArray) (hs : key.size ≤ 9223372036854775807) (w : World) (hl : Lies w ienc a ws) (hT : Tab w) :
    Calls Tryd.prog 10 #[.slice a ws.length cap, .string key] w fun e w' => e = .returned (.tuple #[.int .i64 (ow ws (hashL key.data.toList)), .int .i64 0]) ∧ Below w.heap.size w w' :=
  (of_yes a cap ws hM key hs w hl hT).mono fun e w' ⟨⟨c, hc, he⟩, hb⟩ => ⟨by rw [he, hc.ow], hb⟩

set_option maxHeartbeats 3200000 in
set_option maxRecDepth 100000 in
theorem owner_any (ga ca gc cc : Nat) (h : Int) (h0 : 0 ≤ h ∧ h < 18446744073709551616) (ws : List Int) (l : List Pt) (hS : Srt ws l) (hne : 0 < l.length) (hlen : l.length ≤ 100000) (w : World)
    (ra : Row w uenc U64T 1 (.slice (some ⟨ga, 0, none⟩) l.length ca) l) (rc' : Row w cenc IntT 1 (.slice (some ⟨gc, 0, none⟩) l.length cc) l) :
    Calls Tryd.prog 68 #[.agg #[.slice (some ⟨ga, 0, none⟩) l.length ca, .slice (some ⟨gc, 0, none⟩) l.length cc], .int .u64 h] w fun e w' => e = .returned (.int .i64 (ow ws h)) ∧ Gr w w' := by
  have hlt : fstHi h l % l.length < l.length := Nat.mod_lt _ hne
  have HO := hide ((owns_sorted hS h0 hne hlt).ow)
  have hga := (ra.celled uenc_len 0 hne).1
  have hgc := (rc'.celled cenc_len 0 hne).1
  have hSr := fun W (hb : Below w.heap.size w W) => search_any ga ca h l hS.sorted hlen W (fun i hi => by
    have h1 := (ra.celled uenc_len i hi).2 0 _ rfl
    rw [Nat.mul_one, Nat.add_zero] at h1
    exact (hb.cell (p := ⟨ga, i, none⟩) hga).trans h1)
  have k0 := (rc'.celled cenc_len (fstHi h l % l.length) hlt).2 0 _ rfl
  rw [Nat.mul_one, Nat.add_zero] at k0
  have hfl := fstHi_le h l
  generalize ((l[fstHi h l % l.length]).1 : Int) = y at k0 HO
  obtain ⟨r, hr⟩ : ∃ r, fstHi h l % l.length = r := ⟨_, rfl⟩
  rw [hr] at k0 hlt
  have hr' : ((fstHi h l : Nat) : Int).tmod (l.length : Int) = (r : Int) := by rw [← hr, Int.tmod_eq_emod_of_nonneg (by omega)]; simp
  have hr2 : ((fstHi h l : Nat) : Int) % (l.length : Int) = (r : Int) := by rw [← hr]; simp
  unfold Found at hSr
  generalize fstHi h l = f at hSr hr' hr2 hfl
  generalize l.length = n at *
  have i1 : (r : Int) < (n : Int) := by omega
  have i2 : ¬ (n : Int) = 0 := by omega
  have i3 : ¬ n = 0 := by omega
  clear hr ra rc'
  go_enter Tryd.func68, Tryd.ntmps68
  go_wp2_with fail
  refine (hSr _ (below_alloc1 w _)).mono ?_
  rintro e w1 ⟨⟨bb, rfl⟩, rfl⟩
  have kk := ((below_alloc1 w (.cells #[.slice (some ⟨ga, 0, none⟩) n ca, .slice (some ⟨gc, 0, none⟩) n cc] PtsT)).cell (p := ⟨gc, r, none⟩) hgc).trans k0
  go_wp2
  go_quiet (fail)
  go_wp2
  go_ret
  exact ⟨by rw [HO.out]; rfl, ((Gr.refl _).alloc _).drewN _⟩

end Go.Proofs.YtcmdglmcmifflaaDoor.Rg
