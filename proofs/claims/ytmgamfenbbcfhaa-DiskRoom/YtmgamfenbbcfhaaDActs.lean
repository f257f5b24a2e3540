/- Calls of a disk ac a list: where they lie; grown(), of the laws. -/
import Derived.Test.YtmgamfenbbcfhaaDAll
namespace Go.Proofs.Ytmgamfenbbcfhaa.Dk
open Go.RowKit Go.Maps Go.Joins

structure ActV where
  kind : Int
  name : ByteArray
  to : ByteArray
  n : Int
  dr : Option Addr
  dc : Nat
  ds : List Int
/-- the calls of a slice lie behind its address -/
def LiesA (w : World) (a : Option Addr) (ac : List ActV) : Prop := ac = [] ∨ ∃ b off, a = some ⟨b, off, none⟩ ∧ b < w.heap.size ∧ ∀ i (h : i < ac.length),
  w.cell? ⟨b, off + i * 5, none⟩ = some (.int .i64 ac[i].kind) ∧ w.cell? ⟨b, off + i * 5 + 1, none⟩ = some (.string ac[i].name) ∧ w.cell? ⟨b, off + i * 5 + 2, none⟩ = some (.string ac[i].to) ∧ w.cell? ⟨b, off + i * 5 + 3, none⟩ = some (.int .i64 ac[i].n) ∧
  w.cell? ⟨b, off + i * 5 + 4, none⟩ = some (.slice ac[i].dr ac[i].ds.length ac[i].dc)
theorem LiesA.at {w wr : World} {a : Option Addr} {ac : List ActV} (h : LiesA w a ac) (k : Nat) (hk : k < ac.length) (hb : Below w.heap.size w wr) : ∃ b off, a = some ⟨b, off, none⟩ ∧
    wr.cell? ⟨b, off + k * 5, none⟩ = some (.int .i64 ac[k].kind) ∧ wr.cell? ⟨b, off + k * 5 + 1, none⟩ = some (.string ac[k].name) ∧ wr.cell? ⟨b, off + k * 5 + 2, none⟩ = some (.string ac[k].to) ∧ wr.cell? ⟨b, off + k * 5 + 3, none⟩ = some (.int .i64 ac[k].n) ∧
    wr.cell? ⟨b, off + k * 5 + 4, none⟩ = some (.slice ac[k].dr ac[k].ds.length ac[k].dc) := by
  rcases h with rfl | ⟨b, off, rfl, hlt, hl⟩
  · simp at hk
  · obtain ⟨c0, c1, c2, c3, c4⟩ := hl k hk
    exact ⟨b, off, rfl, (hb.cell (p := ⟨b, _, none⟩) hlt).trans c0, (hb.cell (p := ⟨b, _, none⟩) hlt).trans c1, (hb.cell (p := ⟨b, _, none⟩) hlt).trans c2, (hb.cell (p := ⟨b, _, none⟩) hlt).trans c3, (hb.cell (p := ⟨b, _, none⟩) hlt).trans c4⟩
/-- a call's numbers and texts are such ac can be read -/
structure ActV.Fits (x : ActV) : Prop where
  k0 : -9223372036854775808 ≤ x.kind
  k1 : x.kind ≤ 9223372036854775807
  nm : x.name.size ≤ 140737488351232
  tt : x.to.size ≤ 140737488351232
  n0 : -9223372036854775808 ≤ x.n
  n1 : x.n ≤ 9223372036854775807
structure ActsAt (W : World) (a : Option Addr) (ac : List ActV) : Prop where
  lies : LiesA W a ac
  each : ∀ x ∈ ac, x.Fits ∧ IntsAt W x.dr x.dc x.ds
  many : ac.length ≤ 9223372036854775807

def stepG (S : St) (x : ActV) : St :=
  if x.kind % 5 = 0 then (S.append x.name.data.toList x.to.data.toList).2
  else if x.kind % 5 = 1 then (S.cut x.name.data.toList x.n).2
  else if x.kind % 5 = 2 then S.sync.2
  else if x.kind % 5 = 3 then (S.rename x.name.data.toList x.to.data.toList).2
  else (S.remove x.name.data.toList).2
def grownS (room : Nat) (ac : List ActV) (i : Nat) : St := (ac.take i).foldl stepG (St.new room)
theorem grownS_next (room : Nat) {ac : List ActV} {i : Nat} (h : i < ac.length) : grownS room ac (i + 1) = stepG (grownS room ac i) ac[i] := by
  rw [grownS, List.take_succ_eq_append_getElem h, List.foldl_append]; rfl

set_option maxHeartbeats 3200000 in
set_option maxRecDepth 100000 in
theorem grown_law (room : Int) (a : Option Addr) (cap : Nat) (ac : List ActV) (W w : World) (hW : ActsAt W a ac) (hWw : Below W.heap.size W w) (r0 : -9223372036854775808 ≤ room) (r1 : room ≤ 9223372036854775807) :
    Calls Try.prog 23 #[.int .i64 room, .slice a ac.length cap] w fun e w' => ∃ bd, e = .returned (.pointer (some ⟨bd, 0, none⟩)) ∧ Held w' (since w.heap.size) bd (grownS (room % 2000).toNat ac (min 100 ac.length)) ∧ Below w.heap.size w w' := by
  have m0 := Int.emod_nonneg room (show (2000 : Int) ≠ 0 by omega)
  have m1 := Int.emod_lt_of_pos room (show (0 : Int) < 2000 by omega)
  obtain ⟨m, hm⟩ : ∃ m : Nat, room % 2000 = m := ⟨(room % 2000).toNat, by omega⟩
  have hmn : (room % 2000).toNat = m := by omega
  rw [hmn]
  have hmm := hW.many
  go_enter Try.func23, Try.ntmps23
  go_wp2_with fail
  refine (among_any room 2000 w (by omega) (by omega) r0 r1).mono ?_
  rintro e w' ⟨rfl, rfl⟩
  rw [hm]
  go_wp2_with fail
  refine (new_ok m w' (by omega)).mono ?_
  rintro e w1 ⟨bd, rfl, h1, hb1⟩
  clear hm hmn m0 m1
  go_wp2
  go_loopw [7] (fun i wr => ∃ k : Nat, k ≤ ac.length ∧ k ≤ 100 ∧ i = .int .i64 k ∧ Held wr (since w'.heap.size) bd (grownS m ac k) ∧ Below w'.heap.size w' wr) (fun i _ => ac.length - (intOf i).toNat)
  case atStart => exact ⟨0, by omega, by omega, rfl, h1, hb1⟩
  case round =>
    obtain ⟨k, hk, hk1, rfl, hH, hB⟩ := hrel
    have hz := hB.size
    by_cases hlt : k < ac.length ∧ k < 100
    · obtain ⟨b, off, rfl, c0, c1, c2, c3, c4⟩ := hW.lies.at k hlt.1 (hWw.trans (hB.mono hWw.size))
      have hF := (hW.each _ (List.getElem_mem hlt.1)).1
      have HG := hide (grownS_next m hlt.1)
      have i1 : (0 : Int) ≤ (k : Int) := by omega
      have i2 : (k : Int) < (ac.length : Int) := by omega
      have i3 : (k : Int) < 100 := by omega
      generalize ac[k] = x at *
      generalize grownS m ac k = S0 at *
      have hB2 := hB.alloc hz (.cells #[.int .i64 x.kind, .string x.name, .string x.to, .int .i64 x.n, .slice x.dr x.ds.length x.dc] 44)
      have hH2 := hH.below (below_alloc1 wr (.cells #[.int .i64 x.kind, .string x.name, .string x.to, .int .i64 x.n, .slice x.dr x.ds.length x.dc] 44))
      have hz2 := hB2.size
      have q0 := Int.emod_nonneg x.kind (show (5 : Int) ≠ 0 by omega)
      have q1 := Int.emod_lt_of_pos x.kind (show (0 : Int) < 5 by omega)
      clear hH hB
      go_wp2_with fail
      refine (among_any x.kind 5 _ (by omega) (by omega) hF.k0 hF.k1).mono ?_
      rintro e w2 ⟨rfl, rfl⟩
      rcases (show x.kind % 5 = 0 ∨ x.kind % 5 = 1 ∨ x.kind % 5 = 2 ∨ x.kind % 5 = 3 ∨ x.kind % 5 = 4 by omega) with hc | hc | hc | hc | hc
      · have HS := hide (show stepG S0 x = _ from by unfold stepG; rw [if_pos hc])
        have hA := append_any _ hH2 (fresh_since hz2) x.name x.to hF.nm hF.tt
        rw [hc]
        go_wp2_with fail
        refine hA.mono ?_
        rintro e w4 ⟨rfl, h4, hO⟩
        have hB4 := hB2.trans (hO.below hz2 fun _ h => h)
        rw [← HS.out, ← HG.out] at h4
        clear hA hO
        go_wp2
        go_roundw
        case rel => exact ⟨k + 1, by omega, by omega, by go_num, h4, hB4⟩
        case measure => simp [intOf]; omega
      · have HS := hide (show stepG S0 x = _ from by unfold stepG; rw [if_neg (by omega), if_pos hc])
        have hA := cut_any _ hH2 (fresh_since hz2) x.name x.n hF.nm hF.n0 hF.n1
        rw [hc]
        go_wp2_with fail
        refine hA.mono ?_
        rintro e w4 ⟨rfl, h4, hO⟩
        have hB4 := hB2.trans (hO.below hz2 fun _ h => h)
        rw [← HS.out, ← HG.out] at h4
        clear hA hO
        go_wp2
        go_roundw
        case rel => exact ⟨k + 1, by omega, by omega, by go_num, h4, hB4⟩
        case measure => simp [intOf]; omega
      · have HS := hide (show stepG S0 x = _ from by unfold stepG; rw [if_neg (by omega), if_neg (by omega), if_pos hc])
        have hA := sync_any _ hH2
        rw [hc]
        go_wp2_with fail
        refine hA.mono ?_
        rintro e w4 ⟨rfl, h4, hO⟩
        have hB4 := hB2.trans (hO.below hz2 fun _ h => h)
        rw [← HS.out, ← HG.out] at h4
        clear hA hO
        go_wp2
        go_roundw
        case rel => exact ⟨k + 1, by omega, by omega, by go_num, h4, hB4⟩
        case measure => simp [intOf]; omega
      · have HS := hide (show stepG S0 x = _ from by unfold stepG; rw [if_neg (by omega), if_neg (by omega), if_neg (by omega), if_pos hc])
        have hA := rename_any _ hH2 x.name x.to hF.nm hF.tt
        rw [hc]
        go_wp2_with fail
        refine hA.mono ?_
        rintro e w4 ⟨rfl, h4, hO⟩
        have hB4 := hB2.trans (hO.below hz2 fun _ h => h)
        rw [← HS.out, ← HG.out] at h4
        clear hA hO
        go_wp2
        go_roundw
        case rel => exact ⟨k + 1, by omega, by omega, by go_num, h4, hB4⟩
        case measure => simp [intOf]; omega
      · have HS := hide (show stepG S0 x = _ from by unfold stepG; rw [if_neg (by omega), if_neg (by omega), if_neg (by omega), if_neg (by omega)])
        have hA := remove_any _ hH2 x.name hF.nm
        rw [hc]
        go_wp2_with fail
        refine hA.mono ?_
        rintro e w4 ⟨rfl, h4, hO⟩
        have hB4 := hB2.trans (hO.below hz2 fun _ h => h)
        rw [← HS.out, ← HG.out] at h4
        clear hA hO
        go_wp2
        go_roundw
        case rel => exact ⟨k + 1, by omega, by omega, by go_num, h4, hB4⟩
        case measure => simp [intOf]; omega
    · have hend : (ac.length : Int) ≤ (k : Int) ∨ ((k : Int) < (ac.length : Int) ∧ (100 : Int) ≤ (k : Int)) := by omega
      have HK := hide (show k = min 100 ac.length by omega)
      rcases hend with hend | ⟨hend, hend2⟩
      · go_wp2
        go_ret
        exact ⟨bd, rfl, by rw [← HK.out]; exact hH, hB⟩
      · go_wp2
        go_ret
        exact ⟨bd, rfl, by rw [← HK.out]; exact hH, hB⟩

end Go.Proofs.Ytmgamfenbbcfhaa.Dk
