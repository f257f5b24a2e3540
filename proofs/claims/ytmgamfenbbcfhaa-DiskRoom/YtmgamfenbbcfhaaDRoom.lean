/- DiskRoom: files never use more than the room; just as much can be appended as is left, and what is cut off or removed is room again. -/
import Derived.Test.YtmgamfenbbcfhaaDPlain
namespace Go.Proofs.Ytmgamfenbbcfhaa.Dk
open Go.RowKit Go.Maps Go.Joins

def stepR (S : St) (x : ActV) : St :=
  if x.kind % 3 = 0 then (S.append x.name.data.toList x.to.data.toList).2
  else if x.kind % 3 = 1 then (S.cut x.name.data.toList x.n).2
  else (S.remove x.name.data.toList).2
theorem stepR_up {S : St} {r : Nat} (h : S.Up r) (x : ActV) : (stepR S x).Up r := by
  unfold stepR
  split
  · exact h.append _ _
  · split
    · exact h.cut _ _
    · exact h.remove _
theorem nmZ : named [122, 122] = true := by decide
theorem rm_1 {S : St} {r : Nat} (hu : S.Up r) (d : Bs) (hd : r < used S.files + d.length) : S.append [122, 122] d = (22, S) := by
  have := hu.room
  rw [St.append, if_neg (by rw [nmZ]; simp), if_pos (Or.inl (by omega))]
theorem rm_2 {S : St} {r : Nat} (hu : S.Up r) (hok : S.Ok) (d : Bs) (hd : used S.files + d.length = r) (hm : S.files.length ≤ 60) : (S.append [122, 122] d).1 = 0 ∧ used (S.append [122, 122] d).2.files = r := by
  have := hu.room
  rw [St.append, if_neg (by rw [nmZ]; simp), if_neg (by rintro (h | ⟨_, h⟩) <;> omega), hu.do]
  refine ⟨rfl, ?_⟩
  have h1 := used_put hok.rising [122, 122] ⟨(fileOr [122, 122] S.files).data ++ d, (fileOr [122, 122] S.files).safe⟩
  simp only [List.length_append] at h1
  show used (putL _ _ S.files) = r
  omega

/-- nothing but noughts -/
def nul (n : Nat) : Bs := List.replicate n 0
theorem made_nul (n : Nat) : madeCells (Value.int .u8 0).cells n = (bys (nul n)).toArray := by
  apply Array.ext'
  simp only [madeCells, Value.cells, bys, nul, List.map_replicate]
  rw [List.eq_replicate_iff]
  refine ⟨by simp, fun b hb => ?_⟩
  simp only [Array.toList_map, List.mem_map] at hb
  obtain ⟨i, _, rfl⟩ := hb
  simp [Nat.mod_one]
theorem mkRun (n : Nat) (hn : n ≤ 1000) (W : World) : (Instr.makeSlice 66 (.int .i64 (n : Int)) (.int .i64 (n : Int))).run Try.prog W = .ok (.slice (some ⟨W.heap.size, 0, none⟩) n n) (W.alloc (.cells (bys (nul n)).toArray 5)) := by
  obtain ⟨i0, hi, hz0, hz1, hz2⟩ := info_parts u8_info
  have h := run_make (P := Try.prog) W 66 5 i0 (.int .u8 0) Try.underlying66 hi hz0 .i64 .i64 (n : Int) (n : Int) (by omega) (by omega) (by rw [hz2]; omega) (by omega)
  rw [hz1, Nat.mul_one, Int.toNat_natCast, made_nul] at h
  exact h
theorem cvRun (n : Nat) (hn : n ≤ 1000) (W : World) : (convert 66 9 (.slice (some ⟨W.heap.size, 0, none⟩) n n)).run Try.prog (W.alloc (.cells (bys (nul n)).toArray 5)) = .ok (.string (txt (nul n))) (W.alloc (.cells (bys (nul n)).toArray 5)) := by
  refine conv_own (B := 0) (n := n) ⟨by simp [bys, nul], .inr ⟨W.heap.size, n, _, rfl, Nat.zero_le _, heap_alloc_new W _, Nat.le_refl _, by unfold maxLen; omega, by simp [bys, nul], ?_⟩⟩
  simp [bys, nul]

theorem txt_size' (k : Bs) : (txt k).size = k.length := by show k.toArray.size = _; simp

set_option maxHeartbeats 6400000 in
set_option maxRecDepth 100000 in
theorem room_law (room : Int) (a : Option Addr) (cap : Nat) (ac : List ActV) (w : World) (hr : (Lit.int .i64 room).wf = true) (hA : ActsAt w a ac) :
    Calls Try.prog 8 #[.int .i64 room, .slice a ac.length cap] w fun e w' => e = .returned (.bool true) ∧ Below w.heap.size w w' := by
  obtain ⟨r0, r1⟩ := bounds_i64 hr
  have m0 := Int.emod_nonneg room (show (300 : Int) ≠ 0 by omega)
  have m1 := Int.emod_lt_of_pos room (show (0 : Int) < 300 by omega)
  obtain ⟨m, hm⟩ : ∃ m : Nat, room % 300 = m := ⟨(room % 300).toNat, by omega⟩
  have hmm := hA.many
  go_enter Try.func8, Try.ntmps8
  go_wp2_with fail
  refine (works_any w).mono ?_
  rintro e w1 ⟨rfl, hb1⟩
  have hz1 := hb1.size
  go_wp2_with fail
  refine (among_any room 300 w1 (by omega) (by omega) r0 r1).mono ?_
  rintro e w' ⟨rfl, rfl⟩
  rw [hm] at m0 m1 ⊢
  clear hm
  go_wp2_with fail
  refine (new_ok m w' (by omega)).mono ?_
  rintro e w2 ⟨bd, rfl, h2, hb2⟩
  have hB2 := hb1.trans (hb2.mono hz1)
  have h2' : Held w2 (since w.heap.size) bd (St.new m) := h2.own fun b _ h => Nat.le_trans hz1 h
  have hup : (St.new m).Up m := ⟨rfl, rfl, rfl⟩
  clear h2 hb2 hb1 hr
  go_wp2
  go_loopw [7] (fun i wr => ∃ (k : Nat) (S0 : St), k ≤ ac.length ∧ i = .int .i64 k ∧ S0.Up m ∧ Held wr (since w.heap.size) bd S0 ∧ Below w.heap.size w wr) (fun i _ => ac.length - (intOf i).toNat)
  case atStart => exact ⟨0, _, by omega, rfl, hup, h2', hB2⟩
  case round =>
    obtain ⟨k, S0, hk, rfl, hu0, hH, hB⟩ := hrel
    have hz := hB.size
    by_cases hlt : k < ac.length ∧ k < 60
    · obtain ⟨b, off, rfl, c0, c1, c2, c3, c4⟩ := hA.lies.at k hlt.1 hB
      have hF := (hA.each _ (List.getElem_mem hlt.1)).1
      have i1 : (0 : Int) ≤ (k : Int) := by omega
      have i2 : (k : Int) < (ac.length : Int) := by omega
      have i3 : (k : Int) < 60 := by omega
      generalize ac[k] = x at *
      have hB2 := hB.alloc hz (.cells #[.int .i64 x.kind, .string x.name, .string x.to, .int .i64 x.n, .slice x.dr x.ds.length x.dc] 44)
      have hH2 := hH.below (below_alloc1 wr (.cells #[.int .i64 x.kind, .string x.name, .string x.to, .int .i64 x.n, .slice x.dr x.ds.length x.dc] 44))
      have hz2 := hB2.size
      have q0 := Int.emod_nonneg x.kind (show (3 : Int) ≠ 0 by omega)
      have q1 := Int.emod_lt_of_pos x.kind (show (0 : Int) < 3 by omega)
      clear hH hB
      go_wp2_with fail
      refine (among_any x.kind 3 _ (by omega) (by omega) hF.k0 hF.k1).mono ?_
      rintro e w2 ⟨rfl, rfl⟩
      rcases (show x.kind % 3 = 0 ∨ x.kind % 3 = 1 ∨ x.kind % 3 = 2 by omega) with hc | hc | hc
      · have HS := hide (show stepR S0 x = _ from by unfold stepR; rw [if_pos hc])
        have hX := append_any _ hH2 (fresh_since hz2) x.name x.to hF.nm hF.tt
        rw [hc]
        go_wp2_with fail
        refine hX.mono ?_
        rintro e w4 ⟨rfl, h4, hO⟩
        have hB4 := hB2.trans (hO.below hz2 fun _ h => h)
        have hz4 := hB4.size
        rw [← HS.out] at h4
        have hu1 := stepR_up hu0 x
        generalize stepR S0 x = S1 at *
        have hsm := h4.ok.sum
        rw [hu1.room] at hsm
        have hU := fun W hW => used_held W (h4.below (w' := W) hW)
        generalize used S1.files = q at *
        have j1 : (q : Int) ≤ (m : Int) := by omega
        have j2 : (0 : Int) ≤ (q : Int) := by omega
        clear hX hO
        have hU1 := hU w4 (Below.refl _ _)
        go_wp2_with fail
        refine hU1.mono ?_
        rintro e w5 ⟨rfl, hb5⟩
        have hU2 := hU w5 hb5
        go_wp2_with fail
        refine hU2.mono ?_
        rintro e w6 ⟨rfl, hb6⟩
        have hb6' := hb5.trans (hb6.mono hb5.size)
        have h6 := h4.below hb6'
        have hB6 := hB4.trans (hb6'.mono hz4)
        clear hU1 hU2 hU hb5 hb6 hb6' h4 hB4
        go_wp2
        go_roundw
        case rel => exact ⟨k + 1, S1, by omega, by go_num, hu1, h6, hB6⟩
        case measure => simp [intOf]; omega
      · have HS := hide (show stepR S0 x = _ from by unfold stepR; rw [if_neg (by omega), if_pos hc])
        have hX := cut_any _ hH2 (fresh_since hz2) x.name x.n hF.nm hF.n0 hF.n1
        rw [hc]
        go_wp2_with fail
        refine hX.mono ?_
        rintro e w4 ⟨rfl, h4, hO⟩
        have hB4 := hB2.trans (hO.below hz2 fun _ h => h)
        have hz4 := hB4.size
        rw [← HS.out] at h4
        have hu1 := stepR_up hu0 x
        generalize stepR S0 x = S1 at *
        have hsm := h4.ok.sum
        rw [hu1.room] at hsm
        have hU := fun W hW => used_held W (h4.below (w' := W) hW)
        generalize used S1.files = q at *
        have j1 : (q : Int) ≤ (m : Int) := by omega
        have j2 : (0 : Int) ≤ (q : Int) := by omega
        clear hX hO
        have hU1 := hU w4 (Below.refl _ _)
        go_wp2_with fail
        refine hU1.mono ?_
        rintro e w5 ⟨rfl, hb5⟩
        have hU2 := hU w5 hb5
        go_wp2_with fail
        refine hU2.mono ?_
        rintro e w6 ⟨rfl, hb6⟩
        have hb6' := hb5.trans (hb6.mono hb5.size)
        have h6 := h4.below hb6'
        have hB6 := hB4.trans (hb6'.mono hz4)
        clear hU1 hU2 hU hb5 hb6 hb6' h4 hB4
        go_wp2
        go_roundw
        case rel => exact ⟨k + 1, S1, by omega, by go_num, hu1, h6, hB6⟩
        case measure => simp [intOf]; omega
      · have HS := hide (show stepR S0 x = _ from by unfold stepR; rw [if_neg (by omega), if_neg (by omega)])
        have hX := remove_any _ hH2 x.name hF.nm
        rw [hc]
        go_wp2_with fail
        refine hX.mono ?_
        rintro e w4 ⟨rfl, h4, hO⟩
        have hB4 := hB2.trans (hO.below hz2 fun _ h => h)
        have hz4 := hB4.size
        rw [← HS.out] at h4
        have hu1 := stepR_up hu0 x
        generalize stepR S0 x = S1 at *
        have hsm := h4.ok.sum
        rw [hu1.room] at hsm
        have hU := fun W hW => used_held W (h4.below (w' := W) hW)
        generalize used S1.files = q at *
        have j1 : (q : Int) ≤ (m : Int) := by omega
        have j2 : (0 : Int) ≤ (q : Int) := by omega
        clear hX hO
        have hU1 := hU w4 (Below.refl _ _)
        go_wp2_with fail
        refine hU1.mono ?_
        rintro e w5 ⟨rfl, hb5⟩
        have hU2 := hU w5 hb5
        go_wp2_with fail
        refine hU2.mono ?_
        rintro e w6 ⟨rfl, hb6⟩
        have hb6' := hb5.trans (hb6.mono hb5.size)
        have h6 := h4.below hb6'
        have hB6 := hB4.trans (hb6'.mono hz4)
        clear hU1 hU2 hU hb5 hb6 hb6' h4 hB4
        go_wp2
        go_roundw
        case rel => exact ⟨k + 1, S1, by omega, by go_num, hu1, h6, hB6⟩
        case measure => simp [intOf]; omega
    · have hend : (ac.length : Int) ≤ (k : Int) ∨ ((k : Int) < (ac.length : Int) ∧ (60 : Int) ≤ (k : Int)) := by omega
      rcases hend with hend | ⟨hend, hend2⟩
      · have hsm := hH.ok.sum
        rw [hu0.room] at hsm
        have hU := used_held wr hH
        have hok := hH.ok
        generalize hq : used S0.files = q at *
        have hwr : IntKind.i64.wrap ((m : Int) - (q : Int)) = (m : Int) - (q : Int) := wrap_small (by omega) (by omega)
        go_wp2_with fail
        refine hU.mono ?_
        rintro e w5 ⟨rfl, hb5⟩
        have hB5 := hB.trans (hb5.mono hz)
        have hz5 := hB5.size
        have h5 := hH.below hb5
        clear hU hb5 hH hB
        have hNm := names_held w5 h5
        have hnl : (namesOf S0.files).length = S0.files.length := by simp [namesOf]
        rw [hnl] at hNm
        obtain ⟨p, hp⟩ : ∃ p : Nat, (m : Int) - (q : Int) = (p : Int) := ⟨m - q, by omega⟩
        have hpn : q + p = m := by omega
        go_wp2_with fail
        refine hNm.mono ?_
        rintro e w6 ⟨v6, rfl, hown6, hb6⟩
        obtain ⟨a6, c6, rfl⟩ := own_slice hown6
        have hB6 := hB5.trans (hb6.mono hz5)
        have hz6 := hB6.size
        have h6 := h5.below hb6
        clear hNm hown6 hb6 h5 hB5
        by_cases hmany : 60 < S0.files.length
        · go_wp2
          go_ret
          exact ⟨rfl, hB6⟩
        · have g1 : (S0.files.length : Int) ≤ 60 := by omega
          clear hp hwr
          have hmk1 := mkRun (p + 1) (by omega)
          have hcv1 := cvRun (p + 1) (by omega)
          have hmk2 := mkRun p (by omega)
          have hcv2 := cvRun p (by omega)
          rw [show ((p + 1 : Nat) : Int) = (p : Int) + 1 from by omega] at hmk1
          have hBa := hB6.alloc hz6 (.cells (bys (nul (p + 1))).toArray 5)
          have h7 := h6.below (below_alloc1 w6 (.cells (bys (nul (p + 1))).toArray 5))
          have hza := hBa.size
          have hX := append_any _ h7 (fresh_since hza) ⟨#[122, 122]⟩ (txt (nul (p + 1))) (by decide) (by rw [txt_size']; simp [nul]; omega)
          rw [txt_list, show S0.append (ByteArray.mk #[122, 122]).data.toList (nul (p + 1)) = _ from rm_1 hu0 _ (by simp [nul]; omega)] at hX
          clear h6 hB6
          go_wp2_with fail
          refine hX.mono ?_
          rintro e w7 ⟨rfl, h8, hO⟩
          have hB7 := hBa.trans (hO.below hza fun _ h => h)
          have hz7 := hB7.size
          clear hX hO h7 hBa
          have hBb := hB7.alloc hz7 (.cells (bys (nul p)).toArray 5)
          have h9 := h8.below (below_alloc1 w7 (.cells (bys (nul p)).toArray 5))
          have hzb := hBb.size
          have hX := append_any _ h9 (fresh_since hzb) ⟨#[122, 122]⟩ (txt (nul p)) (by decide) (by rw [txt_size']; simp [nul]; omega)
          obtain ⟨e1, e2⟩ := rm_2 hu0 hok (nul p) (by simp [nul]; omega) (by omega)
          rw [txt_list, show (S0.append (ByteArray.mk #[122, 122]).data.toList (nul p)).1 = _ from e1] at hX
          have e2' : used (S0.append (ByteArray.mk #[122, 122]).data.toList (nul p)).2.files = m := e2
          generalize (S0.append (ByteArray.mk #[122, 122]).data.toList (nul p)).2 = S2 at *
          clear h8 hB7 e1 e2
          go_wp2_with fail
          refine hX.mono ?_
          rintro e w8 ⟨rfl, h10, hO⟩
          have hB8 := hBb.trans (hO.below hzb fun _ h => h)
          have hz8 := hB8.size
          have hU := used_held w8 h10
          rw [e2'] at hU
          clear hX hO h9 hBb hmk1 hcv1 hmk2 hcv2
          go_wp2_with fail
          refine hU.mono ?_
          rintro e w9 ⟨rfl, hb9⟩
          have hB9 := hB8.trans (hb9.mono hz8)
          clear hU hb9
          go_wp2
          go_ret
          exact ⟨rfl, hB9⟩
      · have hsm := hH.ok.sum
        rw [hu0.room] at hsm
        have hU := used_held wr hH
        have hok := hH.ok
        generalize hq : used S0.files = q at *
        have hwr : IntKind.i64.wrap ((m : Int) - (q : Int)) = (m : Int) - (q : Int) := wrap_small (by omega) (by omega)
        go_wp2_with fail
        refine hU.mono ?_
        rintro e w5 ⟨rfl, hb5⟩
        have hB5 := hB.trans (hb5.mono hz)
        have hz5 := hB5.size
        have h5 := hH.below hb5
        clear hU hb5 hH hB
        have hNm := names_held w5 h5
        have hnl : (namesOf S0.files).length = S0.files.length := by simp [namesOf]
        rw [hnl] at hNm
        obtain ⟨p, hp⟩ : ∃ p : Nat, (m : Int) - (q : Int) = (p : Int) := ⟨m - q, by omega⟩
        have hpn : q + p = m := by omega
        go_wp2_with fail
        refine hNm.mono ?_
        rintro e w6 ⟨v6, rfl, hown6, hb6⟩
        obtain ⟨a6, c6, rfl⟩ := own_slice hown6
        have hB6 := hB5.trans (hb6.mono hz5)
        have hz6 := hB6.size
        have h6 := h5.below hb6
        clear hNm hown6 hb6 h5 hB5
        by_cases hmany : 60 < S0.files.length
        · go_wp2
          go_ret
          exact ⟨rfl, hB6⟩
        · have g1 : (S0.files.length : Int) ≤ 60 := by omega
          clear hp hwr
          have hmk1 := mkRun (p + 1) (by omega)
          have hcv1 := cvRun (p + 1) (by omega)
          have hmk2 := mkRun p (by omega)
          have hcv2 := cvRun p (by omega)
          rw [show ((p + 1 : Nat) : Int) = (p : Int) + 1 from by omega] at hmk1
          have hBa := hB6.alloc hz6 (.cells (bys (nul (p + 1))).toArray 5)
          have h7 := h6.below (below_alloc1 w6 (.cells (bys (nul (p + 1))).toArray 5))
          have hza := hBa.size
          have hX := append_any _ h7 (fresh_since hza) ⟨#[122, 122]⟩ (txt (nul (p + 1))) (by decide) (by rw [txt_size']; simp [nul]; omega)
          rw [txt_list, show S0.append (ByteArray.mk #[122, 122]).data.toList (nul (p + 1)) = _ from rm_1 hu0 _ (by simp [nul]; omega)] at hX
          clear h6 hB6
          go_wp2_with fail
          refine hX.mono ?_
          rintro e w7 ⟨rfl, h8, hO⟩
          have hB7 := hBa.trans (hO.below hza fun _ h => h)
          have hz7 := hB7.size
          clear hX hO h7 hBa
          have hBb := hB7.alloc hz7 (.cells (bys (nul p)).toArray 5)
          have h9 := h8.below (below_alloc1 w7 (.cells (bys (nul p)).toArray 5))
          have hzb := hBb.size
          have hX := append_any _ h9 (fresh_since hzb) ⟨#[122, 122]⟩ (txt (nul p)) (by decide) (by rw [txt_size']; simp [nul]; omega)
          obtain ⟨e1, e2⟩ := rm_2 hu0 hok (nul p) (by simp [nul]; omega) (by omega)
          rw [txt_list, show (S0.append (ByteArray.mk #[122, 122]).data.toList (nul p)).1 = _ from e1] at hX
          have e2' : used (S0.append (ByteArray.mk #[122, 122]).data.toList (nul p)).2.files = m := e2
          generalize (S0.append (ByteArray.mk #[122, 122]).data.toList (nul p)).2 = S2 at *
          clear h8 hB7 e1 e2
          go_wp2_with fail
          refine hX.mono ?_
          rintro e w8 ⟨rfl, h10, hO⟩
          have hB8 := hBb.trans (hO.below hzb fun _ h => h)
          have hz8 := hB8.size
          have hU := used_held w8 h10
          rw [e2'] at hU
          clear hX hO h9 hBb hmk1 hcv1 hmk2 hcv2
          go_wp2_with fail
          refine hU.mono ?_
          rintro e w9 ⟨rfl, hb9⟩
          have hB9 := hB8.trans (hb9.mono hz8)
          clear hU hb9
          go_wp2
          go_ret
          exact ⟨rfl, hB9⟩


end Go.Proofs.Ytmgamfenbbcfhaa.Dk
