/- DiskPlays: a call of both disks. -/
import Derived.Test.YtokcknfbanpjjaaEDuo
namespace Go.Proofs.Ytokcknfbanpjjaa.Dk
open Go.RowKit Go.Maps Go.Joins Gk
attribute [local go_sem ↓] Go.wp_at_zero Go.wp_at_succ

theorem LiesI.into {w W : World} {own : Nat → Prop} {a : Option Addr} {ds : List Int} (h : LiesI w (since w.heap.size) a ds) (hb : Below w.heap.size w W) (ho : ∀ b, own b → w.heap.size ≤ b) : LiesI W own a ds := by
  rcases h with rfl | ⟨b, off, rfl, hlt, _, hl⟩
  · exact Or.inl rfl
  · exact Or.inr ⟨b, off, rfl, Nat.lt_of_lt_of_le hlt hb.size, fun e => by have := ho b e; omega, fun i hi => (hb.cell (p := ⟨b, off + i, none⟩) hlt).trans (hl i hi)⟩
abbrev actV (x : ActV) : Value := .agg #[.int .i64 x.kind, .string x.name, .string x.to, .int .i64 x.n, .slice x.dr x.ds.length x.dc]
abbrev actC (x : ActV) : Array Value := #[.int .i64 x.kind, .string x.name, .string x.to, .int .i64 x.n, .slice x.dr x.ds.length x.dc]
abbrev SAct (ba : Nat) (x : ActV) (W : World) : Prop := SBx ba (.int .i64 x.kind) (.string x.name) (.string x.to) (.int .i64 x.n) (.slice x.dr x.ds.length x.dc) W

set_option maxHeartbeats 6400000 in
set_option maxRecDepth 100000 in
theorem step_any {w W : World} {bd br : Nat} {S : St} (hd : Duo w W bd br S S) (x : ActV) (hx : x.Fits) (hi : IntsAt w x.dr x.dc x.ds) :
    Calls Try.prog 6 #[.pointer (some ⟨bd, 0, none⟩), .pointer (some ⟨br, 0, none⟩), actV x] W fun e w' => e = .returned (.bool true) ∧ ∃ S', Duo w w' bd br S' S' := by
  have hnm := hx.nm
  have htt := hx.tt
  have hn0 := hx.n0
  have hn1 := hx.n1
  have h8 : x.kind % 8 = 0 ∨ x.kind % 8 = 1 ∨ x.kind % 8 = 2 ∨ x.kind % 8 = 3 ∨ x.kind % 8 = 4 ∨ x.kind % 8 = 5 ∨ x.kind % 8 = 6 ∨ x.kind % 8 = 7 := by omega
  have hA := fun (W : World) => among_any x.kind 8 W (by omega) (by omega) hx.k0 hx.k1
  have HD1 := hide (hd.withBox (actC x))
  have HS1 := hide (SBx.of HD1.out.box)
  clear hd
  rcases h8 with h8 | h8 | h8 | h8 | h8 | h8 | h8 | h8
  · as_aux_lemma =>
    rw [h8] at hA
    have cD : ∀ W', DuoB w W' bd br S S W.heap.size (actC x) → Calls Try.prog 10 #[.pointer (some ⟨bd, 0, none⟩), .string x.name, .string x.to] W' fun e w' => e = .returned (.int .i64 (S.append x.name.data.toList x.to.data.toList).1) ∧ DuoB w w' bd br (S.append x.name.data.toList x.to.data.toList).2 S W.heap.size (actC x) := fun W' h => h.callD fun own h1 h2 h3 => append_any W' h1 h2 x.name x.to hnm htt
    have cR : ∀ W' R, DuoB w W' bd br R S W.heap.size (actC x) → Calls Try.prog 11 #[.pointer (some ⟨br, 0, none⟩), .string x.name, .string x.to] W' fun e w' => e = .returned (.int .i64 (S.append x.name.data.toList x.to.data.toList).1) ∧ DuoB w w' bd br R (S.append x.name.data.toList x.to.data.toList).2 W.heap.size (actC x) := fun W' R h => h.callR fun own h1 h2 h3 => rAppend_any W' h1 h2 x.name x.to hnm htt
    generalize (S.append x.name.data.toList x.to.data.toList).2 = S' at *
    generalize (S.append x.name.data.toList x.to.data.toList).1 = q at *
    have hq : ((q : Int) == (q : Int)) = true := by simp
    go_enter Try.func6, Try.ntmps6
    go_wp2_with (first | (go_at_call 9; refine (hA _).mono ?_; rintro e w1 ⟨rfl, rfl⟩))
    have hS := HS1.out
    go_region_held3 (SAct W.heap.size x) (first | exact SBx.drew (by assumption) | assumption)
      (first | (go_at_call 10; refine (cD _ (by first | exact HD1.out | exact HD1.out.drew)).mono ?_; rintro e w2 ⟨rfl, hd2⟩; have HD2 := hide hd2; have hS2 := SBx.of hd2.box; clear hd2) | (go_at_call 11; refine (cR _ _ (by first | exact HD2.out | exact HD2.out.drew)).mono ?_; rintro e w3 ⟨rfl, hd3⟩; have HD3 := hide hd3; have hS3 := SBx.of hd3.box; clear hd3))
    all_goals go_wp2
    all_goals go_ret
    all_goals exact ⟨rfl, _, HD3.out.toDuo⟩
  · as_aux_lemma =>
    rw [h8] at hA
    have cD : ∀ W', DuoB w W' bd br S S W.heap.size (actC x) → Calls Try.prog 12 #[.pointer (some ⟨bd, 0, none⟩), .string x.name, .int .i64 x.n] W' fun e w' => e = .returned (.int .i64 (S.cut x.name.data.toList x.n).1) ∧ DuoB w w' bd br (S.cut x.name.data.toList x.n).2 S W.heap.size (actC x) := fun W' h => h.callD fun own h1 h2 h3 => cut_any W' h1 h2 x.name x.n hnm hn0 hn1
    have cR : ∀ W' R, DuoB w W' bd br R S W.heap.size (actC x) → Calls Try.prog 13 #[.pointer (some ⟨br, 0, none⟩), .string x.name, .int .i64 x.n] W' fun e w' => e = .returned (.int .i64 (S.cut x.name.data.toList x.n).1) ∧ DuoB w w' bd br R (S.cut x.name.data.toList x.n).2 W.heap.size (actC x) := fun W' R h => h.callR fun own h1 h2 h3 => rCut_any W' h1 h2 x.name x.n hnm
    generalize (S.cut x.name.data.toList x.n).2 = S' at *
    generalize (S.cut x.name.data.toList x.n).1 = q at *
    have hq : ((q : Int) == (q : Int)) = true := by simp
    go_enter Try.func6, Try.ntmps6
    go_wp2_with (first | (go_at_call 9; refine (hA _).mono ?_; rintro e w1 ⟨rfl, rfl⟩))
    have hS := HS1.out
    go_region_held3 (SAct W.heap.size x) (first | exact SBx.drew (by assumption) | assumption)
      (first | (go_at_call 12; refine (cD _ (by first | exact HD1.out | exact HD1.out.drew)).mono ?_; rintro e w2 ⟨rfl, hd2⟩; have HD2 := hide hd2; have hS2 := SBx.of hd2.box; clear hd2) | (go_at_call 13; refine (cR _ _ (by first | exact HD2.out | exact HD2.out.drew)).mono ?_; rintro e w3 ⟨rfl, hd3⟩; have HD3 := hide hd3; have hS3 := SBx.of hd3.box; clear hd3))
    all_goals go_wp2
    all_goals go_ret
    all_goals exact ⟨rfl, _, HD3.out.toDuo⟩
  · as_aux_lemma =>
    rw [h8] at hA
    have cD : ∀ W', DuoB w W' bd br S S W.heap.size (actC x) → Calls Try.prog 14 #[.pointer (some ⟨bd, 0, none⟩)] W' fun e w' => e = .returned (.int .i64 (S.sync).1) ∧ DuoB w w' bd br (S.sync).2 S W.heap.size (actC x) := fun W' h => h.callD fun own h1 h2 h3 => sync_any W' h1
    have cR : ∀ W' R, DuoB w W' bd br R S W.heap.size (actC x) → Calls Try.prog 15 #[.pointer (some ⟨br, 0, none⟩)] W' fun e w' => e = .returned (.int .i64 (S.sync).1) ∧ DuoB w w' bd br R (S.sync).2 W.heap.size (actC x) := fun W' R h => h.callR fun own h1 h2 h3 => rSync_any W' h1
    generalize (S.sync).2 = S' at *
    generalize (S.sync).1 = q at *
    have hq : ((q : Int) == (q : Int)) = true := by simp
    go_enter Try.func6, Try.ntmps6
    go_wp2_with (first | (go_at_call 9; refine (hA _).mono ?_; rintro e w1 ⟨rfl, rfl⟩))
    go_wp2_with (first | (go_at_call 14; refine (cD _ HD1.out).mono ?_; rintro e w2 ⟨rfl, hd2⟩; have HD2 := hide hd2; clear hd2) | (go_at_call 15; refine (cR _ _ HD2.out).mono ?_; rintro e w3 ⟨rfl, hd3⟩; have HD3 := hide hd3; clear hd3))
    go_ret
    exact ⟨rfl, _, HD3.out.toDuo⟩
  · as_aux_lemma =>
    rw [h8] at hA
    have cD : ∀ W', DuoB w W' bd br S S W.heap.size (actC x) → Calls Try.prog 16 #[.pointer (some ⟨bd, 0, none⟩), .string x.name, .string x.to] W' fun e w' => e = .returned (.int .i64 (S.rename x.name.data.toList x.to.data.toList).1) ∧ DuoB w w' bd br (S.rename x.name.data.toList x.to.data.toList).2 S W.heap.size (actC x) := fun W' h => h.callD fun own h1 h2 h3 => rename_any W' h1 x.name x.to hnm htt
    have cR : ∀ W' R, DuoB w W' bd br R S W.heap.size (actC x) → Calls Try.prog 17 #[.pointer (some ⟨br, 0, none⟩), .string x.name, .string x.to] W' fun e w' => e = .returned (.int .i64 (S.rename x.name.data.toList x.to.data.toList).1) ∧ DuoB w w' bd br R (S.rename x.name.data.toList x.to.data.toList).2 W.heap.size (actC x) := fun W' R h => h.callR fun own h1 h2 h3 => rRename_any W' h1 h2 x.name x.to hnm htt
    generalize (S.rename x.name.data.toList x.to.data.toList).2 = S' at *
    generalize (S.rename x.name.data.toList x.to.data.toList).1 = q at *
    have hq : ((q : Int) == (q : Int)) = true := by simp
    go_enter Try.func6, Try.ntmps6
    go_wp2_with (first | (go_at_call 9; refine (hA _).mono ?_; rintro e w1 ⟨rfl, rfl⟩))
    have hS := HS1.out
    go_region_held3 (SAct W.heap.size x) (first | exact SBx.drew (by assumption) | assumption)
      (first | (go_at_call 16; refine (cD _ (by first | exact HD1.out | exact HD1.out.drew)).mono ?_; rintro e w2 ⟨rfl, hd2⟩; have HD2 := hide hd2; have hS2 := SBx.of hd2.box; clear hd2) | (go_at_call 17; refine (cR _ _ (by first | exact HD2.out | exact HD2.out.drew)).mono ?_; rintro e w3 ⟨rfl, hd3⟩; have HD3 := hide hd3; have hS3 := SBx.of hd3.box; clear hd3))
    all_goals go_wp2
    all_goals go_ret
    all_goals exact ⟨rfl, _, HD3.out.toDuo⟩
  · as_aux_lemma =>
    rw [h8] at hA
    have cD : ∀ W', DuoB w W' bd br S S W.heap.size (actC x) → Calls Try.prog 18 #[.pointer (some ⟨bd, 0, none⟩), .string x.name] W' fun e w' => e = .returned (.int .i64 (S.remove x.name.data.toList).1) ∧ DuoB w w' bd br (S.remove x.name.data.toList).2 S W.heap.size (actC x) := fun W' h => h.callD fun own h1 h2 h3 => remove_any W' h1 x.name hnm
    have cR : ∀ W' R, DuoB w W' bd br R S W.heap.size (actC x) → Calls Try.prog 19 #[.pointer (some ⟨br, 0, none⟩), .string x.name] W' fun e w' => e = .returned (.int .i64 (S.remove x.name.data.toList).1) ∧ DuoB w w' bd br R (S.remove x.name.data.toList).2 W.heap.size (actC x) := fun W' R h => h.callR fun own h1 h2 h3 => rRemove_any W' h1 h2 x.name hnm
    generalize (S.remove x.name.data.toList).2 = S' at *
    generalize (S.remove x.name.data.toList).1 = q at *
    have hq : ((q : Int) == (q : Int)) = true := by simp
    go_enter Try.func6, Try.ntmps6
    go_wp2_with (first | (go_at_call 9; refine (hA _).mono ?_; rintro e w1 ⟨rfl, rfl⟩))
    have hS := HS1.out
    go_region_held3 (SAct W.heap.size x) (first | exact SBx.drew (by assumption) | assumption)
      (first | (go_at_call 18; refine (cD _ (by first | exact HD1.out | exact HD1.out.drew)).mono ?_; rintro e w2 ⟨rfl, hd2⟩; have HD2 := hide hd2; have hS2 := SBx.of hd2.box; clear hd2) | (go_at_call 19; refine (cR _ _ (by first | exact HD2.out | exact HD2.out.drew)).mono ?_; rintro e w3 ⟨rfl, hd3⟩; have HD3 := hide hd3; have hS3 := SBx.of hd3.box; clear hd3))
    all_goals go_wp2
    all_goals go_ret
    all_goals exact ⟨rfl, _, HD3.out.toDuo⟩
  · as_aux_lemma =>
    rw [h8] at hA
    have hok := HD1.out.toDuo.ok.1
    have cD : ∀ W', DuoB w W' bd br S S W.heap.size (actC x) → Calls Try.prog 20 #[.pointer (some ⟨bd, 0, none⟩), .string x.name] W' fun e w' => e = .returned (.tuple #[.string (txt (S.read x.name.data.toList).1), .int .i64 (S.read x.name.data.toList).2]) ∧ DuoB w w' bd br S S W.heap.size (actC x) := fun W' h => by
      obtain ⟨oD, oR, h1, _⟩ := id h
      refine (read_any W' h1.disk x.name hnm).mono ?_
      rintro e w' ⟨rfl, hb⟩
      exact ⟨rfl, h.later hb⟩
    have cR : ∀ W', DuoB w W' bd br S S W.heap.size (actC x) → Calls Try.prog 21 #[.pointer (some ⟨br, 0, none⟩), .string x.name] W' fun e w' => e = .returned (.tuple #[.string (txt (S.read x.name.data.toList).1), .int .i64 (S.read x.name.data.toList).2]) ∧ DuoB w w' bd br S S W.heap.size (actC x) := fun W' h => by
      obtain ⟨oD, oR, h1, _⟩ := id h
      refine (rRead_any W' h1.ref x.name hnm).mono ?_
      rintro e w' ⟨rfl, hb⟩
      exact ⟨rfl, h.later hb⟩
    generalize txt (S.read x.name.data.toList).1 = t at *
    generalize (S.read x.name.data.toList).2 = q at *
    have hq : ((q : Int) == (q : Int)) = true := by simp
    have ht : (t.toList == t.toList) = true := by simp
    go_enter Try.func6, Try.ntmps6
    go_wp2_with (first | (go_at_call 9; refine (hA _).mono ?_; rintro e w1 ⟨rfl, rfl⟩) | (go_at_call 20; refine (cD _ HD1.out).mono ?_; rintro e w2 ⟨rfl, hd2⟩; have HD2 := hide hd2; have k1 := (SBx.of hd2.box).1.1; clear hd2) | (go_at_call 21; refine (cR _ HD2.out).mono ?_; rintro e w3 ⟨rfl, hd3⟩; have HD3 := hide hd3; clear hd3))
    go_ret
    exact ⟨rfl, _, HD3.out.toDuo⟩
  · as_aux_lemma =>
    rw [h8] at hA
    have cD : ∀ W', DuoB w W' bd br S S W.heap.size (actC x) → Calls Try.prog 22 #[.pointer (some ⟨bd, 0, none⟩), .int .i64 x.n] W' fun e w' => e = .returned (.int .i64 (S.light x.n).1) ∧ DuoB w w' bd br (S.light x.n).2 S W.heap.size (actC x) := fun W' h => h.callD fun own h1 h2 h3 => fuse_any W' h1 x.n hn1
    have cR : ∀ W' R, DuoB w W' bd br R S W.heap.size (actC x) → Calls Try.prog 23 #[.pointer (some ⟨br, 0, none⟩), .int .i64 x.n] W' fun e w' => e = .returned (.int .i64 (S.light x.n).1) ∧ DuoB w w' bd br R (S.light x.n).2 W.heap.size (actC x) := fun W' R h => h.callR fun own h1 h2 h3 => rFuse_any W' h1 x.n hn0 hn1
    generalize (S.light x.n).2 = S' at *
    generalize (S.light x.n).1 = q at *
    have hq : ((q : Int) == (q : Int)) = true := by simp
    go_enter Try.func6, Try.ntmps6
    go_wp2_with (first | (go_at_call 9; refine (hA _).mono ?_; rintro e w1 ⟨rfl, rfl⟩))
    have hS := HS1.out
    go_region_held3 (SAct W.heap.size x) (first | exact SBx.drew (by assumption) | assumption)
      (first | (go_at_call 22; refine (cD _ (by first | exact HD1.out | exact HD1.out.drew)).mono ?_; rintro e w2 ⟨rfl, hd2⟩; have HD2 := hide hd2; have hS2 := SBx.of hd2.box; clear hd2) | (go_at_call 23; refine (cR _ _ (by first | exact HD2.out | exact HD2.out.drew)).mono ?_; rintro e w3 ⟨rfl, hd3⟩; have HD3 := hide hd3; have hS3 := SBx.of hd3.box; clear hd3))
    all_goals go_wp2
    all_goals go_ret
    all_goals exact ⟨rfl, _, HD3.out.toDuo⟩
  · as_aux_lemma =>
    rw [h8] at hA
    have cD : ∀ W', DuoB w W' bd br S S W.heap.size (actC x) → Calls Try.prog 24 #[.pointer (some ⟨bd, 0, none⟩), .slice x.dr x.ds.length x.dc] W' fun e w' => e = .returned (.int .i64 (S.crash x.ds).1) ∧ DuoB w w' bd br (S.crash x.ds).2 S W.heap.size (actC x) := fun W' h => h.callD fun own h1 h2 h3 => crash_any W' h1 x.dr x.dc x.ds (hi.lies.into h.toDuo.below h3) hi.room hi.nil hi.max hi.each
    have cR : ∀ W' R, DuoB w W' bd br R S W.heap.size (actC x) → Calls Try.prog 25 #[.pointer (some ⟨br, 0, none⟩), .slice x.dr x.ds.length x.dc] W' fun e w' => e = .returned (.int .i64 (S.crash x.ds).1) ∧ DuoB w w' bd br R (S.crash x.ds).2 W.heap.size (actC x) := fun W' R h => h.callR fun own h1 h2 h3 => rCrash_any W' h1 h2 x.dr x.dc x.ds (hi.lies.into h.toDuo.below h3) hi.room hi.nil hi.max hi.each
    generalize (S.crash x.ds).2 = S' at *
    generalize (S.crash x.ds).1 = q at *
    have hq : ((q : Int) == (q : Int)) = true := by simp
    go_enter Try.func6, Try.ntmps6
    go_wp2_with (first | (go_at_call 9; refine (hA _).mono ?_; rintro e w1 ⟨rfl, rfl⟩))
    have hS := HS1.out
    go_region_held3 (SAct W.heap.size x) (first | exact SBx.drew (by assumption) | assumption)
      (first | (go_at_call 24; refine (cD _ (by first | exact HD1.out | exact HD1.out.drew)).mono ?_; rintro e w2 ⟨rfl, hd2⟩; have HD2 := hide hd2; have hS2 := SBx.of hd2.box; clear hd2) | (go_at_call 25; refine (cR _ _ (by first | exact HD2.out | exact HD2.out.drew)).mono ?_; rintro e w3 ⟨rfl, hd3⟩; have HD3 := hide hd3; have hS3 := SBx.of hd3.box; clear hd3))
    all_goals go_wp2
    all_goals go_ret
    all_goals exact ⟨rfl, _, HD3.out.toDuo⟩

end Go.Proofs.Ytokcknfbanpjjaa.Dk
