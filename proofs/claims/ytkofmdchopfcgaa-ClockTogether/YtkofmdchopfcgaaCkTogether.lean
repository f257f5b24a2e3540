/- ClockTogether: clocks that are all moved on stay as far apart as they are; one that is moved alone is apart by no more than that besides. Proved: for every number of nodes and every list of calls, no condition. -/
import Derived.Test.YtkofmdchopfcgaaCkWorks
import Derived.Test.YtkofmdchopfcgaaCkActs
import Derived.Test.YtkofmdchopfcgaaGAmong
namespace Go.Proofs.Ytkofmdchopfcgaa.Ck
open Go.RowKit Go.Joins Gk

theorem mostL_add {l : List Int} (h : 1 ≤ l.length) (n : Int) : mostL (l.map (· + n)) = mostL l + n := by
  obtain ⟨h1, h2⟩ := mostL_is h
  refine mostL_iff (List.mem_map.2 ⟨_, h1, rfl⟩) fun x hx => ?_
  obtain ⟨y, hy, rfl⟩ := List.mem_map.1 hx
  have := h2 y hy; omega
theorem leastL_add {l : List Int} (h : 1 ≤ l.length) (n : Int) : leastL (l.map (· + n)) = leastL l + n := by
  obtain ⟨h1, h2⟩ := leastL_is h
  refine leastL_iff (List.mem_map.2 ⟨_, h1, rfl⟩) fun x hx => ?_
  obtain ⟨y, hy, rfl⟩ := List.mem_map.1 hx
  have := h2 y hy; omega
theorem set_bounds {l : List Int} {i : Nat} (hi : i < l.length) {n : Int} (hn : 0 ≤ n) : mostL l ≤ mostL (l.set i (l[i] + n)) ∧ mostL (l.set i (l[i] + n)) ≤ mostL l + n ∧ leastL l ≤ leastL (l.set i (l[i] + n)) ∧ leastL (l.set i (l[i] + n)) ≤ leastL l + n := by
  have hl : 1 ≤ l.length := by omega
  obtain ⟨a1, a2⟩ := mostL_is hl
  obtain ⟨b1, b2⟩ := leastL_is hl
  have hs : 1 ≤ (l.set i (l[i] + n)).length := by simpa using hl
  obtain ⟨c1, c2⟩ := mostL_is hs
  obtain ⟨d1, d2⟩ := leastL_is hs
  have hup : ∀ x ∈ l.set i (l[i] + n), x ≤ mostL l + n ∧ leastL l ≤ x := fun x hx => by
    rcases List.mem_or_eq_of_mem_set hx with h | rfl
    · have := a2 x h; have := b2 x h; omega
    · have := a2 _ (List.getElem_mem hi); have := b2 _ (List.getElem_mem hi); omega
  have hlow : ∀ x ∈ l, ∃ y ∈ l.set i (l[i] + n), x ≤ y ∧ y ≤ x + n := fun x hx => by
    obtain ⟨j, hj, rfl⟩ := List.getElem_of_mem hx
    by_cases e : j = i
    · subst e
      exact ⟨l[j] + n, List.mem_set hj _, by omega, by omega⟩
    · refine ⟨l[j], ?_, by omega, by omega⟩
      rw [List.mem_iff_getElem]
      exact ⟨j, by simpa using hj, by rw [List.getElem_set_ne (by omega)]⟩
  obtain ⟨y, hy, hy1, hy2⟩ := hlow _ a1
  obtain ⟨z, hz, hz1, hz2⟩ := hlow _ b1
  have := c2 y hy
  have := d2 z hz
  have := hup _ c1
  have := hup _ d1
  omega

/-- all go on -/
theorem Cst.Ok.all_apart {S : Cst} (h : S.Ok) {n : Int} (hn : 0 ≤ n) (hm : S.most + n ≤ 1073741824) : (S.all n).1 = 0 ∧ (S.all n).2.apart = S.apart ∧ (S.all n).2.most = S.most + n := by
  have hg : mayGo S.most n = 0 := mayGo_zero.2 ⟨hn, by omega⟩
  have h1 := mostL_add h.n1 n
  have h2 := leastL_add h.n1 n
  simp only [Cst.all, hg, if_true]
  refine ⟨trivial, ?_, h1⟩
  simp only [Cst.apart, Cst.most, Cst.least, h1, h2]
  omega
/-- one goes on -/
theorem Cst.Ok.step_apart {S : Cst} (h : S.Ok) {x n : Int} (hx : S.has x = true) (hn : 0 ≤ n) (hm : S.most + n ≤ 1073741824) : (S.step x n).1.2 = 0 ∧ (S.step x n).2.apart ≤ S.apart + n ∧ S.apart - n ≤ (S.step x n).2.apart ∧ (S.step x n).2.most ≤ S.most + n := by
  obtain ⟨x0, x1⟩ := Cst.has_iff.1 hx
  have hi : x.toNat < S.ts.length := by omega
  have ht : S.tm x = S.ts[x.toNat] := by simp [Cst.tm, hi]
  have hle : S.tm x ≤ S.most := by rw [ht]; exact (mostL_is h.n1).2 _ (List.getElem_mem hi)
  have hg : mayGo (S.tm x) n = 0 := mayGo_zero.2 ⟨hn, by omega⟩
  have hb := set_bounds hi hn
  rw [← ht] at hb
  simp only [Cst.step, hx, hg, if_true]
  refine ⟨trivial, ?_, ?_, ?_⟩ <;> simp only [Cst.apart, Cst.most, Cst.least] <;> omega

set_option maxHeartbeats 6400000 in
set_option maxRecDepth 100000 in
theorem together_law (nodes : Int) (a : Option Addr) (cap : Nat) (ac : List ActV) (w : World) (wf : (Lit.int .i64 nodes).wf = true) (hl : ActsAt w a cap ac) :
    Calls Try.prog 6 #[.int .i64 nodes, .slice a ac.length cap] w fun e w' => e = .returned (.bool true) ∧ Below w.heap.size w w' := by
  have hnb := bounds_i64 wf
  have hrm := hl.room
  have hmx := hl.max
  have hnd : 0 ≤ nodes % 16 ∧ nodes % 16 < 16 := ⟨Int.emod_nonneg _ (by omega), Int.emod_lt_of_pos _ (by omega)⟩
  have hAm := fun W => among_any nodes 16 W (by omega) (by omega) hnb.1 hnb.2
  obtain ⟨nd, hN⟩ : ∃ nd : Nat, (nodes % 16) + 1 = (nd : Int) := ⟨(nodes % 16 + 1).toNat, by omega⟩
  have hN' : (1 : Int) + nodes % 16 = (nd : Int) := by omega
  generalize nodes % 16 = nm at *
  go_enter Try.func6, Try.ntmps6
  go_wp2_with fail
  refine (works_any w).mono ?_
  rintro e w1 ⟨rfl, hb1⟩
  go_wp2_with (go_at_call 9; refine (hAm _).mono ?_; rintro e w2 ⟨rfl, rfl⟩)
  refine (new_ok nd 9 w1 (by omega) (by omega) (by omega)).mono ?_
  rintro e w2 ⟨bc, g, rfl, hbc, hg, hh2, hb2⟩
  have hbc' : w.heap.size ≤ bc := Nat.le_trans hb1.size hbc
  have hg' : w.heap.size ≤ g := Nat.le_trans hb1.size hg
  have hbw : Below w.heap.size w w2 := hb1.trans (hb2.mono hb1.size)
  have hnd1 : 1 ≤ nd ∧ nd ≤ 16 := by omega
  clear hb1 hb2 hbc hg hAm
  go_wp2
  go_loopw [7] (fun i wr => ∃ (k : Nat) (S : Cst), k ≤ ac.length ∧ k ≤ 100 ∧ i = .int .i64 k ∧ CHeld wr ClkT bc g S ∧ S.Ok ∧ S.ts.length = nd ∧ S.most ≤ k * 1000 ∧ Below w.heap.size w wr) (fun i _ => 100 - (intOf i).toNat)
  case atStart =>
    have hok := Cst.new_ok (n := nd) (seed := 9) hnd1.1 hnd1.2 (by omega)
    refine ⟨0, Cst.new nd 9, by omega, by omega, rfl, hh2, hok, by simp [Cst.new], ?_, hbw⟩
    have := (mostL_is hok.n1).1
    have := List.eq_of_mem_replicate this
    show mostL (Cst.new nd 9).ts ≤ _
    rw [this]; omega
  case round =>
    obtain ⟨k, S, hk, hk1, rfl, hh, hok, hlen, hmost, hbel⟩ := hrel
    by_cases hlt : k < ac.length ∧ k < 100
    · obtain ⟨hlt1, hlt2⟩ := hlt
      have j1 : (k : Int) < (ac.length : Int) := by omega
      have j2 : (k : Int) < 100 := by omega
      have j0 : (0 : Int) ≤ (k : Int) := by omega
      obtain ⟨b, off, rfl, hc⟩ := hl.cells k hlt1
      have hx := hl.each ac[k] (List.getElem_mem hlt1)
      generalize ac[k] = x at *
      obtain ⟨xk1, xk2⟩ := hx.kind
      obtain ⟨xn1, xn2⟩ := hx.n
      obtain ⟨xd1, xd2⟩ := hx.node
      have hA := apart_any wr hh hok
      have hm := hok.most
      have hle := hok.least
      have hapb : -1073741824 ≤ S.apart ∧ S.apart ≤ 1073741824 := by unfold Cst.apart; omega
      have hn0 : 0 ≤ x.n % 1000 := Int.emod_nonneg _ (by omega)
      have hn1 : x.n % 1000 < 1000 := Int.emod_lt_of_pos _ (by omega)
      have hk0 : 0 ≤ x.kind % 2 := Int.emod_nonneg _ (by omega)
      have hk2 : x.kind % 2 < 2 := Int.emod_lt_of_pos _ (by omega)
      have hd0 : 0 ≤ x.node % nd := Int.emod_nonneg _ (by omega)
      have hd1 : x.node % nd < nd := Int.emod_lt_of_pos _ (by omega)
      have aN := fun W => among_any x.n 1000 W (by omega) (by omega) xn1 xn2
      have aK := fun W => among_any x.kind 2 W (by omega) (by omega) xk1 xk2
      have aD := fun W => among_any x.node nd W (by omega) (by omega) xd1 xd2
      generalize x.n % 1000 = n at *
      generalize x.kind % 2 = kd at *
      generalize x.node % nd = ndx at *
      clear hx
      go_wp2_with fail
      refine hA.mono ?_
      rintro e w3 ⟨rfl, hs3⟩
      have hb3 : Below w.heap.size w w3 := hbel.trans (hs3.2.mono hbel.size)
      have hh3 := hh.sw hs3
      obtain ⟨ck, cn, cv⟩ := hc w3 hb3
      clear hA hh hbel hs3 hc
      go_wp2_with fail
      refine (aN _).mono ?_
      rintro e w4 ⟨rfl, rfl⟩
      clear aN
      go_wp2_with fail
      refine (aK _).mono ?_
      rintro e w4 ⟨rfl, rfl⟩
      clear aK
      by_cases hkd : kd = 0
      · have hq : (kd == 0) = true := by simpa using hkd
        obtain ⟨p1, p2, p3⟩ := hok.all_apart hn0 (by omega)
        have hAll := all_any w3 hh3 hok n
        rw [p1] at hAll
        have hok' := hok.all n
        have hl' := (S.all_len n).trans hlen
        generalize (S.all n).2 = S' at *
        clear p1
        clear aD
        go_wp2_with fail
        refine hAll.mono ?_
        rintro e w5 ⟨rfl, hh5, ho5⟩
        have hb5 := below_only hb3 ho5 hbc' hg'
        have hA5 := apart_any w5 hh5 hok'
        rw [p2] at hA5
        have hne : (S.apart != S.apart) = false := by simp
        clear hAll ho5 hb3 hh3 p2
        generalize S.apart = ap at *
        go_wp2_with fail
        refine hA5.mono ?_
        rintro e w6 ⟨rfl, hs6⟩
        have hb6 : Below w.heap.size w w6 := hb5.trans (hs6.2.mono hb5.size)
        have hh6 := hh5.sw hs6
        clear hA5 hs6 hb5 hh5 ck cn cv
        go_wp2
        go_roundw
        case rel => exact ⟨k + 1, S', by omega, by omega, by go_num, hh6, hok', hl', by omega, hb6⟩
        case measure => simp [intOf]; omega
      · have hq : (kd == 0) = false := by simpa using hkd
        have hhas : S.has ndx = true := Cst.has_iff.2 ⟨hd0, by omega⟩
        obtain ⟨p1, p2, p3, p4⟩ := hok.step_apart hhas hn0 (by omega)
        have hSt := step_any w3 hh3 hok ndx n
        rw [p1] at hSt
        have hok' := hok.step ndx n
        have hl' := (S.step_len ndx n).trans hlen
        generalize (S.step ndx n).2 = S' at *
        generalize (S.step ndx n).1.1 = tt at *
        clear p1
        go_wp2_with fail
        refine (aD _).mono ?_
        rintro e w4 ⟨rfl, rfl⟩
        clear aD
        go_wp2_with fail
        refine hSt.mono ?_
        rintro e w5 ⟨rfl, hh5, ho5⟩
        have hb5 := below_only hb3 ho5 hbc' hg'
        have hA5 := fun W (hw : Sw w5 W) => apart_any W (hh5.sw hw) hok'
        have ha5 : -1073741824 ≤ S'.apart ∧ S'.apart ≤ 1073741824 := by have := hok'.most; have := hok'.least; unfold Cst.apart; omega
        clear hSt ho5 hb3 hh3
        generalize S.apart = ap at *
        generalize S'.apart = ap' at *
        have g1 : ¬ (ap + n < ap') := by omega
        have g2 : ¬ (ap' < ap - n) := by omega
        go_wp2_with fail
        refine (hA5 _ (Sw.refl _)).mono ?_
        rintro e w6 ⟨rfl, hs6⟩
        go_wp2_with fail
        refine (hA5 _ hs6).mono ?_
        rintro e w7 ⟨rfl, hs7⟩
        have hs67 : Sw w5 w7 := ⟨hs7.1.trans hs6.1, hs6.2.trans (hs7.2.mono hs6.2.size)⟩
        have hb7 : Below w.heap.size w w7 := hb5.trans (hs67.2.mono hb5.size)
        have hh7 := hh5.sw hs67
        clear hA5 hs6 hs7 hs67 hb5 hh5 ck cn cv
        go_wp2
        go_roundw
        case rel => exact ⟨k + 1, S', by omega, by omega, by go_num, hh7, hok', hl', by omega, hb7⟩
        case measure => simp [intOf]; omega
    · by_cases hl1 : (k : Int) < (ac.length : Int)
      · have hl3 : ¬ (k : Int) < 100 := fun h => hlt ⟨by omega, by omega⟩
        go_wp2
        go_ret
        exact ⟨rfl, hbel⟩
      · go_wp2
        go_ret
        exact ⟨rfl, hbel⟩

end Go.Proofs.Ytkofmdchopfcgaa.Ck
