/- Layer 9: TableApart: the law's walk. -/
import Derived.Test.YthdempdiibjabaaTbEff
import Derived.Test.YthdempdiibjabaaOpArgO
import Derived.Test.YthdempdiibjabaaTbRows
import Derived.Test.YthdempdiibjabaaTbBookR
namespace Go.Proofs.Ythdempdiibjabaa.Tb
open Go.RowKit Go.Joins Go.Proofs.Ythdempdiibjabaa.Gk Go.Proofs.Ythdempdiibjabaa.Oq Go.Proofs.Ythdempdiibjabaa.Sp

theorem own_len {w : World} {B e size n : Nat} {v : Value} {xs : List Value} (h : w.ownsRow B e size v n xs) : n ≤ 9223372036854775807 := by
  rcases h.2 with ⟨_, h0⟩ | ⟨g, cap, cur, _, _, _, h1, h2, _⟩
  · omega
  · unfold maxLen at h2; omega
theorem rows_len {w : World} {a : Option Addr} {cap : Nat} {l : List Rw} (h : RL w a cap l) : l.length ≤ 9223372036854775807 := by
  have h1 := h.room
  have h2 := h.max
  unfold maxLen at h2; omega

set_option maxRecDepth 100000 in
set_option maxHeartbeats 1600000 in
theorem apart_law (la : Option Addr) (lc : Nat) (l : List OpsA) (a b : Opn) (w : World) (hl : Lies w osenc la l) (he : ∀ x ∈ l, Lies w oenc x.a x.ops) (_ : a.Ok) (_ : b.Ok) :
    Calls Try.prog 8 #[.slice la l.length lc, a.v, b.v] w fun e w' => e = .returned (.bool true) ∧ Below w.heap.size w w' := by
  obtain ⟨ak, aK, av, aS, aT, am⟩ := a
  obtain ⟨bk, bK, bv, bS, bT, bm⟩ := b
  go_enter Try.func8, Try.ntmps8
  go_wp2_with fail
  have hb0 := below_a2 w (.cells (opC ak aK av aS aT am) OpT) (.cells (opC bk bK bv bS bT bm) OpT)
  have hxa := ((below_a1 (w.alloc (.cells (opC ak aK av aS aT am) OpT)) (.cells (opC bk bK bv bS bT bm) OpT)).block w.heap.size (by simp)).trans (heap_alloc_new w _)
  have hxb : ((w.alloc (.cells (opC ak aK av aS aT am) OpT)).alloc (.cells (opC bk bK bv bS bT bm) OpT)).heap[w.heap.size + 1]? = some (.cells (opC bk bK bv bS bT bm) OpT) := by
    have := heap_alloc_new (w.alloc (.cells (opC ak aK av aS aT am) OpT)) (.cells (opC bk bK bv bS bT bm) OpT)
    rwa [show (w.alloc (.cells (opC ak aK av aS aT am) OpT)).heap.size = w.heap.size + 1 by simp] at this
  obtain ⟨W, hW⟩ : ∃ W, W = (w.alloc (.cells (opC ak aK av aS aT am) OpT)).alloc (.cells (opC bk bK bv bS bT bm) OpT) := ⟨_, rfl⟩
  rw [← hW] at hb0 hxa hxb ⊢
  clear hW
  refine (works_tb W).mono ?_
  rintro e w1 ⟨rfl, hb⟩
  have hb1 := hb0.trans (hb.mono hb0.size)
  have hxa1 := (hb.block _ (Array.getElem?_eq_some_iff.1 hxa).1).trans hxa
  have hxb1 := (hb.block _ (Array.getElem?_eq_some_iff.1 hxb).1).trans hxb
  clear hb hb0 hxa hxb
  have hP := fun W (hb : Below w.heap.size w W) => played_tb la lc l W (hl.below hb) (fun x hx => (he x hx).below hb)
  have hTlen : (plays [] (l.take 40)).length ≤ 1280 := by
    have h1 := plays_len (l.take 40) Tok.nil
    have h2 : (l.take 40).length ≤ 40 := by rw [List.length_take]; omega
    simp only [List.length_nil] at h1
    omega
  generalize plays [] (l.take 40) = T at hP hTlen
  go_wp2_with fail
  refine (hP _ hb1).mono ?_
  rintro e w2 ⟨bt, rfl, ht2, lt2, hb⟩
  have hb2 := hb1.trans (hb.mono hb1.size)
  have s2 := Nat.le_trans hb1.size lt2
  have hxa2 := (hb.block _ (Array.getElem?_eq_some_iff.1 hxa1).1).trans hxa1
  have hxb2 := (hb.block _ (Array.getElem?_eq_some_iff.1 hxb1).1).trans hxb1
  have nb1 : w.heap.size + 1 < bt := Nat.lt_of_lt_of_le (Array.getElem?_eq_some_iff.1 hxb1).1 lt2
  clear hb hP hb1 lt2 hxa1 hxb1
  have a0 : w2.cell? ⟨w.heap.size, 0, none⟩ = some (.int .i64 ak) := cellB hxa2 0 rfl
  have a1 : w2.cell? ⟨w.heap.size, 1, none⟩ = some (.string aK) := cellB hxa2 1 rfl
  have b0 : w2.cell? ⟨w.heap.size + 1, 0, none⟩ = some (.int .i64 bk) := cellB hxb2 0 rfl
  have b1 : w2.cell? ⟨w.heap.size + 1, 1, none⟩ = some (.string bK) := cellB hxb2 1 rfl
  by_cases h1 : ak = 6
  · subst h1
    go_wp2
    go_ret
    exact ⟨rfl, hb2⟩
  have c1 : (ak == 6) = false := by simp [h1]
  by_cases h2 : bk = 6
  · subst h2
    clear h1
    go_wp2
    go_ret
    exact ⟨rfl, hb2⟩
  have c2 : (bk == 6) = false := by simp [h2]
  by_cases h3 : aK = bK
  · subst h3
    clear h1 h2
    go_wp2
    go_ret
    exact ⟨rfl, hb2⟩
  obtain ⟨HR1, HR2, HR3⟩ := dos_apart ht2.1 (a := ⟨ak, aK, av, aS, aT, am⟩) (b := ⟨bk, bK, bv, bS, bT, bm⟩) (by omega) h1 h2 h3
  have c3 : (aK.toList == bK.toList) = false := by
    rw [beq_eq_false_iff_ne]
    intro e
    rw [Lib.toList_data, Lib.toList_data] at e
    exact h3 (ba_ext e)
  have H1 := hide HR1
  have H2 := hide HR2
  have H3 := hide HR3
  clear HR1 HR2 HR3 h1 h2 h3
  go_wp2_with fail
  refine (Fork_tb bt T w2 ht2).mono ?_
  rintro e w3 ⟨bu, rfl, hbu3, ltu, hb⟩
  have hb3 := hb2.trans (hb.mono hb2.size)
  have hbt3 := ht2.below hb
  have su := Nat.le_trans hb2.size ltu
  have nu : bt < bu := Nat.lt_of_lt_of_le ht2.lt ltu
  have hxa3 := (hb.block _ (Array.getElem?_eq_some_iff.1 hxa2).1).trans hxa2
  have hxb3 := (hb.block _ (Array.getElem?_eq_some_iff.1 hxb2).1).trans hxb2
  clear hb ht2 hb2 ltu hxa2 hxb2 a0 a1 b0 b1
  have p0 : w3.cell? ⟨w.heap.size, 0, none⟩ = some (.int .i64 ak) := cellB hxa3 0 rfl
  have p1 : w3.cell? ⟨w.heap.size, 1, none⟩ = some (.string aK) := cellB hxa3 1 rfl
  have p2 : w3.cell? ⟨w.heap.size, 2, none⟩ = some (.string av) := cellB hxa3 2 rfl
  have p3 : w3.cell? ⟨w.heap.size, 3, none⟩ = some (.int .i64 aS) := cellB hxa3 3 rfl
  have p4 : w3.cell? ⟨w.heap.size, 4, none⟩ = some (.int .i64 aT) := cellB hxa3 4 rfl
  have p5 : w3.cell? ⟨w.heap.size, 5, none⟩ = some (.int .i64 am) := cellB hxa3 5 rfl
  have q1 : w.heap.size + 1 < w3.heap.size := (Array.getElem?_eq_some_iff.1 hxb3).1
  have q0 : w.heap.size < w3.heap.size := by omega
  have hop := heap_alloc_new w3 (.cells (rc oenc [(⟨ak, aK, av, aS, aT, am⟩ : Opn)]).toArray OpT)
  have hbw : Below w3.heap.size w3 (w3.alloc (.cells (rc oenc [(⟨ak, aK, av, aS, aT, am⟩ : Opn)]).toArray OpT)) := below_a1 w3 _
  have hDo := Do_tb bt T (some ⟨w3.heap.size, 0, none⟩) 1 [(⟨ak, aK, av, aS, aT, am⟩ : Opn)] _ (hbt3.below hbw) (ops_lie hop)
  go_wp2_with fail
  refine hDo.mono ?_
  rintro e w4 ⟨ra1, rcap1, rl1, rfl, hD⟩
  have hb4 := turn_below (hb3.trans (hbw.mono hb3.size)) s2 hD.turn
  have hbt4 := hD.tab
  have hbu4 := (hbu3.below hbw).turn (hbt3.below hbw) (by omega) hD.turn
  have hG1_4 := hD.got
  have hxa4 := (hD.turn.block _ (Nat.lt_of_lt_of_le (Array.getElem?_eq_some_iff.1 hxa3).1 hbw.size) (by show _ ≠ bt; omega)).trans ((hbw.block _ (Array.getElem?_eq_some_iff.1 hxa3).1).trans hxa3)
  have hxb4 := (hD.turn.block _ (Nat.lt_of_lt_of_le (Array.getElem?_eq_some_iff.1 hxb3).1 hbw.size) (by show _ ≠ bt; omega)).trans ((hbw.block _ (Array.getElem?_eq_some_iff.1 hxb3).1).trans hxb3)
  have lw1 : w3.heap.size ≤ w4.heap.size := Nat.le_trans (Nat.le_refl _) (Nat.le_trans hbw.size hD.turn.size)
  obtain ⟨an1, han1⟩ : ∃ an, an = (dos T [(⟨ak, aK, av, aS, aT, am⟩ : Opn)]).1 := ⟨_, rfl⟩
  rw [← han1]
  have HA1 := hide han1
  have hl1 : rl1.map RsA.r = an1.res := by rw [han1]; exact hD.eqs
  clear hDo hD hop hbw p0 p1 p2 p3 p4 p5 q0 q1 han1
  have p0 : w4.cell? ⟨w.heap.size + 1, 0, none⟩ = some (.int .i64 bk) := cellB hxb4 0 rfl
  have p1 : w4.cell? ⟨w.heap.size + 1, 1, none⟩ = some (.string bK) := cellB hxb4 1 rfl
  have p2 : w4.cell? ⟨w.heap.size + 1, 2, none⟩ = some (.string bv) := cellB hxb4 2 rfl
  have p3 : w4.cell? ⟨w.heap.size + 1, 3, none⟩ = some (.int .i64 bS) := cellB hxb4 3 rfl
  have p4 : w4.cell? ⟨w.heap.size + 1, 4, none⟩ = some (.int .i64 bT) := cellB hxb4 4 rfl
  have p5 : w4.cell? ⟨w.heap.size + 1, 5, none⟩ = some (.int .i64 bm) := cellB hxb4 5 rfl
  have q1 : w.heap.size + 1 < w4.heap.size := (Array.getElem?_eq_some_iff.1 hxb4).1
  have q0 : w.heap.size < w4.heap.size := by omega
  have hop : ((w4.alloc (.cells #[.int .i64 an1.at_, .int .i64 an1.code] FltT)).alloc (.cells (rc oenc [(⟨bk, bK, bv, bS, bT, bm⟩ : Opn)]).toArray OpT)).heap[w4.heap.size + 1]? = some (.cells (rc oenc [(⟨bk, bK, bv, bS, bT, bm⟩ : Opn)]).toArray OpT) := by
    have := heap_alloc_new (w4.alloc (.cells #[.int .i64 an1.at_, .int .i64 an1.code] FltT)) (.cells (rc oenc [(⟨bk, bK, bv, bS, bT, bm⟩ : Opn)]).toArray OpT)
    rwa [show (w4.alloc (.cells #[.int .i64 an1.at_, .int .i64 an1.code] FltT)).heap.size = w4.heap.size + 1 by simp] at this
  have hf1 := ((below_a1 (w4.alloc (.cells #[.int .i64 an1.at_, .int .i64 an1.code] FltT)) (.cells (rc oenc [(⟨bk, bK, bv, bS, bT, bm⟩ : Opn)]).toArray OpT)).block w4.heap.size (by simp)).trans (heap_alloc_new w4 _)
  have hbw : Below w4.heap.size w4 ((w4.alloc (.cells #[.int .i64 an1.at_, .int .i64 an1.code] FltT)).alloc (.cells (rc oenc [(⟨bk, bK, bv, bS, bT, bm⟩ : Opn)]).toArray OpT)) := below_a2 w4 _ _
  have hDo := Do_tb bt (dos T [⟨ak, aK, av, aS, aT, am⟩]).2 (some ⟨w4.heap.size + 1, 0, none⟩) 1 [(⟨bk, bK, bv, bS, bT, bm⟩ : Opn)] _ (hbt4.below hbw) (ops_lie hop)
  go_wp2_with fail
  refine hDo.mono ?_
  rintro e w5 ⟨ra2, rcap2, rl2, rfl, hD⟩
  have hb5 := turn_below (hb4.trans (hbw.mono hb4.size)) s2 hD.turn
  have hbt5 := hD.tab
  have hbu5 := (hbu4.below hbw).turn (hbt4.below hbw) (by omega) hD.turn
  have hG2_5 := hD.got
  have hG1_5 := (hG1_4.below hbw).turn (hbt4.below hbw) hD.turn
  have hxa5 := (hD.turn.block _ (Nat.lt_of_lt_of_le (Array.getElem?_eq_some_iff.1 hxa4).1 hbw.size) (by show _ ≠ bt; omega)).trans ((hbw.block _ (Array.getElem?_eq_some_iff.1 hxa4).1).trans hxa4)
  have hxb5 := (hD.turn.block _ (Nat.lt_of_lt_of_le (Array.getElem?_eq_some_iff.1 hxb4).1 hbw.size) (by show _ ≠ bt; omega)).trans ((hbw.block _ (Array.getElem?_eq_some_iff.1 hxb4).1).trans hxb4)
  have hf1_5 := (hD.turn.block _ (Array.getElem?_eq_some_iff.1 hf1).1 (by have h1 := hbt4.lt; show w4.heap.size ≠ bt; omega)).trans hf1
  clear hf1
  have lw2 : w3.heap.size ≤ w5.heap.size := Nat.le_trans lw1 (Nat.le_trans hbw.size hD.turn.size)
  obtain ⟨an2, han2⟩ : ∃ an, an = (dos (dos T [⟨ak, aK, av, aS, aT, am⟩]).2 [(⟨bk, bK, bv, bS, bT, bm⟩ : Opn)]).1 := ⟨_, rfl⟩
  rw [← han2]
  have HA2 := hide han2
  have hl2 : rl2.map RsA.r = an2.res := by rw [han2]; exact hD.eqs
  clear hDo hD hop hbw p0 p1 p2 p3 p4 p5 q0 q1 han2
  clear hbt4
  have p0 : w5.cell? ⟨w.heap.size + 1, 0, none⟩ = some (.int .i64 bk) := cellB hxb5 0 rfl
  have p1 : w5.cell? ⟨w.heap.size + 1, 1, none⟩ = some (.string bK) := cellB hxb5 1 rfl
  have p2 : w5.cell? ⟨w.heap.size + 1, 2, none⟩ = some (.string bv) := cellB hxb5 2 rfl
  have p3 : w5.cell? ⟨w.heap.size + 1, 3, none⟩ = some (.int .i64 bS) := cellB hxb5 3 rfl
  have p4 : w5.cell? ⟨w.heap.size + 1, 4, none⟩ = some (.int .i64 bT) := cellB hxb5 4 rfl
  have p5 : w5.cell? ⟨w.heap.size + 1, 5, none⟩ = some (.int .i64 bm) := cellB hxb5 5 rfl
  have q1 : w.heap.size + 1 < w5.heap.size := (Array.getElem?_eq_some_iff.1 hxb5).1
  have q0 : w.heap.size < w5.heap.size := by omega
  have hop : ((w5.alloc (.cells #[.int .i64 an2.at_, .int .i64 an2.code] FltT)).alloc (.cells (rc oenc [(⟨bk, bK, bv, bS, bT, bm⟩ : Opn)]).toArray OpT)).heap[w5.heap.size + 1]? = some (.cells (rc oenc [(⟨bk, bK, bv, bS, bT, bm⟩ : Opn)]).toArray OpT) := by
    have := heap_alloc_new (w5.alloc (.cells #[.int .i64 an2.at_, .int .i64 an2.code] FltT)) (.cells (rc oenc [(⟨bk, bK, bv, bS, bT, bm⟩ : Opn)]).toArray OpT)
    rwa [show (w5.alloc (.cells #[.int .i64 an2.at_, .int .i64 an2.code] FltT)).heap.size = w5.heap.size + 1 by simp] at this
  have hf2 := ((below_a1 (w5.alloc (.cells #[.int .i64 an2.at_, .int .i64 an2.code] FltT)) (.cells (rc oenc [(⟨bk, bK, bv, bS, bT, bm⟩ : Opn)]).toArray OpT)).block w5.heap.size (by simp)).trans (heap_alloc_new w5 _)
  have hbw : Below w5.heap.size w5 ((w5.alloc (.cells #[.int .i64 an2.at_, .int .i64 an2.code] FltT)).alloc (.cells (rc oenc [(⟨bk, bK, bv, bS, bT, bm⟩ : Opn)]).toArray OpT)) := below_a2 w5 _ _
  have hDo := Do_tb bu T (some ⟨w5.heap.size + 1, 0, none⟩) 1 [(⟨bk, bK, bv, bS, bT, bm⟩ : Opn)] _ (hbu5.below hbw) (ops_lie hop)
  go_wp2_with fail
  refine hDo.mono ?_
  rintro e w6 ⟨ra3, rcap3, rl3, rfl, hD⟩
  have hb6 := turn_below (hb5.trans (hbw.mono hb5.size)) su hD.turn
  have hbu6 := hD.tab
  have hbt6 := (hbt5.below hbw).turn (hbu5.below hbw) (by omega) hD.turn
  have hG3_6 := hD.got
  have hG1_6 := (hG1_5.below hbw).turn (hbu5.below hbw) hD.turn
  have hG2_6 := (hG2_5.below hbw).turn (hbu5.below hbw) hD.turn
  have hxa6 := (hD.turn.block _ (Nat.lt_of_lt_of_le (Array.getElem?_eq_some_iff.1 hxa5).1 hbw.size) (by show _ ≠ bu; omega)).trans ((hbw.block _ (Array.getElem?_eq_some_iff.1 hxa5).1).trans hxa5)
  have hxb6 := (hD.turn.block _ (Nat.lt_of_lt_of_le (Array.getElem?_eq_some_iff.1 hxb5).1 hbw.size) (by show _ ≠ bu; omega)).trans ((hbw.block _ (Array.getElem?_eq_some_iff.1 hxb5).1).trans hxb5)
  have hf1_6 := (hD.turn.block _ (Nat.lt_of_lt_of_le (Array.getElem?_eq_some_iff.1 hf1_5).1 hbw.size) (by have h1 := hbu3.lt; have h2 := lw1; show w4.heap.size ≠ bu; omega)).trans ((hbw.block _ (Array.getElem?_eq_some_iff.1 hf1_5).1).trans hf1_5)
  have hf2_6 := (hD.turn.block _ (Array.getElem?_eq_some_iff.1 hf2).1 (by have h1 := hbu5.lt; show w5.heap.size ≠ bu; omega)).trans hf2
  clear hf2
  have lw3 : w3.heap.size ≤ w6.heap.size := Nat.le_trans lw2 (Nat.le_trans hbw.size hD.turn.size)
  obtain ⟨an3, han3⟩ : ∃ an, an = (dos T [(⟨bk, bK, bv, bS, bT, bm⟩ : Opn)]).1 := ⟨_, rfl⟩
  rw [← han3]
  have HA3 := hide han3
  have hl3 : rl3.map RsA.r = an3.res := by rw [han3]; exact hD.eqs
  clear hDo hD hop hbw p0 p1 p2 p3 p4 p5 q0 q1 han3
  clear hbu5
  have p0 : w6.cell? ⟨w.heap.size, 0, none⟩ = some (.int .i64 ak) := cellB hxa6 0 rfl
  have p1 : w6.cell? ⟨w.heap.size, 1, none⟩ = some (.string aK) := cellB hxa6 1 rfl
  have p2 : w6.cell? ⟨w.heap.size, 2, none⟩ = some (.string av) := cellB hxa6 2 rfl
  have p3 : w6.cell? ⟨w.heap.size, 3, none⟩ = some (.int .i64 aS) := cellB hxa6 3 rfl
  have p4 : w6.cell? ⟨w.heap.size, 4, none⟩ = some (.int .i64 aT) := cellB hxa6 4 rfl
  have p5 : w6.cell? ⟨w.heap.size, 5, none⟩ = some (.int .i64 am) := cellB hxa6 5 rfl
  have q1 : w.heap.size + 1 < w6.heap.size := (Array.getElem?_eq_some_iff.1 hxb6).1
  have q0 : w.heap.size < w6.heap.size := by omega
  have hop : ((w6.alloc (.cells #[.int .i64 an3.at_, .int .i64 an3.code] FltT)).alloc (.cells (rc oenc [(⟨ak, aK, av, aS, aT, am⟩ : Opn)]).toArray OpT)).heap[w6.heap.size + 1]? = some (.cells (rc oenc [(⟨ak, aK, av, aS, aT, am⟩ : Opn)]).toArray OpT) := by
    have := heap_alloc_new (w6.alloc (.cells #[.int .i64 an3.at_, .int .i64 an3.code] FltT)) (.cells (rc oenc [(⟨ak, aK, av, aS, aT, am⟩ : Opn)]).toArray OpT)
    rwa [show (w6.alloc (.cells #[.int .i64 an3.at_, .int .i64 an3.code] FltT)).heap.size = w6.heap.size + 1 by simp] at this
  have hf3 := ((below_a1 (w6.alloc (.cells #[.int .i64 an3.at_, .int .i64 an3.code] FltT)) (.cells (rc oenc [(⟨ak, aK, av, aS, aT, am⟩ : Opn)]).toArray OpT)).block w6.heap.size (by simp)).trans (heap_alloc_new w6 _)
  have hbw : Below w6.heap.size w6 ((w6.alloc (.cells #[.int .i64 an3.at_, .int .i64 an3.code] FltT)).alloc (.cells (rc oenc [(⟨ak, aK, av, aS, aT, am⟩ : Opn)]).toArray OpT)) := below_a2 w6 _ _
  have hDo := Do_tb bu (dos T [⟨bk, bK, bv, bS, bT, bm⟩]).2 (some ⟨w6.heap.size + 1, 0, none⟩) 1 [(⟨ak, aK, av, aS, aT, am⟩ : Opn)] _ (hbu6.below hbw) (ops_lie hop)
  go_wp2_with fail
  refine hDo.mono ?_
  rintro e w7 ⟨ra4, rcap4, rl4, rfl, hD⟩
  have hb7 := turn_below (hb6.trans (hbw.mono hb6.size)) su hD.turn
  have hbu7 := hD.tab
  have hbt7 := (hbt6.below hbw).turn (hbu6.below hbw) (by omega) hD.turn
  have hG4_7 := hD.got
  have hG1_7 := (hG1_6.below hbw).turn (hbu6.below hbw) hD.turn
  have hG2_7 := (hG2_6.below hbw).turn (hbu6.below hbw) hD.turn
  have hG3_7 := (hG3_6.below hbw).turn (hbu6.below hbw) hD.turn
  have hxa7 := (hD.turn.block _ (Nat.lt_of_lt_of_le (Array.getElem?_eq_some_iff.1 hxa6).1 hbw.size) (by show _ ≠ bu; omega)).trans ((hbw.block _ (Array.getElem?_eq_some_iff.1 hxa6).1).trans hxa6)
  have hxb7 := (hD.turn.block _ (Nat.lt_of_lt_of_le (Array.getElem?_eq_some_iff.1 hxb6).1 hbw.size) (by show _ ≠ bu; omega)).trans ((hbw.block _ (Array.getElem?_eq_some_iff.1 hxb6).1).trans hxb6)
  have hf1_7 := (hD.turn.block _ (Nat.lt_of_lt_of_le (Array.getElem?_eq_some_iff.1 hf1_6).1 hbw.size) (by have h1 := hbu3.lt; have h2 := lw1; show w4.heap.size ≠ bu; omega)).trans ((hbw.block _ (Array.getElem?_eq_some_iff.1 hf1_6).1).trans hf1_6)
  have hf2_7 := (hD.turn.block _ (Nat.lt_of_lt_of_le (Array.getElem?_eq_some_iff.1 hf2_6).1 hbw.size) (by have h1 := hbu3.lt; have h2 := lw2; show w5.heap.size ≠ bu; omega)).trans ((hbw.block _ (Array.getElem?_eq_some_iff.1 hf2_6).1).trans hf2_6)
  have hf3_7 := (hD.turn.block _ (Array.getElem?_eq_some_iff.1 hf3).1 (by have h1 := hbu6.lt; show w6.heap.size ≠ bu; omega)).trans hf3
  clear hf3
  have lw4 : w3.heap.size ≤ w7.heap.size := Nat.le_trans lw3 (Nat.le_trans hbw.size hD.turn.size)
  obtain ⟨an4, han4⟩ : ∃ an, an = (dos (dos T [⟨bk, bK, bv, bS, bT, bm⟩]).2 [(⟨ak, aK, av, aS, aT, am⟩ : Opn)]).1 := ⟨_, rfl⟩
  rw [← han4]
  have HA4 := hide han4
  have hl4 : rl4.map RsA.r = an4.res := by rw [han4]; exact hD.eqs
  clear hDo hD hop hbw p0 p1 p2 p3 p4 p5 q0 q1 han4
  clear hbu6
  have e41 : an4 = an1 := by rw [HA4.out, HA1.out, H1.out]
  have e32 : an3 = an2 := by rw [HA3.out, HA2.out, H2.out]
  subst e41 e32
  have hl14 : rl1.map RsA.r = rl4.map RsA.r := hl1.trans hl4.symm
  have hl23 : rl2.map RsA.r = rl3.map RsA.r := hl2.trans hl3.symm
  have n14 : rl4.length = rl1.length := by have := congrArg List.length hl14; simpa using this.symm
  have n23 : rl3.length = rl2.length := by have := congrArg List.length hl23; simpa using this.symm
  rw [n14]
  rw [n23]
  have z1 := (Array.getElem?_eq_some_iff.1 hf1_7).1
  have z2 := (Array.getElem?_eq_some_iff.1 hf2_7).1
  have z3 := (Array.getElem?_eq_some_iff.1 hf3_7).1
  have y10 : w7.cell? ⟨w4.heap.size, 0, none⟩ = some (.int .i64 an4.at_) := cellB hf1_7 0 rfl
  have y11 : w7.cell? ⟨w4.heap.size, 1, none⟩ = some (.int .i64 an4.code) := cellB hf1_7 1 rfl
  have y20 : w7.cell? ⟨w5.heap.size, 0, none⟩ = some (.int .i64 an3.at_) := cellB hf2_7 0 rfl
  have y21 : w7.cell? ⟨w5.heap.size, 1, none⟩ = some (.int .i64 an3.code) := cellB hf2_7 1 rfl
  have y30 : w7.cell? ⟨w6.heap.size, 0, none⟩ = some (.int .i64 an3.at_) := cellB hf3_7 0 rfl
  have y31 : w7.cell? ⟨w6.heap.size, 1, none⟩ = some (.int .i64 an3.code) := cellB hf3_7 1 rfl
  have hba := below_a1 w7 (.cells #[.int .i64 an4.at_, .int .i64 an4.code] FltT)
  have hb8 := hb7.trans (hba.mono hb7.size)
  have m4 : (an4.at_ == an4.at_) = true := by simp
  have m5 : (an4.code == an4.code) = true := by simp
  have m6 : (an3.at_ == an3.at_) = true := by simp
  have m7 : (an3.code == an3.code) = true := by simp
  have hS1 := sameResults_any ra1 ra4 rcap1 rcap4 rl1 rl4 _ (hG1_7.below hba).lies (hG4_7.below hba).lies hl14 (by have := own_len hG1_7.row; omega) (fun x hx => rows_len (hG1_7.rows x hx))
  have hS2 := fun W (hb : Below w7.heap.size w7 W) => sameResults_any ra2 ra3 rcap2 rcap3 rl2 rl3 W (hG2_7.below hb).lies (hG3_7.below hb).lies hl23 (by have := own_len hG2_7.row; omega) (fun x hx => rows_len (hG2_7.rows x hx))
  go_wp2_with fail
  refine hS1.mono ?_
  rintro e w8 ⟨rfl, hb⟩
  have hb78 := hba.trans (hb.mono hba.size)
  have hb9 := hb8.trans (hb.mono hb8.size)
  clear hS1 hb hb8 hba
  go_wp2_with fail
  refine (hS2 _ hb78).mono ?_
  rintro e w9 ⟨rfl, hb⟩
  have hb79 := hb78.trans (hb.mono hb78.size)
  have hb10 := hb9.trans (hb.mono hb9.size)
  have hbt9 := hbt7.below hb79
  have hbu9 := hbu7.below hb79
  rw [← H3.out] at hbu9
  generalize (dos (dos T [(⟨ak, aK, av, aS, aT, am⟩ : Opn)]).2 [(⟨bk, bK, bv, bS, bT, bm⟩ : Opn)]).2 = U at hbt9 hbu9
  have hUl := hbt9.1.len
  clear hS2 hb hb9 hb78 hb79 H3
  go_wp2_with fail
  refine (Rows_all bt U w9 hbt9).mono ?_
  rintro e w11 ⟨g11, rfl, ho11, hb⟩
  have hb11 := hb10.trans (hb.mono hb10.size)
  have hbu11 := hbu9.below hb
  clear hb hb10 hbt9 hbu9
  go_wp2_with fail
  refine (Rows_all bu U w11 hbu11).mono ?_
  rintro e w12 ⟨g12, rfl, ho12, hb⟩
  have hb12 := hb11.trans (hb.mono hb11.size)
  have ho11' := own_below ho11 hb
  clear hb hb11 hbu11 ho11
  go_wp2_with fail
  refine (sameRows_any _ _ _ _ U w12 (RL.of_own ho11').lies (RL.of_own ho12).lies (by omega)).mono ?_
  rintro e w13 ⟨rfl, hb⟩
  have hb13 := hb12.trans (hb.mono hb12.size)
  clear hb
  go_wp2
  go_ret
  exact ⟨rfl, hb13⟩

end Go.Proofs.Ythdempdiibjabaa.Tb
