/- Layer 9: works, played. -/
import Derived.Test.YthdempdiibjabaaTbDoL
namespace Go.Proofs.Ythdempdiibjabaa.Tb
open Go.RowKit Go.Joins Go.Proofs.Ythdempdiibjabaa.Gk Go.Proofs.Ythdempdiibjabaa.Oq Go.Proofs.Ythdempdiibjabaa.Sp

/-- a list of operations, and where it lies -/
structure OpsA where
  a : Option Addr
  cap : Nat
  ops : List Opn
def osenc (x : OpsA) : List Value := [.slice x.a x.ops.length x.cap]
theorem osenc_len (x : OpsA) : (osenc x).length = 1 := rfl
/-- a table behind some operations -/
def plays (t : List Rw) : List OpsA → List Rw
  | [] => t
  | x :: r => plays (dos t x.ops).2 r
theorem plays_snoc : ∀ (l : List OpsA) (t : List Rw) (x : OpsA), plays t (l ++ [x]) = (dos (plays t l) x.ops).2
  | [], _, _ => rfl
  | y :: l, t, x => by show plays _ (l ++ [x]) = _; rw [plays_snoc l]; rfl

set_option maxRecDepth 100000 in
set_option maxHeartbeats 1600000 in
theorem played_tb (a : Option Addr) (cap : Nat) (l : List OpsA) (w : World) (hl : Lies w osenc a l) (he : ∀ x ∈ l, Lies w oenc x.a x.ops) :
    Calls Try.prog 21 #[.slice a l.length cap] w fun e w' => ∃ b, e = .returned (ptr b) ∧ TH w' b (plays [] (l.take 40)) ∧ w.heap.size ≤ b ∧ Below w.heap.size w w' := by
  go_enter Try.func21, Try.ntmps21
  go_wp2_with fail
  refine (New_tb w).mono ?_
  rintro e w1 ⟨bt, rfl, hT, hbt, hb1⟩
  go_wp2
  go_loopw [4] (fun i wr => ∃ k : Nat, k ≤ l.length ∧ k ≤ 40 ∧ i = .int .i64 k ∧ TH wr bt (plays [] (l.take k)) ∧ Below w.heap.size w wr) (fun i _ => l.length - (intOf i).toNat)
  case atStart => exact ⟨0, by omega, by omega, rfl, hT, hb1⟩
  case round =>
    clear hT hb1
    obtain ⟨k, hk, hk40, rfl, hT, hbel⟩ := hrel
    have hwr := hbel.size
    by_cases hgo : k < l.length ∧ k < 40
    · obtain ⟨hlt, h40⟩ := hgo
      have g1 : ((k : Int) < (l.length : Int)) := by omega
      have g2 : ((k : Int) < 40) := by omega
      have g3 : (0 : Int) ≤ (k : Int) := by omega
      obtain ⟨b, off, rfl, hbl, hc⟩ := (hl.below hbel).at osenc_len k hlt
      have c0 := hc 0 _ rfl
      rw [Nat.add_zero, Nat.mul_one] at c0
      clear hc
      have HE := hide ((he _ (List.getElem_mem hlt)).below hbel)
      have HT := hide (List.take_succ_eq_append_getElem hlt)
      generalize l[k] = x at *
      obtain ⟨xa, xcap, xo⟩ := x
      simp only at c0 HE
      go_wp2_with fail
      refine (Do_tb bt _ xa xcap xo wr hT HE.out).mono ?_
      rintro e w2 ⟨ra, rcap, rl, rfl, hP⟩
      have hbel2 := turn_below hbel hbt hP.turn
      have hT2 : TH w2 bt (plays [] (l.take (k + 1))) := by rw [HT.out, plays_snoc]; exact hP.tab
      clear hP hT hbel HT HE c0
      go_wp2
      go_roundw
      case rel => exact ⟨k + 1, by omega, by omega, by go_num, hT2, hbel2⟩
      case measure => simp [intOf]; omega
    · have hstop : Hid (((k : Int) < (l.length : Int) ∧ ¬ (k : Int) < 40) ∨ ¬ (k : Int) < (l.length : Int)) := by
        by_cases h1 : k < l.length
        · exact Or.inl ⟨by omega, by omega⟩
        · exact Or.inr (by omega)
      have HT : Hid (l.take k = l.take 40) := by
        show _ = _
        by_cases h1 : k < l.length
        · rw [show k = 40 by omega]
        · rw [List.take_of_length_le (by omega), List.take_of_length_le (by omega)]
      clear hgo
      rcases hstop.out with ⟨g1, g2⟩ | g1
      all_goals
        clear hstop
        go_wp2
        go_ret
        exact ⟨bt, rfl, by rw [← HT.out]; exact hT, hbt, hbel⟩

/-- one result: its cells -/
theorem DoP.single {bt : Nat} {w w' : World} {r : Rs} {at_ code : Int} {t : List Rw} {ra : Option Addr} {rcap : Nat} {rl : List RsA} (h : DoP bt w (⟨[r], at_, code⟩, t) ra rcap rl w') :
    ∃ R g, rl = [R] ∧ R.r = r ∧ ra = some ⟨g, 0, none⟩ ∧ g < w'.heap.size ∧ w'.cell? ⟨g, 0, none⟩ = some (.int .i64 r.code) ∧ w'.cell? ⟨g, 1, none⟩ = some (.int .i64 r.stamp) ∧ w'.cell? ⟨g, 2, none⟩ = some (.string r.val) ∧ w'.cell? ⟨g, 3, none⟩ = some (.slice R.a r.rows.length R.cap) ∧ RL w' R.a R.cap r.rows := by
  have h1 := h.eqs
  obtain ⟨R, rfl⟩ : ∃ R, rl = [R] := by
    match rl, h1 with
    | [R], _ => exact ⟨R, rfl⟩
  have h2 : R.r = r := by simpa using h1
  obtain ⟨g, cap, e, hg, hc⟩ := Row.at (enc := rsenc) (k := 4) (l := [R]) (own_mono h.row (Nat.zero_le _)) rsenc_len 0 (by simp)
  cases e
  subst h2
  have hc0 := hc 0 _ rfl
  have hc1 := hc 1 _ rfl
  have hc2 := hc 2 _ rfl
  have hc3 := hc 3 _ rfl
  simp only [Nat.zero_mul, Nat.zero_add] at hc0 hc1 hc2 hc3
  exact ⟨R, g, rfl, rfl, rfl, hg, hc0, hc1, hc2, hc3, h.rows R (by simp)⟩

/-- the chapter's example -/
structure Tr where
  o : Opn
  code : Int
  stamp : Int
def trenc (x : Tr) : List Value := [.int .i64 x.o.kind, .string x.o.key, .string x.o.val, .int .i64 x.o.stamp, .int .i64 x.o.test, .int .i64 x.o.most, .int .i64 x.code, .int .i64 x.stamp]
theorem trenc_len (x : Tr) : (trenc x).length = 8 := rfl
abbrev bk : ByteArray := ⟨#[107]⟩
abbrev bv : ByteArray := ⟨#[118]⟩
abbrev bw : ByteArray := ⟨#[119]⟩
def trs : List Tr := [⟨⟨1, bk, bv, 5, 0, 0⟩, 0, 5⟩, ⟨⟨1, bk, bw, 6, 0, 0⟩, 90, 5⟩, ⟨⟨3, bk, bw, 5, 0, 0⟩, 92, 5⟩, ⟨⟨3, bk, bw, 6, 5, 0⟩, 0, 6⟩]
def stt : Nat → List Rw
  | 0 => []
  | 4 => [⟨bk, 6, bw⟩]
  | _ => [⟨bk, 5, bv⟩]
set_option maxRecDepth 100000 in
theorem trs_do : ∀ j (h : j < trs.length), dos (stt j) [trs[j].o] = (⟨[Tb.rs trs[j].code trs[j].stamp nix], 0, 0⟩, stt (j + 1))
  | 0, _ => by kernel_rfl
  | 1, _ => by kernel_rfl
  | 2, _ => by kernel_rfl
  | 3, _ => by kernel_rfl
  | j + 4, h => absurd h (by simp [trs])

abbrev bx : ByteArray := ⟨#[120]⟩
abbrev bj : ByteArray := ⟨#[106]⟩
set_option maxRecDepth 100000 in
theorem do_five : dos (stt 4) [⟨3, bk, bx, 9, 0, 0⟩, ⟨5, bj, ⟨#[]⟩, 0, 0, 0⟩] = (⟨[], 1, 91⟩, stt 4) := by kernel_rfl
set_option maxRecDepth 100000 in
theorem do_six : dos (stt 4) [⟨5, bk, ⟨#[]⟩, 0, 0, 0⟩] = (⟨[⟨0, 6, bw, []⟩], 0, 0⟩, stt 4) := by kernel_rfl
/-- operations in a box -/
theorem ops_lie {W : World} {b : Nat} {l : List Opn} (h : W.heap[b]? = some (.cells (rc oenc l).toArray OpT (0, 0))) : Lies W oenc (some ⟨b, 0, none⟩) l :=
  Or.inr ⟨_, 0, rfl, (Array.getElem?_eq_some_iff.1 h).1, fun j u hj => by rw [cell_of_block h]; simpa using hj⟩

set_option maxRecDepth 100000 in
set_option maxHeartbeats 1600000 in
theorem works_tb (w : World) : Calls Try.prog 10 #[] w fun e w' => e = .returned (.bool true) ∧ Below w.heap.size w w' := by
  go_enter Try.func10, Try.ntmps10
  go_wp2_with fail
  refine (New_tb w).mono ?_
  rintro e w1 ⟨bt, rfl, hT, hbt, hb1⟩
  have hg0 := heap_alloc_new w1 (.cells (rc trenc trs).toArray 69)
  have hlie : Lies (w1.alloc (.cells (rc trenc trs).toArray 69)) trenc (some ⟨w1.heap.size, 0, none⟩) trs := Or.inr ⟨_, 0, rfl, (Array.getElem?_eq_some_iff.1 hg0).1, fun j u hj => by rw [cell_of_block hg0]; simpa using hj⟩
  go_wp2
  have hT2 := hT.below (below_a1 w1 (.cells (rc trenc trs).toArray 69))
  have hb2 := hb1.alloc hb1.size (.cells (rc trenc trs).toArray 69)
  obtain ⟨W, hW⟩ : ∃ W, W = w1.alloc (.cells (rc trenc trs).toArray 69) := ⟨_, rfl⟩
  rw [← hW] at hlie hT2 hb2
  have hW' := hW
  simp only [rc, trs, trenc, List.flatMap_cons, List.flatMap_nil, List.cons_append, List.nil_append, List.append_nil] at hW'
  rw [← hW']
  have hbt1 := hT.lt
  clear hW hW' hg0 hT hb1
  go_loopw [23] (fun i wr => ∃ k : Nat, k ≤ 4 ∧ i = .int .i64 k ∧ TH wr bt (stt k) ∧ Turn bt W wr ∧ Below w.heap.size w wr) (fun i _ => 4 - (intOf i).toNat)
  case atStart => exact ⟨0, by omega, rfl, hT2, Only.refl _ _, hb2⟩
  case round =>
    clear hT2 hb2
    obtain ⟨k, hk, rfl, hT, hTu, hbel⟩ := hrel
    have hwr := hbel.size
    by_cases hlt : k < 4
    · have hkl : k < trs.length := hlt
      obtain ⟨b, off, e0, hbl, hc⟩ := (hlie.later (fun b off e hb => hTu.block b hb (by cases e; show w1.heap.size ≠ bt; omega)) hTu.size).at (k := 8) trenc_len k hkl
      cases e0
      have c0 := hc 0 _ rfl
      have c1 := hc 1 _ rfl
      have c2 := hc 2 _ rfl
      have c3 := hc 3 _ rfl
      have c4 := hc 4 _ rfl
      have c5 := hc 5 _ rfl
      have c6 := hc 6 _ rfl
      have c7 := hc 7 _ rfl
      rw [Nat.add_zero] at c0
      clear hc
      have HD := hide (trs_do k hkl)
      generalize trs[k] = x at *
      obtain ⟨⟨kind, key, val, stamp, test, most⟩, xc, xs⟩ := x
      simp only [Nat.zero_add] at c0 c1 c2 c3 c4 c5 c6 c7 HD
      have i1 : (0 : Int) ≤ (k : Int) := by omega
      have i2 : (k : Int) < 4 := by omega
      have hx := ((below_a1 (wr.alloc (.cells #[.int .i64 kind, .string key, .string val, .int .i64 stamp, .int .i64 test, .int .i64 most, .int .i64 xc, .int .i64 xs] 69)) (.cells (opC kind key val stamp test most) OpT)).block wr.heap.size (by simp)).trans (heap_alloc_new wr _)
      have ho : ((wr.alloc (.cells #[.int .i64 kind, .string key, .string val, .int .i64 stamp, .int .i64 test, .int .i64 most, .int .i64 xc, .int .i64 xs] 69)).alloc (.cells (opC kind key val stamp test most) OpT)).heap[wr.heap.size + 1]? = some (.cells (opC kind key val stamp test most) OpT) := by
        have := heap_alloc_new (wr.alloc (.cells #[.int .i64 kind, .string key, .string val, .int .i64 stamp, .int .i64 test, .int .i64 most, .int .i64 xc, .int .i64 xs] 69)) (.cells (opC kind key val stamp test most) OpT)
        rwa [show (wr.alloc (.cells #[.int .i64 kind, .string key, .string val, .int .i64 stamp, .int .i64 test, .int .i64 most, .int .i64 xc, .int .i64 xs] 69)).heap.size = wr.heap.size + 1 by simp] at this
      have hb0 := below_a2 wr (.cells #[.int .i64 kind, .string key, .string val, .int .i64 stamp, .int .i64 test, .int .i64 most, .int .i64 xc, .int .i64 xs] 69) (.cells (opC kind key val stamp test most) OpT)
      go_wp2_with fail
      obtain ⟨w2, hw2⟩ : ∃ w2, w2 = (wr.alloc (.cells #[.int .i64 kind, .string key, .string val, .int .i64 stamp, .int .i64 test, .int .i64 most, .int .i64 xc, .int .i64 xs] 69)).alloc (.cells (opC kind key val stamp test most) OpT) := ⟨_, rfl⟩
      rw [← hw2] at hx ho hb0 ⊢
      clear hw2
      have hlies : Lies w2 oenc (some ⟨wr.heap.size + 1, 0, none⟩) [⟨kind, key, val, stamp, test, most⟩] := Or.inr ⟨_, 0, rfl, (Array.getElem?_eq_some_iff.1 ho).1, fun j u hj => by rw [cell_of_block ho]; rw [rc_one] at hj; simpa [oenc] using hj⟩
      have hDo := Do_tb bt (stt k) (some ⟨wr.heap.size + 1, 0, none⟩) 1 [⟨kind, key, val, stamp, test, most⟩] w2 (hT.below hb0) hlies
      rw [HD.out] at hDo
      refine hDo.mono ?_
      rintro e w3 ⟨ra, rcap, rl, rfl, hP⟩
      obtain ⟨R, g, rfl, hR, rfl, hg, d0, d1, d2, d3, -⟩ := hP.single
      have hx3 := (hP.turn.block _ (Array.getElem?_eq_some_iff.1 hx).1 (by have := hT.lt; show wr.heap.size ≠ bt; omega)).trans hx
      have x6 : w3.cell? ⟨wr.heap.size, 6, none⟩ = some (.int .i64 xc) := cellB hx3 6 rfl
      have x7 : w3.cell? ⟨wr.heap.size, 7, none⟩ = some (.int .i64 xs) := cellB hx3 7 rfl
      have hxl := (Array.getElem?_eq_some_iff.1 hx3).1
      have hb9 : Below w.heap.size w w2 := hbel.trans (hb0.mono hwr)
      have hT3 := hP.tab
      have hTu3 : Turn bt W w3 := (hTu.trans (Only.of_below hb0)).trans hP.turn
      have hbel3 := turn_below hb9 hbt hP.turn
      simp only [List.length_cons, List.length_nil]
      clear hP hDo hlies ho hx hx3 hb0 hb9 hT hTu hbel c0 c1 c2 c3 c4 c5 c6 c7 HD hR d2 d3
      go_wp2
      obtain ⟨w4, hw4⟩ : ∃ w4, w4 = w3.alloc (.cells #[.int .i64 0, .int .i64 0] FltT) := ⟨_, rfl⟩
      have hb4 : Below w3.heap.size w3 w4 := by rw [hw4]; exact below_a1 _ _
      have z0 : w4.cell? ⟨w3.heap.size, 0, none⟩ = some (.int .i64 0) := by rw [hw4]; exact cellB (heap_alloc_new w3 _) 0 rfl
      have z1 : w4.cell? ⟨w3.heap.size, 1, none⟩ = some (.int .i64 0) := by rw [hw4]; exact cellB (heap_alloc_new w3 _) 1 rfl
      rw [← hw4]
      clear hw4
      have e0 := (hb4.cell (p := ⟨g, 0, none⟩) hg).trans d0
      have e1 := (hb4.cell (p := ⟨g, 1, none⟩) hg).trans d1
      have y6 := (hb4.cell (p := ⟨wr.heap.size, 6, none⟩) hxl).trans x6
      have y7 := (hb4.cell (p := ⟨wr.heap.size, 7, none⟩) hxl).trans x7
      have n1 : (xc != xc) = false := by simp
      have n2 : (xs != xs) = false := by simp
      have hT4 := hT3.below hb4
      have hTu4 : Turn bt W w4 := hTu3.trans (Only.of_below hb4)
      have hbel4 := hbel3.trans (hb4.mono hbel3.size)
      clear hb4 d0 d1 x6 x7 hT3 hTu3 hbel3
      go_quiet (fail)
      go_wp2
      go_roundw
      case rel => exact ⟨k + 1, by omega, by go_num, hT4.below (below_drewN (Below.refl _ _) nq), hTu4.trans (Only.of_below (below_drewN (Below.refl _ _) nq)), below_drewN hbel4 nq⟩
      case measure => simp [intOf]; omega
    · obtain rfl : k = 4 := by omega
      clear hTu hlie
      have ho := heap_alloc_new wr (.cells (rc oenc [(⟨3, bk, bx, 9, 0, 0⟩ : Opn), ⟨5, bj, ⟨#[]⟩, 0, 0, 0⟩]).toArray OpT)
      have hb0 := below_a1 wr (.cells (rc oenc [(⟨3, bk, bx, 9, 0, 0⟩ : Opn), ⟨5, bj, ⟨#[]⟩, 0, 0, 0⟩]).toArray OpT)
      have hDo := Do_tb bt (stt 4) (some ⟨wr.heap.size, 0, none⟩) 2 [(⟨3, bk, bx, 9, 0, 0⟩ : Opn), ⟨5, bj, ⟨#[]⟩, 0, 0, 0⟩] _ (hT.below hb0) (ops_lie ho)
      rw [do_five] at hDo
      go_wp2_with fail
      refine hDo.mono ?_
      rintro e w2 ⟨ra, rcap, rl, rfl, hP⟩
      obtain rfl : rl = [] := by have := hP.eqs; simpa using this
      have hT2 := hP.tab
      have hbel2 := turn_below (hbel.trans (hb0.mono hwr)) hbt hP.turn
      clear hP hDo hT hbel hb0 ho
      have hbb := fun o o' => hbel2.trans ((below_a2 w2 o o').mono hbel2.size)
      have ho2 : ∀ o : Obj, ((w2.alloc o).alloc (.cells (rc oenc [(⟨5, bk, ⟨#[]⟩, 0, 0, 0⟩ : Opn)]).toArray OpT)).heap[w2.heap.size + 1]? = some (.cells (rc oenc [(⟨5, bk, ⟨#[]⟩, 0, 0, 0⟩ : Opn)]).toArray OpT) := fun o => by
        have := heap_alloc_new (w2.alloc o) (.cells (rc oenc [(⟨5, bk, ⟨#[]⟩, 0, 0, 0⟩ : Opn)]).toArray OpT)
        rwa [show (w2.alloc o).heap.size = w2.heap.size + 1 by simp] at this
      have hDo2 := fun o => Do_tb bt (stt 4) (some ⟨w2.heap.size + 1, 0, none⟩) 1 [(⟨5, bk, ⟨#[]⟩, 0, 0, 0⟩ : Opn)] ((w2.alloc o).alloc (.cells (rc oenc [(⟨5, bk, ⟨#[]⟩, 0, 0, 0⟩ : Opn)]).toArray OpT)) (hT2.below (below_a2 _ _ _)) (ops_lie (ho2 o))
      rw [do_six] at hDo2
      have hf1 := ((below_a1 (w2.alloc (.cells #[.int .i64 1, .int .i64 91] FltT)) (.cells (rc oenc [(⟨5, bk, ⟨#[]⟩, 0, 0, 0⟩ : Opn)]).toArray OpT)).block w2.heap.size (by simp)).trans (heap_alloc_new w2 _)
      go_wp2_with fail
      refine (hDo2 _).mono ?_
      rintro e w3 ⟨ra2, rcap2, rl2, rfl, hP⟩
      obtain ⟨R, g, rfl, hR, rfl, hg, d0, d1, d2, d3, -⟩ := hP.single
      have hx3 := (hP.turn.block _ (Array.getElem?_eq_some_iff.1 hf1).1 (by have := hT2.lt; show w2.heap.size ≠ bt; omega)).trans hf1
      have x0 : w3.cell? ⟨w2.heap.size, 0, none⟩ = some (.int .i64 1) := cellB hx3 0 rfl
      have x1 : w3.cell? ⟨w2.heap.size, 1, none⟩ = some (.int .i64 91) := cellB hx3 1 rfl
      have hxl := (Array.getElem?_eq_some_iff.1 hx3).1
      have hbel3 := turn_below (hbb _ _) hbt hP.turn
      simp only [List.length_cons, List.length_nil]
      clear hP hDo2 ho2 hf1 hx3 hbb hT2 hbel2 hR d0 d3
      go_wp2_with fail
      go_ret
      exact ⟨rfl, hbel3.alloc hbel3.size _⟩

end Go.Proofs.Ythdempdiibjabaa.Tb
