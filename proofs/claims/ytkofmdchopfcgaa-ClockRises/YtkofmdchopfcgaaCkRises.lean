/- ClockRises: times never fall, and rise just by what is told; a call that is refused changes nothing. Proved: for every number of nodes and every list of calls, no condition. -/
import Derived.Test.YtkofmdchopfcgaaCkWorks
import Derived.Test.YtkofmdchopfcgaaCkActs
import Derived.Test.YtkofmdchopfcgaaGAmong
namespace Go.Proofs.Ytkofmdchopfcgaa.Ck
open Go.RowKit Go.Joins Gk

/-- the greatest of a list of numbers from nought on, from nought on -/
theorem most_end {l : List Int} (h1 : 1 ≤ l.length) (h0 : ∀ x ∈ l, 0 ≤ x) {m : Int} (hm : m = 0 ∨ m ∈ l) (hx : ∀ x ∈ l, x ≤ m) : mostL l = m := by
  rcases hm with rfl | hm
  · obtain ⟨a, b⟩ := mostL_is h1
    have := h0 _ a
    have := hx _ a
    omega
  · exact mostL_iff hm hx
theorem most_go {l : List Int} {k : Nat} (hk : k < l.length) {m : Int} (h0 : 0 ≤ m) (h1 : m = 0 ∨ m ∈ l.take k) (h2 : ∀ x ∈ l.take k, x ≤ m) : 0 ≤ max m l[k] ∧ (max m l[k] = 0 ∨ max m l[k] ∈ l.take (k + 1)) ∧ ∀ x ∈ l.take (k + 1), x ≤ max m l[k] := by
  rw [List.take_succ_eq_append_getElem hk]
  refine ⟨by omega, ?_, fun x hx => ?_⟩
  · rcases Int.le_total m l[k] with h | h
    · rw [Int.max_eq_right h]; exact Or.inr (List.mem_append_right _ (List.mem_singleton.2 rfl))
    · rw [Int.max_eq_left h]; exact h1.imp id fun h => List.mem_append_left _ h
  · rcases List.mem_append.1 hx with h | h
    · have := h2 x h; omega
    · rw [List.mem_singleton.1 h]; omega

/-- the numbers that are wanted lie there -/
def WRow (W : World) (gw n : Nat) (l : List Int) : Prop := Row W ienc IntT 1 (.slice (some ⟨gw, 0, none⟩) n n) l
theorem WRow.cell {W : World} {gw n : Nat} {l : List Int} (h : WRow W gw n l) (k : Nat) (hk : k < l.length) : W.cell? ⟨gw, k, none⟩ = some (.int .i64 l[k]) := by
  have := (Row.celled h ienc_len k hk).2 0 _ rfl
  rwa [Nat.mul_one, Nat.add_zero] at this
theorem WRow.fz {W : World} {gw n : Nat} {l : List Int} (h : WRow W gw n l) (k : Nat) (hk : k < l.length) : W.frozen? ⟨gw, k, none⟩ = false := by
  obtain ⟨a, c, cur, e, hg, _⟩ := own_form h (by omega)
  cases e
  exact unfrozen_of_block hg k
theorem WRow.lt {W : World} {gw n : Nat} {l : List Int} (h : WRow W gw n l) : gw < W.heap.size := (World.ownsRow.lt h gw rfl).2
theorem WRow.stay {W W' : World} {gw n : Nat} {l : List Int} (h : WRow W gw n l) (hs : W'.heap[gw]? = W.heap[gw]?) : WRow W' gw n l :=
  Row.stay h fun k hk => by simp only [Value.ownBlock, Option.some.injEq] at hk; subst hk; exact hs
theorem WRow.below {W W' : World} {gw n : Nat} {l : List Int} (h : WRow W gw n l) (hb : Below W.heap.size W W') : WRow W' gw n l := h.stay (hb.block _ h.lt)
theorem WRow.only {W W' : World} {gw n bc g : Nat} {l : List Int} (h : WRow W gw n l) (ho : Only (two bc g) W W') (h1 : gw ≠ bc) (h2 : gw ≠ g) : WRow W' gw n l := h.stay (ho.block _ h.lt fun e => e.elim h1 h2)
theorem WRow.set {W : World} {gw n : Nat} {l : List Int} (h : WRow W gw n l) (k : Nat) (hk : k < l.length) (x : Int) : WRow (W.setCell ⟨gw, k, none⟩ (.int .i64 x)) gw n (l.set k x) := by
  have := Row.set h ienc_len k hk x
  rw [Nat.mul_one] at this
  exact this
theorem CHeld.want {W : World} {T : TypeId} {bc g gw : Nat} {S : Cst} (h : CHeld W T bc g S) (h1 : gw ≠ bc) (h2 : gw ≠ g) (k : Nat) (u : Value) : CHeld (W.setCell ⟨gw, k, none⟩ u) T bc g S :=
  h.stay (Below.heap_setCell W _ _ _ (Ne.symm h1)) (Below.heap_setCell W _ _ _ (Ne.symm h2))

abbrev ActT : TypeId := 32
/-- what lies there within a round: the clock, the numbers that are wanted, the call -/
structure RS (w W : World) (ba bc g gw nd : Nat) (x : ActV) (S : Cst) (l : List Int) : Prop where
  held : CHeld W ClkT bc g S
  want : WRow W gw nd l
  act : W.heap[ba]? = some (.cells #[.int .i64 x.kind, .int .i64 x.node, .int .i64 x.n] ActT (0, 0))
  below : Below w.heap.size w W
/-- the blocks are unlike -/
structure RF (w : World) (ba bc g gw : Nat) : Prop where
  wb : gw ≠ bc
  wg : gw ≠ g
  ab : ba ≠ bc
  ag : ba ≠ g
  aw : ba ≠ gw
  b0 : w.heap.size ≤ bc
  g0 : w.heap.size ≤ g
  w0 : w.heap.size ≤ gw
section
variable {w W W' : World} {ba bc g gw nd : Nat} {x : ActV} {S S' : Cst} {l : List Int}
theorem RS.only (h : RS w W ba bc g gw nd x S l) (hf : RF w ba bc g gw) (hh : CHeld W' ClkT bc g S') (ho : Only (two bc g) W W') : RS w W' ba bc g gw nd x S' l :=
  ⟨hh, h.want.only ho hf.wb hf.wg, (ho.block _ (Array.getElem?_eq_some_iff.1 h.act).1 fun e => e.elim hf.ab hf.ag).trans h.act, below_only h.below ho hf.b0 hf.g0⟩
theorem RS.set (h : RS w W ba bc g gw nd x S l) (hf : RF w ba bc g gw) (k : Nat) (hk : k < l.length) (y : Int) : RS w (W.setCell ⟨gw, k, none⟩ (.int .i64 y)) ba bc g gw nd x S (l.set k y) :=
  ⟨h.held.want hf.wb hf.wg k _, h.want.set k hk y, (Below.heap_setCell W _ _ _ hf.aw).trans h.act, h.below.setCell (p := ⟨gw, k, none⟩) hf.w0 _⟩
theorem RS.later (h : RS w W ba bc g gw nd x S l) (hb : Below W.heap.size W W') : RS w W' ba bc g gw nd x S l :=
  ⟨h.held.below hb, h.want.below hb, (hb.block _ (Array.getElem?_eq_some_iff.1 h.act).1).trans h.act, h.below.trans (hb.mono h.below.size)⟩
theorem RS.c0 (h : RS w W ba bc g gw nd x S l) : W.cell? ⟨ba, 0, none⟩ = some (.int .i64 x.kind) := by rw [cell_of_block h.act]; rfl
theorem RS.c1 (h : RS w W ba bc g gw nd x S l) : W.cell? ⟨ba, 1, none⟩ = some (.int .i64 x.node) := by rw [cell_of_block h.act]; rfl
theorem RS.c2 (h : RS w W ba bc g gw nd x S l) : W.cell? ⟨ba, 2, none⟩ = some (.int .i64 x.n) := by rw [cell_of_block h.act]; rfl
end

set_option maxHeartbeats 12800000 in
set_option maxRecDepth 100000 in
theorem rises_law (nodes : Int) (a : Option Addr) (cap : Nat) (ac : List ActV) (w : World) (wf : (Lit.int .i64 nodes).wf = true) (hl : ActsAt w a cap ac) :
    Calls Try.prog 4 #[.int .i64 nodes, .slice a ac.length cap] w fun e w' => e = .returned (.bool true) ∧ Below w.heap.size w w' := by
  have hnb := bounds_i64 wf
  have hrm := hl.room
  have hmx := hl.max
  have hnd : 0 ≤ nodes % 16 ∧ nodes % 16 < 16 := ⟨Int.emod_nonneg _ (by omega), Int.emod_lt_of_pos _ (by omega)⟩
  have hAm := fun W => among_any nodes 16 W (by omega) (by omega) hnb.1 hnb.2
  obtain ⟨nd, hN⟩ : ∃ nd : Nat, (nodes % 16) + 1 = (nd : Int) := ⟨(nodes % 16 + 1).toNat, by omega⟩
  have hN' : (1 : Int) + nodes % 16 = (nd : Int) := by omega
  generalize nodes % 16 = nm at *
  have hnd1 : 1 ≤ nd ∧ nd ≤ 16 := by omega
  obtain ⟨M, hM, hmk⟩ := make_ints nd hnd1.2
  have HM := hide hM
  clear hM
  go_enter Try.func4, Try.ntmps4
  go_wp2_with fail
  refine (works_any w).mono ?_
  rintro e w1 ⟨rfl, hb1⟩
  go_wp2_with (go_at_call 9; refine (hAm _).mono ?_; rintro e w2 ⟨rfl, rfl⟩)
  refine (new_ok nd 1 w1 (by omega) (by omega) (by omega)).mono ?_
  rintro e w2 ⟨bc, g, rfl, hbc, hg, hh2, hb2⟩
  have hbc' : w.heap.size ≤ bc := Nat.le_trans hb1.size hbc
  have hg' : w.heap.size ≤ g := Nat.le_trans hb1.size hg
  have hbw : Below w.heap.size w w2 := hb1.trans (hb2.mono hb1.size)
  clear hb1 hb2 hbc hg hAm
  go_wp2
  have hwant : WRow (w2.alloc (.cells M IntT)) w2.heap.size nd (List.replicate nd 0) := by
    have h := own_zeros (B := 0) (heap_alloc_new w2 (.cells M IntT)) HM.out hnd1.2 (Nat.zero_le _)
    show World.ownsRow _ 0 IntT 1 _ (List.replicate nd (0 : Int)).length _
    rw [List.length_replicate]; exact h
  have hh3 := hh2.below (below_alloc1 w2 (.cells M IntT))
  have hb3 : Below w.heap.size w (w2.alloc (.cells M IntT)) := hbw.alloc hbw.size _
  have hgw1 : w2.heap.size ≠ bc := by have := hh2.lt; omega
  have hgw2 : w2.heap.size ≠ g := by have := hh2.rowLt; omega
  have hgw0 : w.heap.size ≤ w2.heap.size := hbw.size
  generalize w2.alloc (.cells M IntT) = w3 at *
  generalize w2.heap.size = gw at *
  clear hh2 hbw hmk HM
  go_loopw [8] (fun i wr => ∃ (k : Nat) (S : Cst), k ≤ ac.length ∧ k ≤ 100 ∧ i = .int .i64 k ∧ CHeld wr ClkT bc g S ∧ WRow wr gw nd S.ts ∧ S.Ok ∧ S.ts.length = nd ∧ Below w.heap.size w wr) (fun i _ => 100 - (intOf i).toNat)
  case atStart => exact ⟨0, Cst.new nd 1, by omega, by omega, rfl, hh3, hwant, Cst.new_ok hnd1.1 hnd1.2 (by omega), by simp [Cst.new], hb3⟩
  case round =>
    obtain ⟨k, S, hk, hk1, rfl, hh, hwn, hok, hlen, hbel⟩ := hrel
    by_cases hlt : k < ac.length ∧ k < 100
    · obtain ⟨hlt1, hlt2⟩ := hlt
      have j1 : (k : Int) < (ac.length : Int) := by omega
      have j2 : (k : Int) < 100 := by omega
      have j0 : (0 : Int) ≤ (k : Int) := by omega
      obtain ⟨b, off, rfl, hc⟩ := hl.cells k hlt1
      have hx := hl.each ac[k] (List.getElem_mem hlt1)
      generalize ac[k] = x at *
      obtain ⟨xk1, xk2⟩ := hx.kind
      obtain ⟨xn1, xn2⟩ := hx.n
      obtain ⟨xd1, xd2⟩ := hx.node
      obtain ⟨ck, cn, cv⟩ := hc wr hbel
      have hk0 : 0 ≤ x.kind % 2 := Int.emod_nonneg _ (by omega)
      have hk2 : x.kind % 2 < 2 := Int.emod_lt_of_pos _ (by omega)
      have hd0 : 0 ≤ x.node % nd := Int.emod_nonneg _ (by omega)
      have hd1 : x.node % nd < nd := Int.emod_lt_of_pos _ (by omega)
      have aK := fun W => among_any x.kind 2 W (by omega) (by omega) xk1 xk2
      have aD := fun W => among_any x.node nd W (by omega) (by omega) xd1 xd2
      generalize x.kind % 2 = kd at *
      generalize x.node % nd = ndx at *
      have hF : RF w wr.heap.size bc g gw := ⟨hgw1, hgw2, by have := hh.lt; omega, by have := hh.rowLt; omega, by have := hwn.lt; omega, hbc', hg', hgw0⟩
      have hR : RS w (wr.alloc (.cells #[.int .i64 x.kind, .int .i64 x.node, .int .i64 x.n] ActT)) wr.heap.size bc g gw nd x S S.ts :=
        ⟨hh.below (below_alloc1 wr _), hwn.below (below_alloc1 wr _), heap_alloc_new wr _, hbel.alloc hbel.size _⟩
      obtain ⟨W, hW⟩ : ∃ W, W = wr.alloc (.cells #[.int .i64 x.kind, .int .i64 x.node, .int .i64 x.n] ActT) := ⟨_, rfl⟩
      rw [← hW] at hR
      clear hx hc hh hwn hbel hh3 hwant hb3
      go_wp2_with fail
      rw [← hW]
      clear hW ck cn cv
      refine (aD W).mono ?_
      rintro e w4 ⟨rfl, rfl⟩
      have c0 := hR.c0
      have c2 := hR.c2
      generalize wr.heap.size = ba at *
      clear aD
      go_wp2_with fail
      refine (aK _).mono ?_
      rintro e w4 ⟨rfl, rfl⟩
      clear aK
      by_cases hkd : kd = 0
      · have hq : (kd == 0) = true := by simpa using hkd
        have hhas : S.has ndx = true := Cst.has_iff.2 ⟨hd0, by omega⟩
        have hSt := step_any W hR.held hok ndx x.n
        have htm := hok.tm hhas
        have hi : ndx.toNat < S.ts.length := by omega
        have htv : S.tm ndx = S.ts[ndx.toNat] := by simp [Cst.tm, hi]
        by_cases hg0 : mayGo (S.tm ndx) x.n = 0
        · have hv : S.step ndx x.n = ((S.tm ndx + x.n, 0), { S with ts := S.ts.set ndx.toNat (S.tm ndx + x.n) }) := by simp [Cst.step, hhas, hg0]
          have hok' := hok.step ndx x.n
          have hl' := (S.step_len ndx x.n).trans hlen
          rw [hv] at hSt hok' hl'
          have hr := mayGo_zero.1 hg0
          obtain ⟨r1, r2⟩ := hr
          go_wp2_with fail
          refine hSt.mono ?_
          rintro e w5 ⟨rfl, hh5, ho5⟩
          have hR5 := hR.only hF hh5 ho5
          have d2 := hR5.c2
          have cw5 := hR5.want.cell ndx.toNat hi
          rw [← htv] at cw5
          have zw5 := hR5.want.fz ndx.toNat hi
          have HR5 := hide hR5
          have hwr : IntKind.i64.wrap (S.tm ndx + x.n) = S.tm ndx + x.n := wrap_small (by omega) (by omega)
          have HTV := hide htv
          clear hSt hh5 ho5 c0 c2 hR hv hR5 htv
          generalize S.tm ndx = tm at *
          go_wp2
          go_quiet (fail)
          go_wp2
          obtain ⟨W6, hW6⟩ : ∃ W6, W6 = w5.drewN nq := ⟨_, rfl⟩
          have hR6 := HR5.out.later (below_draws _ w5 nq)
          rw [← hW6] at hR6 ⊢
          clear hW6
          have f2 := hR6.c2
          have cw6 := hR6.want.cell ndx.toNat hi
          rw [← HTV.out] at cw6
          have zw6 := hR6.want.fz ndx.toNat hi
          have HR7 := hide ((hR6.set hF ndx.toNat hi (tm + x.n)).later (Below.refl _ _).drew)
          clear hR6 HTV d2 cw5 zw5
          have hneq : (tm + x.n != tm + x.n) = false := by simp
          obtain ⟨S', hS'⟩ : ∃ S' : Cst, S' = { S with ts := S.ts.set ndx.toNat (tm + x.n) } := ⟨_, rfl⟩
          have hts : S.ts.set ndx.toNat (tm + x.n) = S'.ts := by rw [hS']
          rw [← hS'] at hok' HR7
          rw [hts] at hl' HR7
          have hS'v : ∀ hh, S'.ts[ndx.toNat]'hh = tm + x.n := fun hh => by simp only [hS', List.getElem_set_self]
          clear hS' hts
          go_region_law (fail)
          all_goals
            try rw [hwr]
            obtain ⟨W7, hW7⟩ : ∃ W7, W7 = (W6.setCell ⟨gw, ndx.toNat, none⟩ (.int .i64 (tm + x.n))).drew := ⟨_, rfl⟩
            have hR7 := HR7.out
            rw [← hW7] at hR7 ⊢
            clear hW7 HR7
            have cw7 := hR7.want.cell ndx.toNat (by omega)
            rw [hS'v] at cw7
            clear f2 cw6 zw6
            go_wp2
            go_loopw [147] (fun i wr' => ∃ j : Nat, j ≤ nd ∧ i = .int .i64 j ∧ wr' = W7) (fun i _ => nd - (intOf i).toNat)
            case atStart => exact ⟨0, by omega, rfl, rfl⟩
            case round =>
              obtain ⟨j, hj, rfl, hwe⟩ := hrel
              have hwe := hwe.symm
              subst hwe
              by_cases hjl : j < nd
              · have m0 : (0 : Int) ≤ (j : Int) := by omega
                have m1 : (j : Int) < (nd : Int) := by omega
                have hjt : j < S'.ts.length := by omega
                have hNw := now_any _ (hR7).held (j : Int)
                have hnv : S'.now (j : Int) = (S'.ts[j], 0) := by
                  rw [Cst.now, if_pos (Cst.has_iff.2 ⟨by omega, by omega⟩), Cst.tm_at _ j hjt]
                rw [hnv] at hNw
                have cw := (hR7).want.cell j hjt
                generalize S'.ts[j]'hjt = tj at *
                have hneq : (tj != tj) = false := by simp
                clear hnv
                go_wp2_with fail
                refine hNw.mono ?_
                rintro e w9 ⟨rfl, rfl⟩
                clear hNw
                go_wp2
                go_roundw
                case rel => exact ⟨j + 1, by omega, by go_num, by trivial⟩
                case measure => simp [intOf]; omega
              · go_wp2
                go_roundw
                case rel => exact ⟨k + 1, S', by omega, by omega, by go_num, (hR7).held, by have := (hR7).want; exact this, hok', hl', (hR7).below⟩
                case measure => simp [intOf]; omega
        · have hv : S.step ndx x.n = ((0, mayGo (S.tm ndx) x.n), S) := by simp [Cst.step, hhas, hg0]
          rw [hv] at hSt
          have hok' := hok
          have hl' := hlen
          have hq2 : (mayGo (S.tm ndx) x.n == 0) = false := by simpa using hg0
          have hng : ¬ (0 ≤ x.n ∧ x.n ≤ 1073741824 - S.tm ndx) := fun h => hg0 (mayGo_zero.2 h)
          generalize mayGo (S.tm ndx) x.n = mg at *
          go_wp2_with fail
          refine hSt.mono ?_
          rintro e w5 ⟨rfl, hh5, ho5⟩
          have hR5 := hR.only hF hh5 ho5
          have d2 := hR5.c2
          have cw5 := hR5.want.cell ndx.toNat hi
          rw [← htv] at cw5
          have HR5 := hide hR5
          clear hSt hh5 ho5 c0 c2 hR hv htv hR5
          generalize S.tm ndx = tm at *
          by_cases hn0 : x.n < 0
          · have hn0' : ¬ (0 : Int) ≤ x.n := by omega
            have hdec : decide ((0 : Int) ≤ x.n) = false := by simp; omega
            go_wp2
            go_quiet (fail)
            go_wp2
            obtain ⟨W6, hW6⟩ : ∃ W6, W6 = w5.drewN nq := ⟨_, rfl⟩
            have hR6 := HR5.out.later (below_draws _ w5 nq)
            rw [← hW6] at hR6 ⊢
            clear hW6
            go_wp2
            go_loopw [147] (fun i wr' => ∃ j : Nat, j ≤ nd ∧ i = .int .i64 j ∧ wr' = W6) (fun i _ => nd - (intOf i).toNat)
            case atStart => exact ⟨0, by omega, rfl, rfl⟩
            case round =>
              obtain ⟨j, hj, rfl, hwe⟩ := hrel
              have hwe := hwe.symm
              subst hwe
              by_cases hjl : j < nd
              · have m0 : (0 : Int) ≤ (j : Int) := by omega
                have m1 : (j : Int) < (nd : Int) := by omega
                have hjt : j < S.ts.length := by omega
                have hNw := now_any _ (hR6).held (j : Int)
                have hnv : S.now (j : Int) = (S.ts[j], 0) := by
                  rw [Cst.now, if_pos (Cst.has_iff.2 ⟨by omega, by omega⟩), Cst.tm_at _ j hjt]
                rw [hnv] at hNw
                have cw := (hR6).want.cell j hjt
                generalize S.ts[j]'hjt = tj at *
                have hneq : (tj != tj) = false := by simp
                clear hnv
                go_wp2_with fail
                refine hNw.mono ?_
                rintro e w9 ⟨rfl, rfl⟩
                clear hNw
                go_wp2
                go_roundw
                case rel => exact ⟨j + 1, by omega, by go_num, by trivial⟩
                case measure => simp [intOf]; omega
              · go_wp2
                go_roundw
                case rel => exact ⟨k + 1, S, by omega, by omega, by go_num, (hR6).held, by have := (hR6).want; exact this, hok', hl', (hR6).below⟩
                case measure => simp [intOf]; omega
          · have hn0' : (0 : Int) ≤ x.n := by omega
            have hn1 : ¬ x.n ≤ 1073741824 - tm := fun h => hng ⟨hn0', h⟩
            go_wp2
            go_quiet (fail)
            go_wp2
            obtain ⟨W6, hW6⟩ : ∃ W6, W6 = w5.drewN nq := ⟨_, rfl⟩
            have hR6 := HR5.out.later (below_draws _ w5 nq)
            rw [← hW6] at hR6 ⊢
            clear hW6
            go_wp2
            go_loopw [147] (fun i wr' => ∃ j : Nat, j ≤ nd ∧ i = .int .i64 j ∧ wr' = W6) (fun i _ => nd - (intOf i).toNat)
            case atStart => exact ⟨0, by omega, rfl, rfl⟩
            case round =>
              obtain ⟨j, hj, rfl, hwe⟩ := hrel
              have hwe := hwe.symm
              subst hwe
              by_cases hjl : j < nd
              · have m0 : (0 : Int) ≤ (j : Int) := by omega
                have m1 : (j : Int) < (nd : Int) := by omega
                have hjt : j < S.ts.length := by omega
                have hNw := now_any _ (hR6).held (j : Int)
                have hnv : S.now (j : Int) = (S.ts[j], 0) := by
                  rw [Cst.now, if_pos (Cst.has_iff.2 ⟨by omega, by omega⟩), Cst.tm_at _ j hjt]
                rw [hnv] at hNw
                have cw := (hR6).want.cell j hjt
                generalize S.ts[j]'hjt = tj at *
                have hneq : (tj != tj) = false := by simp
                clear hnv
                go_wp2_with fail
                refine hNw.mono ?_
                rintro e w9 ⟨rfl, rfl⟩
                clear hNw
                go_wp2
                go_roundw
                case rel => exact ⟨j + 1, by omega, by go_num, by trivial⟩
                case measure => simp [intOf]; omega
              · go_wp2
                go_roundw
                case rel => exact ⟨k + 1, S, by omega, by omega, by go_num, (hR6).held, by have := (hR6).want; exact this, hok', hl', (hR6).below⟩
                case measure => simp [intOf]; omega
      · have hq : (kd == 0) = false := by simpa using hkd
        have hAl := all_any W hR.held hok x.n
        by_cases hg0 : mayGo S.most x.n = 0
        · have hv : S.all x.n = (0, { S with ts := S.ts.map (· + x.n) }) := by simp [Cst.all, hg0]
          have hok' := hok.all x.n
          have hl' := (S.all_len x.n).trans hlen
          rw [hv] at hAl hok' hl'
          obtain ⟨r1, r2⟩ := mayGo_zero.1 hg0
          go_wp2_with fail
          refine hAl.mono ?_
          rintro e w5 ⟨rfl, hh5, ho5⟩
          have hR5 := hR.only hF hh5 ho5
          have d2 := hR5.c2
          clear hAl hh5 ho5 c0 c2 hR hv
          go_wp2
          go_loopw [14, 108] (fun mv i wr' => ∃ (j : Nat) (m : Int), j ≤ nd ∧ i = .int .i64 j ∧ mv = .int .i64 m ∧ Hid (0 ≤ m ∧ (m = 0 ∨ m ∈ S.ts.take j) ∧ ∀ y ∈ S.ts.take j, y ≤ m) ∧ wr' = w5) (fun _ i _ => nd - (intOf i).toNat)
          case atStart => exact ⟨0, 0, by omega, rfl, rfl, ⟨by omega, Or.inl rfl, by simp⟩, rfl⟩
          case round =>
            obtain ⟨j, m, hj, rfl, rfl, HM, hwe⟩ := hrel
            have hwe := hwe.symm
            subst hwe
            by_cases hjl : j < nd
            · have m0 : (0 : Int) ≤ (j : Int) := by omega
              have m1 : (j : Int) < (nd : Int) := by omega
              have hjt : j < S.ts.length := by omega
              have cw := hR5.want.cell j hjt
              have HN := hide (most_go hjt HM.out.1 HM.out.2.1 HM.out.2.2)
              generalize S.ts[j]'hjt = tj at *
              go_wp2
              go_roundw
              case rel => exact ⟨j + 1, max m tj, by omega, by go_num, rfl, HN, by trivial⟩
              case measure => simp [intOf]; omega
            · obtain rfl : nd = j := by omega
              have hmm : S.most = m := by
                have h := HM.out
                rw [← hlen, List.take_length] at h
                exact most_end (by omega) (fun y hy => (hok.each y hy).1) h.2.1 h.2.2
              clear HM
              have hmb := hok.most
              rw [hmm] at hmb
              rw [hmm] at r2
              have HE := hide hok.each
              have hmle : ∀ y ∈ S.ts, y ≤ m := fun y hy => hmm ▸ (mostL_is (by omega)).2 y hy
              have HL := hide hmle
              have HR5 := hide hR5
              clear hmm hmle
              go_wp2
              obtain ⟨W6, hW6⟩ : ∃ W6, W6 = w5 := ⟨_, rfl⟩
              have hR6 := HR5.out
              rw [← hW6] at hR6 ⊢
              clear hW6
              go_loopw [131] (fun i wq => ∃ j : Nat, j ≤ nd ∧ i = .int .i64 j ∧ RS w wq ba bc g gw nd x { S with ts := S.ts.map (· + x.n) } (S.part x.n j).ts) (fun i _ => nd - (intOf i).toNat)
              case atStart => exact ⟨0, by omega, rfl, by rw [Cst.part_zero]; exact hR6⟩
              case round =>
                obtain ⟨j, hj, rfl, hRj⟩ := hrel
                by_cases hjl : j < nd
                · have m0 : (0 : Int) ≤ (j : Int) := by omega
                  have m1 : (j : Int) < (nd : Int) := by omega
                  have hjt : j < S.ts.length := by omega
                  have hjp : j < (S.part x.n j).ts.length := by rw [Cst.part_len]; exact hjt
                  have cw := hRj.want.cell j hjp
                  have hpv : (S.part x.n j).ts[j] = S.ts[j] := by
                    have := S.part_tm x.n j hjt
                    rwa [Cst.tm_at _ j hjp] at this
                  rw [hpv] at cw
                  have zw := hRj.want.fz j hjp
                  have e2 := hRj.c2
                  have hRn := hRj.set hF j hjp (S.ts[j] + x.n)
                  have hsc := congrArg Cst.ts (S.part_succ x.n j hjt)
                  simp only at hsc
                  rw [hsc] at hRn
                  have hb1 := HE.out _ (List.getElem_mem hjt)
                  have hb2 := HL.out _ (List.getElem_mem hjt)
                  have HRn := hide (hRn.later (Below.refl _ _).drew)
                  generalize S.ts[j]'hjt = tj at *
                  have hwr : IntKind.i64.wrap (tj + x.n) = tj + x.n := wrap_small (by omega) (by omega)
                  clear hpv hsc hRn hRj
                  go_wp2_with fail
                  go_region_law (fail)
                  all_goals
                    try rw [hwr]
                    go_wp2
                    go_roundw
                    case rel => exact ⟨j + 1, by omega, by go_num, HRn.out⟩
                    case measure => simp [intOf]; omega
                · obtain rfl : nd = j := by omega
                  have hRe := hRj
                  rw [← hlen, Cst.part_all] at hRe
                  obtain ⟨S', hS'⟩ : ∃ S' : Cst, S' = { S with ts := S.ts.map (· + x.n) } := ⟨_, rfl⟩
                  have hts : S.ts.map (· + x.n) = S'.ts := by rw [hS']
                  rw [hlen, ← hS'] at hRe
                  rw [← hS'] at hok'
                  rw [hts] at hl'
                  clear hS' hRj hts
                  go_wp2
                  go_loopw [147] (fun i wr' => ∃ j : Nat, j ≤ nd ∧ i = .int .i64 j ∧ wr' = wr) (fun i _ => nd - (intOf i).toNat)
                  case atStart => exact ⟨0, by omega, rfl, rfl⟩
                  case round =>
                    obtain ⟨j, hj, rfl, hwe⟩ := hrel
                    have hwe := hwe.symm
                    subst hwe
                    by_cases hjl : j < nd
                    · have m0 : (0 : Int) ≤ (j : Int) := by omega
                      have m1 : (j : Int) < (nd : Int) := by omega
                      have hjt : j < S'.ts.length := by omega
                      have hNw := now_any _ (hRe).held (j : Int)
                      have hnv : S'.now (j : Int) = (S'.ts[j], 0) := by
                        rw [Cst.now, if_pos (Cst.has_iff.2 ⟨by omega, by omega⟩), Cst.tm_at _ j hjt]
                      rw [hnv] at hNw
                      have cw := (hRe).want.cell j hjt
                      generalize S'.ts[j]'hjt = tj at *
                      have hneq : (tj != tj) = false := by simp
                      clear hnv
                      go_wp2_with fail
                      refine hNw.mono ?_
                      rintro e w9 ⟨rfl, rfl⟩
                      clear hNw
                      go_wp2
                      go_roundw
                      case rel => exact ⟨j + 1, by omega, by go_num, by trivial⟩
                      case measure => simp [intOf]; omega
                    · go_wp2
                      go_roundw
                      case rel => exact ⟨k + 1, S', by omega, by omega, by go_num, (hRe).held, by have := (hRe).want; exact this, hok', hl', (hRe).below⟩
                      case measure => simp [intOf]; omega
        · have hv : S.all x.n = (mayGo S.most x.n, S) := by simp [Cst.all, hg0]
          rw [hv] at hAl
          have hok' := hok
          have hl' := hlen
          have hq2 : (mayGo S.most x.n == 0) = false := by simpa using hg0
          have hng : ¬ (0 ≤ x.n ∧ x.n ≤ 1073741824 - S.most) := fun h => hg0 (mayGo_zero.2 h)
          generalize mayGo S.most x.n = mg at *
          go_wp2_with fail
          refine hAl.mono ?_
          rintro e w5 ⟨rfl, hh5, ho5⟩
          have hR5 := hR.only hF hh5 ho5
          have d2 := hR5.c2
          clear hAl hh5 ho5 c0 c2 hR hv
          go_wp2
          go_loopw [14, 108] (fun mv i wr' => ∃ (j : Nat) (m : Int), j ≤ nd ∧ i = .int .i64 j ∧ mv = .int .i64 m ∧ Hid (0 ≤ m ∧ (m = 0 ∨ m ∈ S.ts.take j) ∧ ∀ y ∈ S.ts.take j, y ≤ m) ∧ wr' = w5) (fun _ i _ => nd - (intOf i).toNat)
          case atStart => exact ⟨0, 0, by omega, rfl, rfl, ⟨by omega, Or.inl rfl, by simp⟩, rfl⟩
          case round =>
            obtain ⟨j, m, hj, rfl, rfl, HM, hwe⟩ := hrel
            have hwe := hwe.symm
            subst hwe
            by_cases hjl : j < nd
            · have m0 : (0 : Int) ≤ (j : Int) := by omega
              have m1 : (j : Int) < (nd : Int) := by omega
              have hjt : j < S.ts.length := by omega
              have cw := hR5.want.cell j hjt
              have HN := hide (most_go hjt HM.out.1 HM.out.2.1 HM.out.2.2)
              generalize S.ts[j]'hjt = tj at *
              go_wp2
              go_roundw
              case rel => exact ⟨j + 1, max m tj, by omega, by go_num, rfl, HN, by trivial⟩
              case measure => simp [intOf]; omega
            · obtain rfl : nd = j := by omega
              have hmm : S.most = m := by
                have h := HM.out
                rw [← hlen, List.take_length] at h
                exact most_end (by omega) (fun y hy => (hok.each y hy).1) h.2.1 h.2.2
              clear HM
              have hmb := hok.most
              rw [hmm] at hmb
              rw [hmm] at hng
              clear hmm
              by_cases hn0 : x.n < 0
              · have hn0' : ¬ (0 : Int) ≤ x.n := by omega
                have hdec : decide ((0 : Int) ≤ x.n) = false := by simp; omega
                have HR5 := hide hR5
                go_wp2
                obtain ⟨W6, hW6⟩ : ∃ W6, W6 = w5 := ⟨_, rfl⟩
                have hR6 := HR5.out
                rw [← hW6] at hR6 ⊢
                clear hW6
                go_loopw [131] (fun i wr' => ∃ j : Nat, j ≤ nd ∧ i = .int .i64 j ∧ wr' = W6) (fun i _ => nd - (intOf i).toNat)
                case atStart => exact ⟨0, by omega, rfl, rfl⟩
                case round =>
                  obtain ⟨j, hj, rfl, hwe⟩ := hrel
                  have hwe := hwe.symm
                  subst hwe
                  by_cases hjl : j < nd
                  · have m0 : (0 : Int) ≤ (j : Int) := by omega
                    have m1 : (j : Int) < (nd : Int) := by omega
                    go_wp2
                    go_roundw
                    case rel => exact ⟨j + 1, by omega, by go_num, by trivial⟩
                    case measure => simp [intOf]; omega
                  · have hjend := hj
                    go_wp2
                    go_loopw [147] (fun i wr' => ∃ j : Nat, j ≤ nd ∧ i = .int .i64 j ∧ wr' = W6) (fun i _ => nd - (intOf i).toNat)
                    case atStart => exact ⟨0, by omega, rfl, rfl⟩
                    case round =>
                      obtain ⟨j, hj, rfl, hwe⟩ := hrel
                      have hwe := hwe.symm
                      subst hwe
                      by_cases hjl : j < nd
                      · have m0 : (0 : Int) ≤ (j : Int) := by omega
                        have m1 : (j : Int) < (nd : Int) := by omega
                        have hjt : j < S.ts.length := by omega
                        have hNw := now_any _ (hR6).held (j : Int)
                        have hnv : S.now (j : Int) = (S.ts[j], 0) := by
                          rw [Cst.now, if_pos (Cst.has_iff.2 ⟨by omega, by omega⟩), Cst.tm_at _ j hjt]
                        rw [hnv] at hNw
                        have cw := (hR6).want.cell j hjt
                        generalize S.ts[j]'hjt = tj at *
                        have hneq : (tj != tj) = false := by simp
                        clear hnv
                        go_wp2_with fail
                        refine hNw.mono ?_
                        rintro e w9 ⟨rfl, rfl⟩
                        clear hNw
                        go_wp2
                        go_roundw
                        case rel => exact ⟨j + 1, by omega, by go_num, by trivial⟩
                        case measure => simp [intOf]; omega
                      · go_wp2
                        go_roundw
                        case rel => exact ⟨k + 1, S, by omega, by omega, by go_num, (hR6).held, by have := (hR6).want; exact this, hok', hl', (hR6).below⟩
                        case measure => simp [intOf]; omega
              · have hn0' : (0 : Int) ≤ x.n := by omega
                have hn1 : ¬ x.n ≤ 1073741824 - m := fun h => hng ⟨hn0', h⟩
                have HR5 := hide hR5
                go_wp2
                obtain ⟨W6, hW6⟩ : ∃ W6, W6 = w5 := ⟨_, rfl⟩
                have hR6 := HR5.out
                rw [← hW6] at hR6 ⊢
                clear hW6
                go_loopw [131] (fun i wr' => ∃ j : Nat, j ≤ nd ∧ i = .int .i64 j ∧ wr' = W6) (fun i _ => nd - (intOf i).toNat)
                case atStart => exact ⟨0, by omega, rfl, rfl⟩
                case round =>
                  obtain ⟨j, hj, rfl, hwe⟩ := hrel
                  have hwe := hwe.symm
                  subst hwe
                  by_cases hjl : j < nd
                  · have m0 : (0 : Int) ≤ (j : Int) := by omega
                    have m1 : (j : Int) < (nd : Int) := by omega
                    go_wp2
                    go_roundw
                    case rel => exact ⟨j + 1, by omega, by go_num, by trivial⟩
                    case measure => simp [intOf]; omega
                  · have hjend := hj
                    go_wp2
                    go_loopw [147] (fun i wr' => ∃ j : Nat, j ≤ nd ∧ i = .int .i64 j ∧ wr' = W6) (fun i _ => nd - (intOf i).toNat)
                    case atStart => exact ⟨0, by omega, rfl, rfl⟩
                    case round =>
                      obtain ⟨j, hj, rfl, hwe⟩ := hrel
                      have hwe := hwe.symm
                      subst hwe
                      by_cases hjl : j < nd
                      · have m0 : (0 : Int) ≤ (j : Int) := by omega
                        have m1 : (j : Int) < (nd : Int) := by omega
                        have hjt : j < S.ts.length := by omega
                        have hNw := now_any _ (hR6).held (j : Int)
                        have hnv : S.now (j : Int) = (S.ts[j], 0) := by
                          rw [Cst.now, if_pos (Cst.has_iff.2 ⟨by omega, by omega⟩), Cst.tm_at _ j hjt]
                        rw [hnv] at hNw
                        have cw := (hR6).want.cell j hjt
                        generalize S.ts[j]'hjt = tj at *
                        have hneq : (tj != tj) = false := by simp
                        clear hnv
                        go_wp2_with fail
                        refine hNw.mono ?_
                        rintro e w9 ⟨rfl, rfl⟩
                        clear hNw
                        go_wp2
                        go_roundw
                        case rel => exact ⟨j + 1, by omega, by go_num, by trivial⟩
                        case measure => simp [intOf]; omega
                      · go_wp2
                        go_roundw
                        case rel => exact ⟨k + 1, S, by omega, by omega, by go_num, (hR6).held, by have := (hR6).want; exact this, hok', hl', (hR6).below⟩
                        case measure => simp [intOf]; omega
    · by_cases hl1 : (k : Int) < (ac.length : Int)
      · have hl3 : ¬ (k : Int) < 100 := fun h => hlt ⟨by omega, by omega⟩
        go_wp2
        go_ret
        exact ⟨rfl, hbel⟩
      · go_wp2
        go_ret
        exact ⟨rfl, hbel⟩

end Go.Proofs.Ytkofmdchopfcgaa.Ck
