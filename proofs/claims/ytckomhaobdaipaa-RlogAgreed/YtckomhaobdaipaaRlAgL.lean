/- RlogAgreed: what is agreed, of two lists, one of which is nowhere below the other. -/
import Derived.Test.YtckomhaobdaipaaRlAgM
import Derived.Test.YtckomhaobdaipaaGAmong
namespace Go.Proofs.Ytckomhaobdaipaa.Rl
open Go.RowKit Go.Joins Gk

/-- two lists, made one beside the other -/
structure Two (W0 W : World) (va vb : Value) (A B : List Int) : Prop where
  ra : W.ownsRow W0.heap.size IntT 1 va A.length (rc ienc A)
  rb : W.ownsRow W0.heap.size IntT 1 vb B.length (rc ienc B)
  dj : ∀ g, va.ownBlock = some g → vb.ownBlock ≠ some g
  bel : Below W0.heap.size W0 W
section
variable {W0 W W' : World} {va vb v' : Value} {A B : List Int} {y : Int}
theorem Two.swap (h : Two W0 W va vb A B) : Two W0 W vb va B A := ⟨h.rb, h.ra, fun g hg e => h.dj g e hg, h.bel⟩
theorem Two.below (h : Two W0 W va vb A B) (hb : Below W.heap.size W W') : Two W0 W' va vb A B := ⟨own_below h.ra hb, own_below h.rb hb, h.dj, h.bel.trans (hb.mono h.bel.size)⟩
theorem Two.push {m : Nat} (h : Two W0 W va vb A B) (hm : m = (A ++ [y]).length) (ho : W'.ownsRow W0.heap.size IntT 1 v' m (rc ienc (A ++ [y]))) (hg : W.grownBy W' va.ownBlock) (hat : ∀ g, v'.ownBlock = some g → va.ownBlock = some g ∨ W.heap.size ≤ g) : Two W0 W' v' vb (A ++ [y]) B := by
  subst hm
  refine ⟨ho, own_stay h.rb fun g hb => hg.block g (h.rb.lt g hb).2 fun e => h.dj g e.symm hb, fun g h1 h2 => ?_, h.bel.grown hg h.bel.size fun k hk => (h.ra.lt k hk).1⟩
  rcases hat g h1 with e | e
  · exact h.dj g e h2
  · have := (h.rb.lt g h2).2; omega
theorem Two.la (h : Two W0 W (va) vb A B) : ∃ a c, va = .slice a A.length c ∧ Lies W ienc a A := by
  obtain ⟨a, c, e⟩ := own_slice h.ra
  refine ⟨a, c, e, ?_⟩
  subst e
  exact (show Row W ienc IntT 1 (.slice a A.length c) A from own_mono h.ra (Nat.zero_le _)).lies
end
theorem le_snoc {A B : List Int} {x y : Int} (hl : A.length = B.length) (h : ∀ i (h1 : i < A.length) (h2 : i < B.length), A[i] ≤ B[i]) (hxy : x ≤ y) : ∀ i (h1 : i < (A ++ [x]).length) (h2 : i < (B ++ [y]).length), (A ++ [x])[i] ≤ (B ++ [y])[i] := by
  intro i h1 h2
  rw [List.getElem_append, List.getElem_append]
  by_cases hi : i < A.length
  · rw [dif_pos hi, dif_pos (hl ▸ hi)]; exact h i hi (hl ▸ hi)
  · rw [dif_neg hi, dif_neg (hl ▸ hi)]; simpa using hxy
theorem far_next (n : Int) (l : List Int) (i : Nat) (h : i < l.length) : far n (l.take (i + 1)) = far n (l.take i) + if n ≤ l[i] then 1 else 0 := by
  rw [List.take_succ_eq_append_getElem h]
  unfold far
  rw [List.countP_append]
  by_cases hn : n ≤ l[i]
  · simp [hn]
  · simp [hn]
theorem far_le (n : Int) (l : List Int) : far n l ≤ l.length := List.countP_le_length

set_option maxRecDepth 100000 in
set_option maxHeartbeats 8000000 in
theorem agreed_law (a : Option Addr) (cap : Nat) (st : List Int) (a1 : Option Addr) (c1 : Nat) (ms : List Int) (a2 : Option Addr) (c2 : Nat) (more : List Int) (w : World) (hl : IntsAt w a cap st) (hl1 : IntsAt w a1 c1 ms) (hl2 : IntsAt w a2 c2 more) :
    Calls Try.prog 3 #[.slice a st.length cap, .slice a1 ms.length c1, .slice a2 more.length c2] w fun e w' => e = .returned (.bool true) ∧ Below w.heap.size w w' := by
  have HW := hide (works_any w)
  have HGR := hide (fun W (hb : Below w.heap.size w W) => grown_any a cap st W (hl.lies.below hb) hl.each (Nat.le_trans hl.room hl.max))
  have hG := grown_is st
  have hml : ms.length ≤ 9223372036854775807 := Nat.le_trans hl1.room hl1.max
  have hmo : more.length ≤ 9223372036854775807 := Nat.le_trans hl2.room hl2.max
  generalize (⟨0, 0, (gr st (min st.length 40)).1⟩ : Lo) = S at *
  have hbd := hG.bd
  have hla := hG.last
  have hlen := hG.n
  obtain ⟨n, hnn⟩ : ∃ n, S.es.length = n := ⟨_, rfl⟩
  rw [hnn] at hla hlen
  clear hl
  go_enter Try.func3, Try.ntmps3
  go_wp2_with (go_at_call 5; refine HW.out.mono ?_; rintro e w1 ⟨rfl, hb1⟩)
  refine (HGR.out _ hb1).mono ?_
  rintro e w2 ⟨bl, rfl, hM1⟩
  have hb2 : Below w.heap.size w w2 := hb1.trans (hM1.bel.mono hb1.size)
  obtain ⟨v, hL⟩ := hM1.log
  have HLa := hide (Last_any bl S v w2 hL hbd)
  rw [hla] at HLa
  clear HW HGR hM1 hb1
  refine (Classical.em (ms.length = 0)).elim (fun h0 => ?z0) (fun h0 => ?z1)
  case z0 =>
    have z1 : (ms.length : Int) = 0 := by omega
    have z2 : ((ms.length : Int) == 0) = true := by rw [beq_iff_eq]; exact z1
    clear hL HLa
    go_wp2
    go_ret
    exact ⟨rfl, hb2⟩
  have z1 : ¬ (ms.length : Int) = 0 := by omega
  have z2 : ((ms.length : Int) == 0) = false := by rw [beq_eq_false_iff_ne]; omega
  refine (Classical.em (20 < ms.length)).elim (fun h20 => ?z20) (fun h20 => ?z21)
  case z20 =>
    have z3 : (20 : Int) < (ms.length : Int) := by omega
    clear hL HLa
    go_wp2
    go_ret
    exact ⟨rfl, hb2⟩
  have z3 : ¬ (20 : Int) < (ms.length : Int) := by omega
  obtain ⟨tl, htl⟩ : ∃ tl, S.tm n = tl := ⟨_, rfl⟩
  rw [htl] at HLa
  go_wp2_with fail
  refine HLa.out.mono ?_
  rintro e w4 ⟨rfl, q4, rfl⟩
  obtain ⟨W4, hW4⟩ : ∃ W4, w2.drewN q4 = W4 := ⟨_, rfl⟩
  have hL4 : LH W4 bl S v := by rw [← hW4]; exact hL.drewN q4
  have hb4 : Below w.heap.size w W4 := by rw [← hW4]; exact below_drewN hb2 q4
  rw [hW4]
  clear hW4 hL hb2 HLa z1 z2 z3
  have HL4 := hide hL4
  have HB4 := hide hb4
  have HML := hide (And.intro h0 h20)
  clear hL4 hb4 h0 h20
  go_wp2
  go_loopw [10, 11, 46] (fun va vb iv W => ∃ (k : Nat) (A B : List Int), k ≤ ms.length ∧ iv = .int .i64 k ∧ A.length = k ∧ B.length = k ∧ (∀ i (h1 : i < A.length) (h2 : i < B.length), A[i] ≤ B[i]) ∧ Two W4 W va vb A B) (fun _ _ iv _ => ms.length - (intOf iv).toNat)
  case atStart => exact ⟨0, [], [], Nat.zero_le _, rfl, rfl, rfl, (fun i h1 _ => by cases h1), ⟨World.ownsRow_nil _ _ _ _, World.ownsRow_nil _ _ _ _, (fun g hg => by cases hg), Below.refl _ _⟩⟩
  case round =>
    obtain ⟨k, A, B, hk, rfl, hA, hB, hle, hT⟩ := hrel
    by_cases hkl : k < ms.length
    · as_aux_lemma =>
        have j1 : (k : Int) < (ms.length : Int) := by omega
        have j0 : (0 : Int) ≤ (k : Int) := by omega
        have hbw := HB4.out.trans (hT.bel.mono HB4.out.size)
        obtain ⟨b1, o1, rfl, hbk, hc1⟩ := (hl1.lies.below hbw).at ienc_len k hkl
        have d1 := hc1 0 _ rfl
        rw [Nat.mul_one, Nat.add_zero] at d1
        have hx := hl1.each _ (List.getElem_mem hkl)
        have HA := hide (fun W => among_any ms[k] ((n : Int) + 2) W (by omega) (by omega) hx.1 hx.2)
        generalize ms[k] = x at *
        obtain ⟨y, hy⟩ : ∃ y, x % ((n : Int) + 2) = y := ⟨_, rfl⟩
        have hy0 : 0 ≤ y := by rw [← hy]; exact Int.emod_nonneg _ (by omega)
        have hy1 : y ≤ 50 := by have := Int.emod_lt_of_pos x (show 0 < (n : Int) + 2 by omega); omega
        rw [hy] at HA
        have HLE := hide hle
        have hn40 : (n : Int) ≤ 40 := by omega
        have hk20 : k ≤ 20 := by have := HML.out; omega
        clear hc1 hle hx hy
        go_wp2_with fail
        refine (HA.out _).mono ?_
        clear HA
        rintro e w5 ⟨rfl, hw5⟩
        rw [← hw5]
        clear hw5 w5
        clear d1
        have hT1 := hT.below (below_alloc1 wr (.cells #[.int .i64 y] IntT))
        go_wp2_with (at_builtin; refine wpList_push (enc := ienc) (k := 1) rfl (.tmp 56) (.tmp 58) 22 rfl IntT (.int .i64 0) 8 Try.underlying22 int_info rfl (by decide) ienc_len ienc_one W4.heap.size _ A rfl hT1.ra wr.heap.size y rfl (heap_alloc_new wr _) ?c1 ?c2 ?c3 ?_)
        case c1 => omega
        case c2 => omega
        case c3 => first | exact hT1.bel.size | (have h := hT1.bel.size; rw [World.size_alloc] at h; exact h)
        intro v6 w6 ho6 hg6 hat6
        have hT6 := hT1.push (by simp [hA]) ho6 hg6 (fun g hg => by rw [World.size_alloc]; exact hat6 g hg)
        have hbw6 := HB4.out.trans (hT6.bel.mono HB4.out.size)
        have HT6 := hide hT6
        clear hT hT1 ho6 hg6 hat6 hT6
        by_cases hkm : k < more.length
        · have m1 : (k : Int) < (more.length : Int) := by omega
          obtain ⟨b2, o2, rfl, hbk2, hc2⟩ := (hl2.lies.below hbw6).at ienc_len k hkm
          have d2 := hc2 0 _ rfl
          rw [Nat.mul_one, Nat.add_zero] at d2
          have hx2 := hl2.each _ (List.getElem_mem hkm)
          have HA2 := hide (fun W => among_any more[k] 5 W (by decide) (by decide) hx2.1 hx2.2)
          generalize more[k] = x2 at *
          obtain ⟨z, hz⟩ : ∃ z, x2 % 5 = z := ⟨_, rfl⟩
          have hz0 : 0 ≤ z := by omega
          have hz1 : z ≤ 4 := by omega
          rw [hz] at HA2
          clear hc2 hx2 hz
          go_wp2_with fail
          refine (HA2.out _).mono ?_
          clear HA2
          rintro e w7 ⟨rfl, hw7⟩
          rw [← hw7]
          clear hw7 w7
          clear d2
          have hw1 : IntKind.i64.wrap (y + z) = y + z := by rw [IntKind.wrap_i64]; omega
          have hT7 := HT6.out.swap.below (below_alloc1 w6 (.cells #[.int .i64 (y + z)] IntT))
          go_wp2_with (at_builtin; refine wpList_push (enc := ienc) (k := 1) rfl (.tmp 71) (.tmp 73) 22 rfl IntT (.int .i64 0) 8 Try.underlying22 int_info rfl (by decide) ienc_len ienc_one W4.heap.size _ B rfl hT7.ra w6.heap.size (y + z) rfl (heap_alloc_new w6 _) ?c1 ?c2 ?c3 ?_)
          case c1 => omega
          case c2 => omega
          case c3 => first | exact hT7.bel.size | (have h := hT7.bel.size; rw [World.size_alloc] at h; exact h)
          intro v8 w8 ho8 hg8 hat8
          have HT8 := hide (hT7.push (by simp [hB]) ho8 hg8 (fun g hg => by rw [World.size_alloc]; exact hat8 g hg)).swap
          clear hT7 ho8 hg8 hat8 HT6
          go_wp2
          go_roundw
          case rel => exact ⟨k + 1, A ++ [y], B ++ [y + z], by omega, by go_num, by simp [hA], by simp [hB], le_snoc (by omega) HLE.out (by omega), HT8.out⟩
          case measure => simp [intOf]; omega
        · have m1 : ¬ (k : Int) < (more.length : Int) := by omega
          have hT7 := HT6.out.swap.below (below_alloc1 w6 (.cells #[.int .i64 y] IntT))
          go_wp2_with (at_builtin; refine wpList_push (enc := ienc) (k := 1) rfl (.tmp 71) (.tmp 73) 22 rfl IntT (.int .i64 0) 8 Try.underlying22 int_info rfl (by decide) ienc_len ienc_one W4.heap.size _ B rfl hT7.ra w6.heap.size y rfl (heap_alloc_new w6 _) ?c1 ?c2 ?c3 ?_)
          case c1 => omega
          case c2 => omega
          case c3 => first | exact hT7.bel.size | (have h := hT7.bel.size; rw [World.size_alloc] at h; exact h)
          intro v8 w8 ho8 hg8 hat8
          have HT8 := hide (hT7.push (by simp [hB]) ho8 hg8 (fun g hg => by rw [World.size_alloc]; exact hat8 g hg)).swap
          clear hT7 ho8 hg8 hat8 HT6
          go_wp2
          go_roundw
          case rel => exact ⟨k + 1, A ++ [y], B ++ [y], by omega, by go_num, by simp [hA], by simp [hB], le_snoc (by omega) HLE.out (Int.le_refl _), HT8.out⟩
          case measure => simp [intOf]; omega
    · as_aux_lemma =>
        obtain rfl : k = ms.length := by omega
        have j1 : ¬ (ms.length : Int) < (ms.length : Int) := by omega
        obtain ⟨h0, h20⟩ := HML.out
        obtain ⟨k, hke⟩ : ∃ k, ms.length = k := ⟨_, rfl⟩
        rw [hke] at hA hB h0 h20 j1 hk ⊢
        have hA0 : A ≠ [] := fun e => by rw [e] at hA; exact h0 hA.symm
        have hB0 : B ≠ [] := fun e => by rw [e] at hB; exact h0 hB.symm
        obtain ⟨aA, cA, rfl, hlA⟩ := hT.la
        obtain ⟨aB, cB, rfl, hlB⟩ := hT.swap.la
        have hLr := HL4.out.below hT.bel
        have hIs := agreed_is hG A B hA0 (by omega) hle
        rw [hla, htl, hnn] at hIs
        dsimp only at hIs
        obtain ⟨i0, i1, i2, i3, i4⟩ := hIs
        have HG1 := hide (Agreed_ok bl S v aA cA A hA0 (by omega) tl 0 (by decide) wr hLr hbd hlA)
        have HG2 := hide (fun W (hb : Below wr.heap.size wr W) => Agreed_ok bl S v aB cB B hB0 (by omega) tl (agr S A tl 0) i0 W (hLr.below hb) hbd (hlB.below hb))
        rw [hA] at HG1
        rw [hB] at HG2
        rw [hA, hB]
        generalize agr S A tl 0 = N at *
        generalize agr S B tl N = M at *
        have HBW := hide (HB4.out.trans (hT.bel.mono HB4.out.size))
        have HLr := hide hLr
        have HRA := hide (And.intro hlA hlB)
        have HI := hide (And.intro i3 i4)
        have i5 : ¬ M < N := by omega
        have i6 : ¬ (n : Int) < M := by omega
        clear hT hLr hlA hlB hle i3 i4 HB4 HL4 HML hl1 hl2
        go_wp2_with fail
        refine HG1.out.mono ?_
        clear HG1
        rintro e w5 ⟨rfl, hb5⟩
        go_wp2_with fail
        refine (HG2.out _ hb5).mono ?_
        clear HG2
        rintro e w6 ⟨rfl, hb6⟩
        have hb56 := hb5.trans (hb6.mono hb5.size)
        have HC7 := hide (heap_alloc_new w6 (.cells #[.int .i64 N, .slice aA k cA, .int .i64 M, .slice aB k cB] 32))
        have HB7 := hide (hb56.trans ((below_alloc1 w6 (.cells #[.int .i64 N, .slice aA k cA, .int .i64 M, .slice aB k cB] 32)).mono hb56.size))
        go_wp2
        generalize w6.heap.size = g at *
        generalize w6.alloc (.cells #[.int .i64 N, .slice aA k cA, .int .i64 M, .slice aB k cB] 32) = W7 at *
        have hLA : A.length = k := hA
        have hLB : B.length = k := hB
        have hk20 : k ≤ 20 := by omega
        have HLK := hide (And.intro hLA hLB)
        have HHG := hide hG
        clear hA hB hA0 hB0 hLA hLB i0 i1 i2 i5 i6 hb5 hb6 hb56 hG h0 h20 j1 hk hke
        go_loopw [115] (fun jv W => ∃ j : Int, (j = 0 ∨ j = 1 ∨ j = 2) ∧ jv = .int .i64 j ∧ Below W7.heap.size W7 W) (fun jv _ => 2 - (intOf jv).toNat)
        case atStart => exact ⟨0, Or.inl rfl, rfl, Below.refl _ _⟩
        case round =>
          obtain ⟨j, hj, rfl, hbj⟩ := hrel
          have hHg : wr.heap[g]? = some (.cells #[.int .i64 N, .slice aA k cA, .int .i64 M, .slice aB k cB] 32 (0, 0)) := (hbj.block g (Array.getElem?_eq_some_iff.1 HC7.out).1).trans HC7.out
          rcases hj with rfl | rfl | rfl
          · as_aux_lemma =>
              have hc0 : wr.cell? ⟨g, 0, none⟩ = some (.int .i64 N) := cell_of_block hHg 0
              have hc1 : wr.cell? ⟨g, 1, none⟩ = some (.slice aA k cA) := cell_of_block hHg 1
              have HX := hide (heap_alloc_new wr (.cells #[.int .i64 N, .slice aA k cA] 32))
              have HB8 := hide (hbj.trans ((below_alloc1 wr (.cells #[.int .i64 N, .slice aA k cA] 32)).mono hbj.size))
              clear hHg hbj
              by_cases hN : N = 0
              · rw [hN] at hc0 HB8
                clear HX
                go_wp2
                go_roundw
                case rel => exact ⟨1, by omega, by go_num, HB8.out⟩
                case measure => simp [intOf]
              · have n2 : (N == 0) = false := by simpa using hN
                have hI := (HI.out.1).resolve_left hN
                rw [hnn, htl] at hI
                obtain ⟨p1, p2, p3, p4⟩ := hI
                obtain ⟨N1, hN1⟩ : ∃ N1 : Nat, N = (N1 : Int) := ⟨N.toNat, by omega⟩
                rw [hN1, Int.toNat_natCast] at p3
                have HTm := hide (fun W (h : LH W bl S v) => Term_yes bl S v N1 W h hbd (by have := HHG.out.b; omega) (by rw [hla]; omega))
                rw [p3, ← hN1] at HTm
                have hfl : far N A ≤ k := by have := far_le N A; rw [HLK.out.1] at this; exact this
                rw [HLK.out.1] at p4
                have HP4 := hide p4
                have hL8 := hide (HLr.out)
                clear p2 p3 p4 hN1
                go_wp2
                clear hc0 hc1
                generalize wr.heap.size = bx at *
                generalize wr.alloc (.cells #[.int .i64 N, .slice aA k cA] 32) = W8 at *
                go_loopw [20, 125] (fun mv iv W => ∃ i : Nat, i ≤ k ∧ iv = .int .i64 i ∧ mv = .int .i64 (far N (A.take i) : Nat) ∧ Below W8.heap.size W8 W) (fun _ iv _ => k - (intOf iv).toNat)
                case atStart => exact ⟨0, Nat.zero_le _, rfl, by rw [List.take_zero]; rfl, Below.refl _ _⟩
                case round =>
                  obtain ⟨i, hi, rfl, rfl, hbi⟩ := hrel
                  have hbx := (hbi.block bx (Array.getElem?_eq_some_iff.1 HX.out).1).trans HX.out
                  have hbq := HB8.out.trans (hbi.mono HB8.out.size)
                  have hfi : far N (A.take i) ≤ i := by have := far_le N (A.take i); rw [List.length_take] at this; omega
                  by_cases hik : i < k
                  · have i1 : (i : Int) < (k : Int) := by omega
                    have i0 : (0 : Int) ≤ (i : Int) := by omega
                    have y0 := cell_of_block hbx 0
                    obtain ⟨b1, o1, e1, hbk, hc⟩ := (HRA.out.1.below (HB7.out.trans (hbq.mono HB7.out.size))).at ienc_len i (by rw [HLK.out.1]; exact hik)
                    subst e1
                    have d1 := hc 0 _ rfl
                    rw [Nat.mul_one, Nat.add_zero] at d1
                    have HF := hide (far_next N A i (by rw [HLK.out.1]; exact hik))
                    have hiL : i < A.length := by rw [HLK.out.1]; exact hik
                    generalize A[i] = y at *
                    generalize far N (A.take i) = fr at *
                    clear hc hbx
                    by_cases hy : N ≤ y
                    · go_wp2
                      go_roundw
                      case rel => exact ⟨i + 1, by omega, by go_num, by rw [HF.out, if_pos hy]; go_num, hbi⟩
                      case measure => simp [intOf]; omega
                    · have hy2 : ¬ N ≤ y := hy
                      go_wp2
                      go_roundw
                      case rel => exact ⟨i + 1, by omega, by go_num, by rw [HF.out, if_neg hy]; rfl, hbi⟩
                      case measure => simp [intOf]; omega
                  · obtain rfl : i = k := by omega
                    have i1 : ¬ (i : Int) < (i : Int) := by omega
                    rw [List.take_of_length_le (by rw [HLK.out.1]; exact Nat.le_refl _)] at hfi ⊢
                    have hq := HP4.out
                    generalize far N A = fr at *
                    have hw2 : ¬ (fr : Int) * 2 ≤ (i : Int) := by omega
                    have y0 := cell_of_block hbx 0
                    have hLr := hL8.out.below (HB7.out.trans (hbq.mono HB7.out.size))
                    go_wp2_with fail
                    refine (HTm.out wr hLr).mono ?_
                    clear HTm y0
                    rintro e w9 ⟨rfl, q9, rfl⟩
                    obtain ⟨W9, hW9⟩ : ∃ W9, wr.drewN q9 = W9 := ⟨_, rfl⟩
                    have y1 : W9.cell? ⟨bx, 1, none⟩ = some (.slice aA i cA) := by rw [← hW9]; exact cell_of_block hbx 1
                    have hb9 : Below W7.heap.size W7 W9 := by rw [← hW9]; exact below_drewN hbq q9
                    rw [hW9]
                    clear hW9 hbx hLr hbi hbq
                    go_wp2
                    go_roundw
                    case rel => first | exact ⟨1, by omega, by go_num, hb9⟩ | ((repeat apply Exists.intro); exact ⟨⟨1, by omega, by go_num, hb9⟩, rfl⟩)
                    case measure => simp [intOf]
          · as_aux_lemma =>
              have hc0 : wr.cell? ⟨g, 2, none⟩ = some (.int .i64 M) := cell_of_block hHg 2
              have hc1 : wr.cell? ⟨g, 3, none⟩ = some (.slice aB k cB) := cell_of_block hHg 3
              have HX := hide (heap_alloc_new wr (.cells #[.int .i64 M, .slice aB k cB] 32))
              have HB8 := hide (hbj.trans ((below_alloc1 wr (.cells #[.int .i64 M, .slice aB k cB] 32)).mono hbj.size))
              clear hHg hbj
              by_cases hN : M = 0
              · rw [hN] at hc0 HB8
                clear HX
                go_wp2
                go_roundw
                case rel => exact ⟨2, by omega, by go_num, HB8.out⟩
                case measure => simp [intOf]
              · have n2 : (M == 0) = false := by simpa using hN
                have hI := (HI.out.2).resolve_left hN
                rw [hnn, htl] at hI
                obtain ⟨p1, p2, p3, p4⟩ := hI
                obtain ⟨N1, hN1⟩ : ∃ N1 : Nat, M = (N1 : Int) := ⟨M.toNat, by omega⟩
                rw [hN1, Int.toNat_natCast] at p3
                have HTm := hide (fun W (h : LH W bl S v) => Term_yes bl S v N1 W h hbd (by have := HHG.out.b; omega) (by rw [hla]; omega))
                rw [p3, ← hN1] at HTm
                have hfl : far M B ≤ k := by have := far_le M B; rw [HLK.out.2] at this; exact this
                rw [HLK.out.2] at p4
                have HP4 := hide p4
                have hL8 := hide (HLr.out)
                clear p2 p3 p4 hN1
                go_wp2
                clear hc0 hc1
                generalize wr.heap.size = bx at *
                generalize wr.alloc (.cells #[.int .i64 M, .slice aB k cB] 32) = W8 at *
                go_loopw [20, 125] (fun mv iv W => ∃ i : Nat, i ≤ k ∧ iv = .int .i64 i ∧ mv = .int .i64 (far M (B.take i) : Nat) ∧ Below W8.heap.size W8 W) (fun _ iv _ => k - (intOf iv).toNat)
                case atStart => exact ⟨0, Nat.zero_le _, rfl, by rw [List.take_zero]; rfl, Below.refl _ _⟩
                case round =>
                  obtain ⟨i, hi, rfl, rfl, hbi⟩ := hrel
                  have hbx := (hbi.block bx (Array.getElem?_eq_some_iff.1 HX.out).1).trans HX.out
                  have hbq := HB8.out.trans (hbi.mono HB8.out.size)
                  have hfi : far M (B.take i) ≤ i := by have := far_le M (B.take i); rw [List.length_take] at this; omega
                  by_cases hik : i < k
                  · have i1 : (i : Int) < (k : Int) := by omega
                    have i0 : (0 : Int) ≤ (i : Int) := by omega
                    have y0 := cell_of_block hbx 0
                    obtain ⟨b1, o1, e1, hbk, hc⟩ := (HRA.out.2.below (HB7.out.trans (hbq.mono HB7.out.size))).at ienc_len i (by rw [HLK.out.2]; exact hik)
                    subst e1
                    have d1 := hc 0 _ rfl
                    rw [Nat.mul_one, Nat.add_zero] at d1
                    have HF := hide (far_next M B i (by rw [HLK.out.2]; exact hik))
                    have hiL : i < B.length := by rw [HLK.out.2]; exact hik
                    generalize B[i] = y at *
                    generalize far M (B.take i) = fr at *
                    clear hc hbx
                    by_cases hy : M ≤ y
                    · go_wp2
                      go_roundw
                      case rel => exact ⟨i + 1, by omega, by go_num, by rw [HF.out, if_pos hy]; go_num, hbi⟩
                      case measure => simp [intOf]; omega
                    · have hy2 : ¬ M ≤ y := hy
                      go_wp2
                      go_roundw
                      case rel => exact ⟨i + 1, by omega, by go_num, by rw [HF.out, if_neg hy]; rfl, hbi⟩
                      case measure => simp [intOf]; omega
                  · obtain rfl : i = k := by omega
                    have i1 : ¬ (i : Int) < (i : Int) := by omega
                    rw [List.take_of_length_le (by rw [HLK.out.2]; exact Nat.le_refl _)] at hfi ⊢
                    have hq := HP4.out
                    generalize far M B = fr at *
                    have hw2 : ¬ (fr : Int) * 2 ≤ (i : Int) := by omega
                    have y0 := cell_of_block hbx 0
                    have hLr := hL8.out.below (HB7.out.trans (hbq.mono HB7.out.size))
                    go_wp2_with fail
                    refine (HTm.out wr hLr).mono ?_
                    clear HTm y0
                    rintro e w9 ⟨rfl, q9, rfl⟩
                    obtain ⟨W9, hW9⟩ : ∃ W9, wr.drewN q9 = W9 := ⟨_, rfl⟩
                    have y1 : W9.cell? ⟨bx, 1, none⟩ = some (.slice aB i cB) := by rw [← hW9]; exact cell_of_block hbx 1
                    have hb9 : Below W7.heap.size W7 W9 := by rw [← hW9]; exact below_drewN hbq q9
                    rw [hW9]
                    clear hW9 hbx hLr hbi hbq
                    go_wp2
                    go_roundw
                    case rel => first | exact ⟨2, by omega, by go_num, hb9⟩ | ((repeat apply Exists.intro); exact ⟨⟨2, by omega, by go_num, hb9⟩, rfl⟩)
                    case measure => simp [intOf]
          · clear hHg
            go_wp2
            go_ret
            exact ⟨rfl, HBW.out.trans ((HB7.out.trans (hbj.mono HB7.out.size)).mono HBW.out.size)⟩
end Go.Proofs.Ytckomhaobdaipaa.Rl
