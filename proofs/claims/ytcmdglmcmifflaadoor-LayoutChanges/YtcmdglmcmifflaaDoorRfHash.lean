/- The document's answer for rings: hashes, weights, digits. -/
import Derived.Test.YtcmdglmcmifflaaDoorRgHash
namespace Go.Proofs.YtcmdglmcmifflaaDoor.Rf
open Go.RowKit Go.Joins Gk Rg

set_option maxHeartbeats 1600000 in
theorem hash_ref (s : ByteArray) (w : World) (hs : s.size ≤ 9223372036854775807) :
    Calls Tryd.prog 64 #[.string s] w fun e w' => e = .returned (.int .u64 (hashL s.data.toList)) ∧ w' = w := by
  have HH := hide (show hashL s.data.toList = mixV (foldL basis s.data.toList) from rfl)
  obtain ⟨z, hz⟩ : ∃ z, hashL s.data.toList = z := ⟨_, rfl⟩
  rw [hz] at HH ⊢
  clear hz
  go_enter Tryd.func64, Tryd.ntmps64
  go_wp2
  go_loop [3, 4] (fun v i => ∃ k : Nat, k ≤ s.size ∧ i = .int .i64 k ∧ v = .int .u64 (foldL basis (s.data.toList.take k))) (fun _ i => s.size - (intOf i).toNat)
  case atStart => exact ⟨0, Nat.zero_le _, rfl, rfl⟩
  case round =>
    obtain ⟨k, hk, rfl, rfl⟩ := hrel
    have hr := foldL_range basis_range (s.data.toList.take k)
    by_cases hlt : k < s.size
    · have HS := hide (show foldL basis (s.data.toList.take (k + 1)) = foldB (foldL basis (s.data.toList.take k)) s[k] by rw [take_snoc s k hlt, foldL_snoc])
      obtain ⟨y, hy⟩ : ∃ y, foldL basis (s.data.toList.take k) = y := ⟨_, rfl⟩
      rw [hy] at HS hr ⊢
      clear hy
      go_wp2
      go_round
      case rel => refine ⟨k + 1, by omega, by go_num, ?_⟩; rw [HS.out, foldB, show IntKind.u64.wrap (s[k].toNat : Int) = (s[k].toNat : Int) from byte_wrap s[k]]
      case measure => simp [intOf]; omega
    · have HT := hide (show foldL basis (s.data.toList.take k) = foldL basis s.data.toList by rw [List.take_of_length_le (by simp; omega)])
      obtain ⟨y, hy⟩ : ∃ y, foldL basis (s.data.toList.take k) = y := ⟨_, rfl⟩
      rw [hy] at HT hr ⊢
      clear hy
      go_wp2
      go_ret
      exact ⟨ret_int (by rw [HH.out, ← HT.out]; rfl), rfl⟩

theorem mayB_false {ws : List Int} (h : ¬ May ws) : false = mayB ws := (mayB_no h).symm
set_option maxHeartbeats 3200000 in
theorem may_ref (a : Option Addr) (cap : Nat) (ws : List Int) (w : World) (hl : Lies w ienc a ws) (hn : ws.length ≤ 9223372036854775807) :
    Calls Tryd.prog 53 #[.slice a ws.length cap] w fun e w' => e = .returned (.bool (mayB ws)) ∧ w' = w := by
  by_cases h1 : ws.length < 1
  · have h1' : (ws.length : Int) < 1 := by omega
    rw [mayB_no (fun h => by have := h.n1; omega)]
    go_enter Tryd.func53, Tryd.ntmps53
    go_wp2
    go_ret
    exact ⟨rfl, rfl⟩
  · by_cases h8 : 8 < ws.length
    · have h1' : ¬ (ws.length : Int) < 1 := by omega
      have h8' : (8 : Int) < (ws.length : Int) := by omega
      rw [mayB_no (fun h => by have := h.n2; omega)]
      go_enter Tryd.func53, Tryd.ntmps53
      go_wp2
      go_ret
      exact ⟨rfl, rfl⟩
    · have h1' : ¬ (ws.length : Int) < 1 := by omega
      have h8' : ¬ (8 : Int) < (ws.length : Int) := by omega
      have HNO := hide (fun (h : ¬ May ws) => mayB_no h)
      have HYES := hide (fun (h : May ws) => mayB_iff.2 h)
      obtain ⟨z, hz⟩ : ∃ z, mayB ws = z := ⟨_, rfl⟩
      rw [hz] at HNO HYES ⊢
      clear hz
      go_enter Tryd.func53, Tryd.ntmps53
      go_wp2
      go_loop [3, 4] (fun g i => ∃ (k : Nat) (m : Bool), k ≤ ws.length ∧ i = .int .i64 k ∧ g = .bool m ∧ Hid ((∀ x ∈ ws.take k, 0 ≤ x ∧ x ≤ 128) ∧ (m = true ↔ ∃ x ∈ ws.take k, 0 < x))) (fun _ i => ws.length - (intOf i).toNat)
      case atStart => exact ⟨0, false, Nat.zero_le _, rfl, rfl, by simp [Hid]⟩
      case round =>
        obtain ⟨k, m, hk, rfl, rfl, HM⟩ := hrel
        by_cases hlt : k < ws.length
        · obtain ⟨b, off, rfl, hbl, hc⟩ := hl.at ienc_len k hlt
          have c0 := hc 0 _ rfl
          rw [Nat.mul_one, Nat.add_zero] at c0
          have i2 : (k : Int) < (ws.length : Int) := by omega
          have HX := hide (List.getElem_mem hlt)
          have HT := hide (List.take_succ_eq_append_getElem hlt)
          obtain ⟨y, hy⟩ : ∃ y, ws[k] = y := ⟨_, rfl⟩
          rw [hy] at c0 HX HT
          clear hc hy
          by_cases hy0 : y < 0
          · go_wp2
            go_ret
            exact ⟨by rw [HNO.out (fun hM => by have := hM.each y HX.out; omega)]; rfl, rfl⟩
          · by_cases hy1 : 128 < y
            · go_wp2
              go_ret
              exact ⟨by rw [HNO.out (fun hM => by have := hM.each y HX.out; omega)]; rfl, rfl⟩
            · have hstep : ∀ m', (m' = true ↔ (m = true ∨ 0 < y)) → Hid ((∀ x ∈ ws.take (k + 1), 0 ≤ x ∧ x ≤ 128) ∧ (m' = true ↔ ∃ x ∈ ws.take (k + 1), 0 < x)) := fun m' hm' => by
                have hm := HM.out
                show _ ∧ _
                rw [HT.out]
                refine ⟨fun x hx => ?_, ?_⟩
                · rcases List.mem_append.1 hx with h | h
                  · exact hm.1 x h
                  · rw [List.mem_singleton.1 h]; omega
                · rw [hm', hm.2]
                  constructor
                  · rintro (⟨x, hx, hp⟩ | h)
                    · exact ⟨x, List.mem_append_left _ hx, hp⟩
                    · exact ⟨y, List.mem_append_right _ (List.mem_singleton.2 rfl), h⟩
                  · rintro ⟨x, hx, hp⟩
                    rcases List.mem_append.1 hx with h | h
                    · exact Or.inl ⟨x, h, hp⟩
                    · rw [List.mem_singleton.1 h] at hp; exact Or.inr hp
              cases m
              · by_cases hp : 0 < y
                · go_wp2
                  go_round
                  case rel => exact ⟨k + 1, true, by omega, by go_num, by simp, hstep true (by simp [hp])⟩
                  case measure => simp [intOf]; omega
                · go_wp2
                  go_round
                  case rel => exact ⟨k + 1, false, by omega, by go_num, by simp, hstep false (by simp [hp])⟩
                  case measure => simp [intOf]; omega
              · go_wp2
                go_round
                case rel => exact ⟨k + 1, true, by omega, by go_num, rfl, hstep true (by simp)⟩
                case measure => simp [intOf]; omega
        · have hT := hide (List.take_of_length_le (l := ws) (i := k) (by omega))
          have HE := hide (show m = z by
            have hm := HM.out
            rw [hT.out] at hm
            cases m
            · exact (HNO.out (fun hM => by have := hm.2.2 hM.some; cases this)).symm
            · exact (HYES.out ⟨by omega, by omega, hm.1, hm.2.1 rfl⟩).symm)
          go_wp2
          go_ret
          exact ⟨by rw [← HE.out]; rfl, rfl⟩

theorem dec_small {m : Nat} (h : m < 10) : Lib.decDigits m = [UInt8.ofNat (48 + m)] := by rw [Lib.decDigits, dif_pos h]
theorem dec_big {m : Nat} (h : ¬ m < 10) : Lib.decDigits m = Lib.decDigits (m / 10) ++ [UInt8.ofNat (48 + m % 10)] := by rw [Lib.decDigits, dif_neg h]
theorem one_byte (n : Nat) (hn : n < 256) : ∀ (W : World) (H : Nat), W.cell? ⟨H, 0, none⟩ = some (.int .u8 (n : Int)) → (convert 101 9 (.slice (some ⟨H, 0, none⟩) 1 1)).run Tryd.prog W = .ok (.string ⟨#[UInt8.ofNat n]⟩) W := by
  intro W H h
  have := run_convert_bytes_back (P := Tryd.prog) W 101 9 5 ⟨H, 0, none⟩ 1 [UInt8.ofNat n] Tryd.underlying101 Tryd.underlying5 Tryd.underlying9 (fun j hj => by
    obtain rfl : j = 0 := by simpa using hj
    have e : ((UInt8.ofNat n).toNat : Int) = n := by rw [UInt8.toNat_ofNat', Nat.mod_eq_of_lt hn]
    simp only [List.getElem_cons_zero, e]
    simpa [Addr.add] using h)
  exact this
/-- the byte of a digit, as a text -/
theorem conv_digit (W : World) (m : Nat) (D : Int) (hD : ((m % 10 : Nat) : Int) = D) : (convert 101 9 (.slice (some ⟨W.heap.size, 0, none⟩) 1 1)).run Tryd.prog (W.alloc (.cells #[.int .u8 (48 + D)] 5)) = .ok (.string ⟨#[UInt8.ofNat (48 + m % 10)]⟩) (W.alloc (.cells #[.int .u8 (48 + D)] 5)) :=
  one_byte (48 + m % 10) (by omega) _ _ (by rw [cell_of_block (heap_alloc_new W _), show 48 + D = ((48 + m % 10 : Nat) : Int) by omega]; rfl)

set_option maxHeartbeats 6400000 in
set_option maxRecDepth 100000 in
theorem digits_ref (n : Nat) (hn : n < 1000) (w : World) :
    Calls Tryd.prog 65 #[.int .i64 (n : Int)] w fun e w' => e = .returned (.string ⟨(Lib.decDigits n).toArray⟩) ∧ Below w.heap.size w w' := by
  obtain ⟨N1, hN1⟩ : ∃ N : Int, ((n : Nat) : Int) = N := ⟨_, rfl⟩
  obtain ⟨D1, hD1⟩ : ∃ D : Int, ((n % 10 : Nat) : Int) = D := ⟨_, rfl⟩
  obtain ⟨U1, hU1⟩ : ∃ U : Int, ((n / 10 : Nat) : Int) = U := ⟨_, rfl⟩
  have p1 : N1.tmod 10 = D1 := by rw [← hN1, ← hD1, Int.tmod_eq_emod_of_nonneg (by omega)]; omega
  have q1 : N1.tdiv 10 = U1 := by rw [← hN1, ← hU1, Int.tdiv_eq_ediv_of_nonneg (by omega)]; omega
  have x1 : 0 ≤ D1 := by omega
  have y1 : D1 < 10 := by omega
  have v1 : IntKind.u8.wrap (48 + D1) = 48 + D1 := by rw [IntKind.wrap_u8]; omega
  have z1 : wrap64 U1 = U1 := by unfold wrap64; omega
  have c1 := fun W => conv_digit W (n) D1 hD1
  generalize hb1 : UInt8.ofNat (48 + n % 10) = b1 at c1
  obtain ⟨N2, hN2⟩ : ∃ N : Int, ((n / 10 : Nat) : Int) = N := ⟨_, rfl⟩
  obtain ⟨D2, hD2⟩ : ∃ D : Int, ((n / 10 % 10 : Nat) : Int) = D := ⟨_, rfl⟩
  obtain ⟨U2, hU2⟩ : ∃ U : Int, ((n / 10 / 10 : Nat) : Int) = U := ⟨_, rfl⟩
  have p2 : N2.tmod 10 = D2 := by rw [← hN2, ← hD2, Int.tmod_eq_emod_of_nonneg (by omega)]; omega
  have q2 : N2.tdiv 10 = U2 := by rw [← hN2, ← hU2, Int.tdiv_eq_ediv_of_nonneg (by omega)]; omega
  have x2 : 0 ≤ D2 := by omega
  have y2 : D2 < 10 := by omega
  have v2 : IntKind.u8.wrap (48 + D2) = 48 + D2 := by rw [IntKind.wrap_u8]; omega
  have z2 : wrap64 U2 = U2 := by unfold wrap64; omega
  have c2 := fun W => conv_digit W (n / 10) D2 hD2
  generalize hb2 : UInt8.ofNat (48 + n / 10 % 10) = b2 at c2
  obtain ⟨N3, hN3⟩ : ∃ N : Int, ((n / 10 / 10 : Nat) : Int) = N := ⟨_, rfl⟩
  obtain ⟨D3, hD3⟩ : ∃ D : Int, ((n / 10 / 10 % 10 : Nat) : Int) = D := ⟨_, rfl⟩
  obtain ⟨U3, hU3⟩ : ∃ U : Int, ((n / 10 / 10 / 10 : Nat) : Int) = U := ⟨_, rfl⟩
  have p3 : N3.tmod 10 = D3 := by rw [← hN3, ← hD3, Int.tmod_eq_emod_of_nonneg (by omega)]; omega
  have q3 : N3.tdiv 10 = U3 := by rw [← hN3, ← hU3, Int.tdiv_eq_ediv_of_nonneg (by omega)]; omega
  have x3 : 0 ≤ D3 := by omega
  have y3 : D3 < 10 := by omega
  have v3 : IntKind.u8.wrap (48 + D3) = 48 + D3 := by rw [IntKind.wrap_u8]; omega
  have z3 : wrap64 U3 = U3 := by unfold wrap64; omega
  have c3 := fun W => conv_digit W (n / 10 / 10) D3 hD3
  generalize hb3 : UInt8.ofNat (48 + n / 10 / 10 % 10) = b3 at c3
  have e12 : N2 = U1 := by omega
  have e23 : N3 = U2 := by omega
  subst e12 e23
  have w0 := fun o => below_alloc1 w o
  rw [hN1]
  have hl1 : (1 : Int) ≤ 9223372036854775807 := by omega
  by_cases h10 : n < 10
  · have HE := hide (show (Lib.decDigits n).toArray = #[b1] by rw [dec_small h10, ← hb1, Nat.mod_eq_of_lt h10])
    have h0 : N2 = 0 := by omega
    clear hN1 hN2 hN3 hD1 hD2 hD3 hU1 hU2 hU3 hb1 hb2 hb3 p2 q2 p3 q3 c2 c3 v2 v3 x2 x3 y2 y3 z1 z2 z3
    subst h0
    go_enter Tryd.func65, Tryd.ntmps65
    go_wp2
    refine wp_loop_rounds 1 ?_
    rw [rounds_succ]
    go_wp2
    go_ret
    exact ⟨by rw [HE.out]; rfl, w0 _⟩
  · by_cases h100 : n < 100
    · have HE := hide (show (Lib.decDigits n).toArray = #[b2, b1] by rw [dec_big h10, dec_small (m := n / 10) (by omega), ← hb1, ← hb2, Nat.mod_eq_of_lt (a := n / 10) (by omega)]; rfl)
      have h0 : N3 = 0 := by omega
      replace c2 := c2 (w.alloc (.cells #[.int .u8 (48 + D1)] 5))
      rw [World.size_alloc] at c2
      have h1 : ¬ N2 = 0 := by omega
      clear hN1 hN2 hN3 hD1 hD2 hD3 hU1 hU2 hU3 hb1 hb2 hb3 p3 q3 c3 v3 x3 y3 z2 z3
      subst h0
      go_enter Tryd.func65, Tryd.ntmps65
      go_wp2
      refine wp_loop_rounds 2 ?_
      rw [rounds_succ]
      generalize hRR : Code.rounds Tryd.prog _ _ 1 = RR
      have HRR := hide hRR
      clear hRR
      go_wp2
      rw [← HRR.out, rounds_succ]
      go_wp2
      go_ret
      exact ⟨by rw [HE.out]; rfl, (w0 _).alloc (w0 _).size _⟩
    · have HE := hide (show (Lib.decDigits n).toArray = #[b3, b2, b1] by rw [dec_big h10, dec_big (m := n / 10) (by omega), dec_small (m := n / 10 / 10) (by omega), ← hb1, ← hb2, ← hb3, Nat.mod_eq_of_lt (a := n / 10 / 10) (by omega)]; rfl)
      have h0 : U3 = 0 := by omega
      replace c2 := c2 (w.alloc (.cells #[.int .u8 (48 + D1)] 5))
      rw [World.size_alloc] at c2
      replace c3 := c3 ((w.alloc (.cells #[.int .u8 (48 + D1)] 5)).alloc (.cells #[.int .u8 (48 + D2)] 5))
      rw [World.size_alloc, World.size_alloc] at c3
      have h1 : ¬ N2 = 0 := by omega
      have h2 : ¬ N3 = 0 := by omega
      clear hN1 hN2 hN3 hD1 hD2 hD3 hU1 hU2 hU3 hb1 hb2 hb3 z3
      subst h0
      go_enter Tryd.func65, Tryd.ntmps65
      go_wp2
      refine wp_loop_rounds 3 ?_
      rw [rounds_succ]
      generalize hRR : Code.rounds Tryd.prog _ _ 2 = RR
      have HRR := hide hRR
      clear hRR
      go_wp2
      rw [← HRR.out, rounds_succ]
      clear HRR
      generalize hRR : Code.rounds Tryd.prog _ _ 1 = R2
      have HRR := hide hRR
      clear hRR
      go_wp2
      rw [← HRR.out, rounds_succ]
      go_wp2
      go_ret
      exact ⟨by rw [HE.out]; rfl, ((w0 _).alloc (w0 _).size _).alloc ((w0 _).alloc (w0 _).size _).size _⟩

end Go.Proofs.YtcmdglmcmifflaaDoor.Rf
