/- Walks over hash.go; Hash, Check. -/
import Derived.Test.YtcmdglmcmifflaaDoorGArgs
import Derived.Test.YtcmdglmcmifflaaDoorRgPure
import Derived.Laws.Bits64
namespace Go.Proofs.YtcmdglmcmifflaaDoor.Rg
open Go.RowKit Go.Joins Gk

theorem take_snoc (s : ByteArray) (k : Nat) (h : k < s.size) : s.data.toList.take (k + 1) = s.data.toList.take k ++ [s[k]] := by
  rw [List.take_succ_eq_append_getElem (by simpa using h)]; rfl

theorem byte_wrap (c : UInt8) : IntKind.u64.wrap (c.toNat : Int) = (c.toNat : Int) := by have := c.toNat_lt; rw [IntKind.wrap_u64]; omega

set_option maxHeartbeats 800000 in
theorem folded_any (x : Int) (s : ByteArray) (w : World) (hx : 0 ≤ x ∧ x < 18446744073709551616) (hs : s.size ≤ 9223372036854775807) :
    Calls Tryd.prog 33 #[.int .u64 x, .string s] w fun e w' => e = .returned (.int .u64 (foldL x s.data.toList)) ∧ w' = w := by
  go_enter Tryd.func33, Tryd.ntmps33
  go_wp2
  go_loop [0, 8] (fun v i => ∃ k : Nat, k ≤ s.size ∧ i = .int .i64 k ∧ v = .int .u64 (foldL x (s.data.toList.take k))) (fun _ i => s.size - (intOf i).toNat)
  case atStart => exact ⟨0, Nat.zero_le _, rfl, rfl⟩
  case round =>
    obtain ⟨k, hk, rfl, rfl⟩ := hrel
    have hr := foldL_range hx (s.data.toList.take k)
    by_cases hlt : k < s.size
    · have HS := hide (show foldL x (s.data.toList.take (k + 1)) = foldB (foldL x (s.data.toList.take k)) s[k] by rw [take_snoc s k hlt, foldL_snoc])
      obtain ⟨y, hy⟩ : ∃ y, foldL x (s.data.toList.take k) = y := ⟨_, rfl⟩
      rw [hy] at HS hr ⊢
      clear hy
      go_wp2
      go_round
      case rel => refine ⟨k + 1, by omega, by go_num, ?_⟩; rw [HS.out, foldB, show IntKind.u64.wrap (s[k].toNat : Int) = (s[k].toNat : Int) from byte_wrap s[k]]
      case measure => simp [intOf]; omega
    · go_wp2
      go_ret
      exact ⟨ret_int (by rw [List.take_of_length_le (by simp; omega)]), rfl⟩

set_option maxHeartbeats 800000 in
theorem mixed_any (x : Int) (w : World) :
    Calls Tryd.prog 32 #[.int .u64 x] w fun e w' => e = .returned (.int .u64 (mixV x)) ∧ w' = w := by
  go_enter Tryd.func32, Tryd.ntmps32
  go_wp2
  go_ret
  exact ⟨rfl, rfl⟩

theorem basis_range : 0 ≤ basis ∧ basis < 18446744073709551616 := by unfold basis; omega

set_option maxHeartbeats 800000 in
theorem hash_any (s : ByteArray) (w : World) (hs : s.size ≤ 9223372036854775807) :
    Calls Tryd.prog 9 #[.string s] w fun e w' => e = .returned (.int .u64 (hashL s.data.toList)) ∧ w' = w := by
  have hF := fun W => folded_any basis s W basis_range hs
  have hM := fun W => mixed_any (foldL basis s.data.toList) W
  have hh : mixV (foldL basis s.data.toList) = hashL s.data.toList := rfl
  rw [hh] at hM
  unfold basis at hF
  obtain ⟨y, hy⟩ : ∃ y, foldL 14695981039346656037 s.data.toList = y := ⟨_, rfl⟩
  have hy' : foldL basis s.data.toList = y := hy
  rw [hy] at hF
  rw [hy'] at hM
  generalize hashL s.data.toList = z at hM ⊢
  clear hh hy hy'
  go_enter Tryd.func9, Tryd.ntmps9
  go_wp2_with (first | (go_at_call 33; refine (hF _).mono ?_; rintro e w' ⟨rfl, rfl⟩) | (go_at_call 32; refine (hM _).mono ?_; rintro e w' ⟨rfl, rfl⟩))
  go_ret
  exact ⟨rfl, rfl⟩

/-- why weights may not be -/
def mayB (ws : List Int) : Bool := decide (1 ≤ ws.length ∧ ws.length ≤ 8 ∧ (∀ x ∈ ws, 0 ≤ x ∧ x ≤ 128) ∧ ∃ x ∈ ws, 0 < x)
theorem mayB_iff {ws : List Int} : mayB ws = true ↔ May ws := by
  rw [mayB, decide_eq_true_eq]
  exact ⟨fun ⟨a, b, c, d⟩ => ⟨a, b, c, d⟩, fun h => ⟨h.n1, h.n2, h.each, h.some⟩⟩
theorem mayB_no {ws : List Int} (h : ¬ May ws) : mayB ws = false := by
  cases e : mayB ws with
  | false => rfl
  | true => exact (h (mayB_iff.1 e)).elim
def chk (ws : List Int) : Int := if mayB ws = true then 0 else 1
theorem chk_yes {ws : List Int} (h : May ws) : chk ws = 0 := by rw [chk, mayB_iff.2 h]; rfl
theorem chk_no {ws : List Int} (h : ¬ May ws) : chk ws = 1 := by rw [chk, mayB_no h]; rfl

set_option maxHeartbeats 1600000 in
theorem check_any (a : Option Addr) (cap : Nat) (ws : List Int) (w : World) (hl : Lies w ienc a ws) (hn : ws.length ≤ 9223372036854775807) :
    Calls Tryd.prog 30 #[.slice a ws.length cap] w fun e w' => e = .returned (.int .i64 (chk ws)) ∧ w' = w := by
  by_cases hlen : 1 ≤ ws.length ∧ ws.length ≤ 8
  · obtain ⟨h1, h8⟩ := hlen
    have d1 : ¬ (ws.length : Int) < 1 := by omega
    have d2 : ¬ (8 : Int) < (ws.length : Int) := by omega
    go_enter Tryd.func30, Tryd.ntmps30
    go_wp2
    go_loop [3, 16] (fun g i => ∃ (k : Nat) (m : Int), k ≤ ws.length ∧ i = .int .i64 k ∧ g = .int .i64 m ∧ 0 ≤ m ∧ m ≤ 128 ∧ Hid ((∀ x ∈ ws.take k, 0 ≤ x ∧ x ≤ 128) ∧ (0 < m ↔ ∃ x ∈ ws.take k, 0 < x))) (fun _ i => ws.length - (intOf i).toNat)
    case atStart => exact ⟨0, 0, Nat.zero_le _, rfl, rfl, by omega, by omega, by simp [Hid]⟩
    case round =>
      obtain ⟨k, m, hk, rfl, rfl, hm0, hm1, HM⟩ := hrel
      by_cases hlt : k < ws.length
      · obtain ⟨b, off, rfl, hbl, hc⟩ := hl.at ienc_len k hlt
        have c0 := hc 0 _ rfl
        rw [Nat.mul_one, Nat.add_zero] at c0
        have i1 : (0 : Int) ≤ (k : Int) := by omega
        have i2 : (k : Int) < (ws.length : Int) := by omega
        have HX := hide (List.getElem_mem hlt)
        have HT := hide (List.take_succ_eq_append_getElem hlt)
        obtain ⟨y, hy⟩ : ∃ y, ws[k] = y := ⟨_, rfl⟩
        rw [hy] at c0 HX HT
        clear hc hy
        by_cases hy0 : y < 0
        · go_wp2
          go_ret
          refine ⟨ret_int (chk_no fun hM => ?_).symm, rfl⟩
          have := hM.each y HX.out; omega
        · by_cases hy1 : 128 < y
          · go_wp2
            go_ret
            refine ⟨ret_int (chk_no fun hM => ?_).symm, rfl⟩
            have := hM.each y HX.out; omega
          · go_wp2
            go_round
            case rel =>
              refine ⟨k + 1, max m y, by omega, by go_num, by first | rfl | (congr 1; omega), by omega, by omega, ?_⟩
              have hm := HM.out
              show _ ∧ _
              rw [HT.out]
              refine ⟨fun x hx => ?_, ?_⟩
              · rcases List.mem_append.1 hx with h | h
                · exact hm.1 x h
                · rw [List.mem_singleton.1 h]; omega
              · constructor
                · intro h
                  by_cases h' : 0 < m
                  · obtain ⟨x, hx, hp⟩ := hm.2.1 h'
                    exact ⟨x, List.mem_append_left _ hx, hp⟩
                  · exact ⟨y, List.mem_append_right _ (List.mem_singleton.2 rfl), by omega⟩
                · rintro ⟨x, hx, hp⟩
                  rcases List.mem_append.1 hx with h | h
                  · have := hm.2.2 ⟨x, h, hp⟩; omega
                  · rw [List.mem_singleton.1 h] at hp; omega
            case measure => simp [intOf]; omega
      · have hT := hide (List.take_of_length_le (l := ws) (i := k) (by omega))
        by_cases hz : m = 0
        · subst hz
          go_wp2
          go_ret
          refine ⟨ret_int (chk_no fun hM => ?_).symm, rfl⟩
          have := HM.out.2
          rw [hT.out] at this
          have := this.2 hM.some; omega
        · go_wp2
          go_ret
          refine ⟨ret_int (chk_yes ?_).symm, rfl⟩
          have := HM.out
          rw [hT.out] at this
          exact ⟨h1, h8, this.1, this.2.1 (by omega)⟩
  · have hno : ¬ May ws := fun hM => hlen ⟨hM.n1, hM.n2⟩
    rw [chk_no hno]
    by_cases h1 : ws.length < 1
    · have d1 : (ws.length : Int) < 1 := by omega
      go_enter Tryd.func30, Tryd.ntmps30
      go_wp2
      go_ret
      exact ⟨rfl, rfl⟩
    · have d1 : ¬ (ws.length : Int) < 1 := by omega
      have d2 : (8 : Int) < (ws.length : Int) := by omega
      go_enter Tryd.func30, Tryd.ntmps30
      go_wp2
      go_ret
      exact ⟨rfl, rfl⟩

end Go.Proofs.YtcmdglmcmifflaaDoor.Rg
