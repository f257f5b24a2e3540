/- Walks over the document's own answer: Sum, four, unfour, Of, Frame. -/
import Derived.Test.YtldlbnmegbdfpaaUnframe
namespace Go.Proofs.Ytldlbnmegbdfpaa
open Go.RowKit

set_option maxHeartbeats 800000 in
theorem rSum_any (s : ByteArray) (w : World) (hs : s.size ≤ 4611686018427387904) :
    Calls Try.prog 25 #[.string s] w fun e w' => e = .returned (.int .u32 (Pl.adler s.data.toList)) ∧ w' = w := by
  go_enter Try.func25, Try.ntmps25
  go_wp2
  go_loop [3, 4, 5] (fun x y i => ∃ k : Nat, k ≤ s.size ∧ i = .int .i64 k ∧ x = .int .u32 (Pl.ad (s.data.toList.take k) (1, 0)).1 ∧ y = .int .u32 (Pl.ad (s.data.toList.take k) (1, 0)).2) (fun _ _ i => s.size - (intOf i).toNat)
  case atStart => exact ⟨0, by omega, rfl, rfl, rfl⟩
  case round =>
    obtain ⟨k, hk, rfl, rfl, rfl⟩ := hrel
    obtain ⟨hx, hy⟩ := Pl.ad_lt (s.data.toList.take k) (1, 0) (by omega) (by omega)
    by_cases hlt : k < s.size
    · have hn : Pl.ad (s.data.toList.take (k + 1)) (1, 0) = (((Pl.ad (s.data.toList.take k) (1, 0)).1 + (s[k]'hlt).toNat) % 65521, ((Pl.ad (s.data.toList.take k) (1, 0)).2 + ((Pl.ad (s.data.toList.take k) (1, 0)).1 + (s[k]'hlt).toNat) % 65521) % 65521) := by
        rw [List.take_succ_eq_append_getElem (by rw [← Lib.size_eq]; exact hlt), Pl.ad_append]; rfl
      obtain ⟨⟨x, y⟩, hq⟩ : ∃ q, q = Pl.ad (s.data.toList.take k) (1, 0) := ⟨_, rfl⟩
      rw [← hq] at hn hx hy ⊢
      obtain ⟨c, hc⟩ : ∃ c, c = (s[k]'hlt).toNat := ⟨_, rfl⟩
      have hcl : c < 256 := by rw [hc]; exact UInt8.toNat_lt _
      have hc2 : (s[k]'hlt).toNat = c := hc.symm
      rw [hc2] at hn
      simp only at hn hx hy ⊢
      have HN := hide hn
      clear hn hq hc
      go_wp2
      go_round
      case rel => exact ⟨k + 1, by omega, by go_num, val_int (by rw [HN.out]; simp), val_int (by rw [HN.out]; simp)⟩
      case measure => simp [intOf]; omega
    · obtain rfl : k = s.size := by omega
      rw [List.take_of_length_le (by rw [← Lib.size_eq]; exact Nat.le_refl _)] at *
      have HA := hide (show Pl.adler s.data.toList = (Pl.ad s.data.toList (1, 0)).2 * 65536 + (Pl.ad s.data.toList (1, 0)).1 from rfl)
      obtain ⟨⟨x, y⟩, hq⟩ : ∃ q, q = Pl.ad s.data.toList (1, 0) := ⟨_, rfl⟩
      rw [← hq] at HA hx hy ⊢
      clear hq
      simp only at hx hy HA ⊢
      go_wp2
      go_ret
      exact ⟨ret_int (by rw [HA.out]; omega), rfl⟩

/-- a slice of four bytes as a text -/
theorem four_conv (n : Nat) (W : World) (H : Nat) (h0 : W.cell? ⟨H, 0, none⟩ = some (.int .u8 ((n % 256 : Nat) : Int))) (h1 : W.cell? ⟨H, 1, none⟩ = some (.int .u8 ((n / 256 % 256 : Nat) : Int))) (h2 : W.cell? ⟨H, 2, none⟩ = some (.int .u8 ((n / 65536 % 256 : Nat) : Int))) (h3 : W.cell? ⟨H, 3, none⟩ = some (.int .u8 ((n / 16777216 % 256 : Nat) : Int))) :
    (convert 53 9 (.slice (some ⟨H, 0, none⟩) 4 4)).run Try.prog W = .ok (.string ⟨(Pl.low 4 n).toArray⟩) W := by
  have hl : (Pl.low 4 n).length = 4 := Pl.low_length 4 n
  have := run_convert_bytes_back (P := Try.prog) W 53 9 5 ⟨H, 0, none⟩ 4 (Pl.low 4 n) Try.underlying53 Try.underlying5 Try.underlying9 (fun j hj => by
    rw [Go.WideShapes.add_plain, Nat.zero_add]
    have hj' : j < 4 := by omega
    match j, hj' with
    | 0, _ => rw [h0]; simp [Pl.low]
    | 1, _ => rw [h1]; simp [Pl.low]
    | 2, _ => rw [h2]; simp [Pl.low, Nat.div_div_eq_div_mul]
    | 3, _ => rw [h3]; simp [Pl.low, Nat.div_div_eq_div_mul])
  rw [hl] at this
  exact this

set_option maxHeartbeats 800000 in
theorem four_any (n : Nat) (w : World) (hn : n < 4294967296) :
    Calls Try.prog 55 #[.int .u32 n] w fun e w' => e = .returned (.string ⟨(Pl.low 4 n).toArray⟩) ∧ Below w.heap.size w w' := by
  have hcv : (convert 53 9 (.slice (some ⟨w.heap.size, 0, none⟩) 4 4)).run Try.prog (w.alloc (.cells #[.int .u8 ((n : Int) % 256), .int .u8 ((n : Int) / 256 % 256), .int .u8 ((n : Int) / 65536 % 256), .int .u8 ((n : Int) / 16777216)] 5)) =
      .ok (.string ⟨(Pl.low 4 n).toArray⟩) (w.alloc (.cells #[.int .u8 ((n : Int) % 256), .int .u8 ((n : Int) / 256 % 256), .int .u8 ((n : Int) / 65536 % 256), .int .u8 ((n : Int) / 16777216)] 5)) := by
    refine four_conv n _ w.heap.size ?_ ?_ ?_ ?_
    · simp
    · simp
    · simp
    · simp; omega
  go_enter Try.func55, Try.ntmps55
  go_wp2
  go_ret
  exact ⟨rfl, (Below.refl _ _).alloc (Nat.le_refl _) _⟩

set_option maxHeartbeats 800000 in
theorem unfour_any (s : ByteArray) (w : World) (hs : 4 ≤ s.size) :
    Calls Try.prog 42 #[.string s] w fun e w' => e = .returned (.int .u32 (Pl.val (s.data.toList.take 4))) ∧ ∃ n, w' = w.drewN n := by
  have h0 : 0 < s.size := by omega
  have h1 : 1 < s.size := by omega
  have h2 : 2 < s.size := by omega
  have h3 : 3 < s.size := by omega
  have hv : Pl.val (s.data.toList.take 4) = (s[0]'h0).toNat + 256 * ((s[1]'h1).toNat + 256 * ((s[2]'h2).toNat + 256 * (s[3]'h3).toNat)) := by
    have hl : 4 ≤ s.data.toList.length := by rw [← Lib.size_eq]; exact hs
    have e : s.data.toList.take 4 = [s[0]'h0, s[1]'h1, s[2]'h2, s[3]'h3] := by
      apply List.ext_getElem
      · simp; omega
      · intro i hi1 hi2
        have : i < 4 := by simpa using hi2
        match i, this with
        | 0, _ => simp; rfl
        | 1, _ => simp; rfl
        | 2, _ => simp; rfl
        | 3, _ => simp; rfl
    rw [e]; simp [Pl.val]
  have HV := hide hv
  clear hv
  have i0 : (0 : Int) < (s.size : Int) := by omega
  have i1 : (1 : Int) < (s.size : Int) := by omega
  have i2 : (2 : Int) < (s.size : Int) := by omega
  have i3 : (3 : Int) < (s.size : Int) := by omega
  obtain ⟨a, ha⟩ : ∃ a, a = (s[0]'h0).toNat := ⟨_, rfl⟩
  obtain ⟨b, hb⟩ : ∃ a, a = (s[1]'h1).toNat := ⟨_, rfl⟩
  obtain ⟨c, hc⟩ : ∃ a, a = (s[2]'h2).toNat := ⟨_, rfl⟩
  obtain ⟨d, hd⟩ : ∃ a, a = (s[3]'h3).toNat := ⟨_, rfl⟩
  have la : a < 256 := by rw [ha]; exact UInt8.toNat_lt _
  have lb : b < 256 := by rw [hb]; exact UInt8.toNat_lt _
  have lc : c < 256 := by rw [hc]; exact UInt8.toNat_lt _
  have ld : d < 256 := by rw [hd]; exact UInt8.toNat_lt _
  rw [← ha, ← hb, ← hc, ← hd] at HV
  have ha' := ha.symm
  have hb' := hb.symm
  have hc' := hc.symm
  have hd' := hd.symm
  clear ha hb hc hd
  go_enter Try.func42, Try.ntmps42
  go_wp2
  go_quiet (fail)
  go_wp2
  go_ret
  exact ⟨ret_int (by rw [HV.out]; omega), nq, rfl⟩

set_option maxHeartbeats 800000 in
theorem Of_any (s : ByteArray) (w : World) (hs : s.size ≤ 65536) :
    Calls Try.prog 39 #[.string s] w fun e w' => e = .returned (.string ⟨(frm s.data.toList).toArray⟩) ∧ Below w.heap.size w w' := by
  have hl := Lib.size_eq s
  have hh := hide (show ByteArray.mk (Pl.low 4 s.size).toArray ++ s = ⟨(head s.data.toList).toArray⟩ from by rw [head, ← hl]; apply ByteArray.ext; simp)
  have hff := hide (show ByteArray.mk (head s.data.toList).toArray ++ ByteArray.mk (Pl.low 4 (Pl.adler (head s.data.toList))).toArray = ⟨(frm s.data.toList).toArray⟩ from by apply ByteArray.ext; simp [frm])
  have hsz : (ByteArray.mk (head s.data.toList).toArray).size = 4 + s.size := by show (head s.data.toList).toArray.size = _; rw [List.size_toArray, head_length, ← hl]
  have hz4 : (ByteArray.mk (Pl.low 4 s.size).toArray).size = 4 := by show (Pl.low 4 s.size).toArray.size = _; rw [List.size_toArray, Pl.low_length]
  have hz5 : (ByteArray.mk (Pl.low 4 (Pl.adler (head s.data.toList))).toArray).size = 4 := by show (Pl.low 4 (Pl.adler (head s.data.toList))).toArray.size = _; rw [List.size_toArray, Pl.low_length]
  have ha := adler_lt (head s.data.toList)
  clear hl
  go_enter Try.func39, Try.ntmps39
  go_wp2_with fail
  refine (four_any s.size w (by omega)).mono ?_
  rintro e w1 ⟨rfl, hb1⟩
  generalize hF1 : ByteArray.mk (Pl.low 4 s.size).toArray = F1 at *
  clear hF1
  have hz1 := hb1.size
  go_wp2_with fail
  rw [hh.out]
  refine (rSum_any _ _ (by rw [hsz]; omega)).mono ?_
  rintro e w' ⟨rfl, rfl⟩
  go_wp2_with fail
  refine (four_any (Pl.adler (head s.data.toList)) w' ha).mono ?_
  rintro e w2 ⟨rfl, hb2⟩
  have hb2' := hb1.trans (hb2.mono hz1)
  clear hb1 hb2
  generalize hF2 : ByteArray.mk (Pl.low 4 (Pl.adler (head s.data.toList))).toArray = F2 at *
  generalize hF3 : ByteArray.mk (head s.data.toList).toArray = F3 at *
  clear hF2 hF3
  go_wp2
  go_ret
  exact ⟨by rw [← hff.out]; rfl, hb2'⟩

set_option maxHeartbeats 800000 in
theorem rFrame_any (s : ByteArray) (w : World) (hs : s.size ≤ 140737488351232) :
    Calls Try.prog 19 #[.string s] w fun e w' => e = .returned (frameV s) ∧ Below w.heap.size w w' := by
  by_cases hbig : 65536 < s.size
  · go_enter Try.func19, Try.ntmps19
    go_wp2
    go_ret2
    exact ⟨frame_no hbig, Below.refl _ _⟩
  · go_enter Try.func19, Try.ntmps19
    go_wp2_with fail
    refine (Of_any s w (by omega)).mono ?_
    rintro e w1 ⟨rfl, hb1⟩
    go_wp2
    go_ret2
    exact ⟨frame_yes hbig, hb1⟩

set_option maxHeartbeats 800000 in
theorem Fault_any (a e : Int) (w : World) :
    Calls Try.prog 36 #[.int .i64 a, .int .i64 e] w fun r w' => r = .returned (.agg #[.int .i64 a, .int .i64 e]) ∧ Below w.heap.size w w' := by
  go_enter Try.func36, Try.ntmps36
  go_wp2
  exact bodyPost_ret (v := .agg #[.int .i64 a, .int .i64 e]) (by simp [results, Try.results36, go_sem]) rfl ⟨rfl, (Below.refl _ _).alloc (Nat.le_refl _) _⟩

end Go.Proofs.Ytldlbnmegbdfpaa
