/- CodeAdds: the sum of bytes and one more is found of theirs. Proved: for every text and byte that can be read, no condition. -/
import Derived.Test.YtacegffkhfcadabWorks
import Derived.Deep.RegionWith
import Derived.OpenShut
namespace Go.Proofs.Ytacegffkhfcadab
open Go.RowKit

theorem adler_snoc (l : List UInt8) (b : UInt8) : Pl.adler (l ++ [b]) = (Pl.adler l / 65536 + (Pl.adler l % 65536 + b.toNat) % 65521) % 65521 * 65536 + (Pl.adler l % 65536 + b.toNat) % 65521 := by
  have hlt := Pl.ad_lt l (1, 0) (by omega) (by omega)
  unfold Pl.adler
  rw [Pl.ad_append]
  generalize Pl.ad l (1, 0) = q at *
  obtain ⟨x, y⟩ := q
  simp only [Pl.ad] at hlt ⊢
  omega

theorem adler_parts (l : List UInt8) : Pl.adler l < 4294967296 ∧ Pl.adler l / 65536 < 65521 ∧ Pl.adler l % 65536 < 65521 := by
  have hlt := Pl.ad_lt l (1, 0) (by omega) (by omega)
  unfold Pl.adler; omega

theorem ret_true {b : Bool} (h : b = true) : Ending.returned (.bool b) = .returned (.bool true) := by rw [h]
theorem one_byte (n : Nat) (hn : n < 256) : ∀ (W : World) (H : Nat), W.cell? ⟨H, 0, none⟩ = some (.int .u8 (n : Int)) → (convert 31 9 (.slice (some ⟨H, 0, none⟩) 1 1)).run Try.prog W = .ok (.string ⟨#[UInt8.ofNat n]⟩) W := by
  intro W H h
  have := run_convert_bytes_back (P := Try.prog) W 31 9 5 ⟨H, 0, none⟩ 1 [UInt8.ofNat n] Try.underlying31 Try.underlying5 Try.underlying9 (fun j hj => by
    obtain rfl : j = 0 := by simpa using hj
    have e : ((UInt8.ofNat n).toNat : Int) = n := by rw [UInt8.toNat_ofNat', Nat.mod_eq_of_lt hn]
    simp only [List.getElem_cons_zero, e]
    simpa [Addr.add] using h)
  exact this

set_option maxHeartbeats 1600000 in
theorem adds_law (s : ByteArray) (k : Int) (w : World) (hs : s.size ≤ 140737488351232) (hk : (Lit.int .u8 k).wf = true) :
    Calls Try.prog 5 #[.string s, .int .u8 k] w fun e w' => e = .returned (.bool true) ∧ Below w.heap.size w w' := by
  obtain ⟨k0, k1⟩ := bounds_u8 hk
  obtain ⟨n, rfl⟩ := Int.eq_ofNat_of_zero_le k0
  have hn : n < 256 := by omega
  clear hk k0 k1
  have hcv := one_byte n hn
  go_enter Try.func5, Try.ntmps5
  go_wp2_with fail
  refine (works_any _).mono ?_
  rintro e w1 ⟨rfl, hb1⟩
  have hz1 := hb1.size
  by_cases hbig : 20000 < s.size
  · go_wp2
    go_ret
    exact ⟨rfl, hb1⟩
  · go_wp2
    have hsz2 : (s ++ ⟨#[UInt8.ofNat n]⟩).size ≤ 140737488351232 := by rw [ByteArray.size_append]; show s.size + 1 ≤ _; omega
    go_region_with (first | (go_at_call_of 12 (Value.string s); refine (Sum_any s _ hs).mono ?_; rintro e w' ⟨rfl, rfl⟩) | (go_at_call 12; refine (Sum_any _ _ hsz2).mono ?_; rintro e w' ⟨rfl, rfl⟩))
    all_goals
      have hsn := adler_snoc s.data.toList (UInt8.ofNat n)
      have hb : (UInt8.ofNat n).toNat = n := by rw [UInt8.toNat_ofNat', Nat.mod_eq_of_lt hn]
      rw [hb] at hsn
      obtain ⟨hA, hA1, hA2⟩ := adler_parts s.data.toList
      obtain ⟨A, hAe⟩ : ∃ A, A = Pl.adler s.data.toList := ⟨_, rfl⟩
      obtain ⟨V, hVe⟩ : ∃ V, V = Pl.adler (s.data.toList ++ [UInt8.ofNat n]) := ⟨_, rfl⟩
      rw [← hAe] at hA hA1 hA2 hsn
      rw [← hVe] at hsn
      have HS := hide hsn
      rw [← hAe, ← hVe]
      clear hAe hVe hsn hb hcv
      go_wp2
      go_ret
      exact ⟨ret_true (by rw [beq_iff_eq]; have := HS.out; omega), (hb1.alloc hz1 _).drew⟩

end Go.Proofs.Ytacegffkhfcadab
