/- The walk over frame.go: Sum. -/
import Derived.Test.YtmpahgklcabihaaGreatRdFld
namespace Go.Proofs.YtmpahgklcabihaaGreat
open Go.RowKit

theorem joinHL (v b : Nat) (hv : v < 65536) (hb : b < 65536) : bits .or .u32 ((v : Int) * 65536) (b : Int) = ((v * 65536 + b : Nat) : Int) := by
  rw [u32_or _ _ (by omega) (by omega) (by omega) (by omega), nat_join 16 _ _ (by omega) (by omega)]
  omega

theorem next_part {s b : ByteArray} {p m : Nat} {q : Nat × Nat} (hbs : b.size = s.size - p) (hp : p ≤ s.size) (hb : b.data.toList = s.data.toList.drop p) (he : q = Pl.ad (s.data.toList.take p) (1, 0)) (hm : m ≤ b.size) :
    p + m ≤ s.size ∧ (b.extract m b.size).size = s.size - (p + m) ∧ (b.extract m b.size).data.toList = s.data.toList.drop (p + m) ∧ Pl.ad (s.data.toList.take (p + m)) (1, 0) = Pl.ad (b.extract 0 m).data.toList q := by
  refine ⟨by omega, by rw [ext_size _ _ _ hm (Nat.le_refl _)]; omega, ?_, ?_⟩
  · rw [Lib.extract_data, hb, List.drop_drop, List.take_of_length_le]
    simp only [List.length_drop]; rw [← Lib.size_eq]; omega
  · rw [he, ← Pl.ad_append, Lib.extract_data, hb, List.drop_zero, Nat.sub_zero, List.take_add]
theorem next_whole {s b : ByteArray} {p : Nat} {q : Nat × Nat} (hbs : b.size = s.size - p) (hp : p ≤ s.size) (hb : b.data.toList = s.data.toList.drop p) (he : q = Pl.ad (s.data.toList.take p) (1, 0)) :
    p + b.size ≤ s.size ∧ ByteArray.empty.size = s.size - (p + b.size) ∧ ByteArray.empty.data.toList = s.data.toList.drop (p + b.size) ∧ Pl.ad (s.data.toList.take (p + b.size)) (1, 0) = Pl.ad b.data.toList q := by
  have h := next_part hbs hp hb he (Nat.le_refl b.size)
  have e : (b.extract 0 b.size).data.toList = b.data.toList := by rw [Lib.extract_data, List.drop_zero, Nat.sub_zero, List.take_of_length_le (by rw [← Lib.size_eq]; exact Nat.le_refl _)]
  rw [e] at h
  refine ⟨h.1, ?_, ?_, h.2.2.2⟩
  · show 0 = _; omega
  · rw [List.drop_of_length_le (by rw [← Lib.size_eq]; omega)]; rfl
/-- how long a text is -/
def strSz : Value → Nat | .string b => b.size | _ => 0

set_option maxRecDepth 100000 in
set_option maxHeartbeats 1600000 in
theorem Sum_any (s : ByteArray) (w : World) (hs : s.size ≤ 140737488351232) :
    Calls Tryz.prog 182 #[.string s] w fun e w' => e = .returned (.int .u32 (Pl.adler s.data.toList)) ∧ w' = w := by
  go_enter Tryz.func182, Tryz.ntmps182
  go_wp2
  go_loop [0, 3, 4] (fun v x y => ∃ (p : Nat) (b : ByteArray), p ≤ s.size ∧ b.size = s.size - p ∧ b.data.toList = s.data.toList.drop p ∧ v = .string b ∧ x = .int .u32 (Pl.ad (s.data.toList.take p) (1, 0)).1 ∧ y = .int .u32 (Pl.ad (s.data.toList.take p) (1, 0)).2) (fun v _ _ => strSz v)
  case atStart => exact ⟨0, s, by omega, by simp, by simp, rfl, rfl, rfl⟩
  case round =>
    obtain ⟨p, b, hp, hbs', hb', rfl, rfl, rfl⟩ := hrel
    have hbs := hide hbs'
    have hb := hide hb'
    clear hbs' hb'
    obtain ⟨hx, hy⟩ := Pl.ad_lt (s.data.toList.take p) (1, 0) (by omega) (by omega)
    obtain ⟨⟨x, y⟩, he'⟩ : ∃ q, q = Pl.ad (s.data.toList.take p) (1, 0) := ⟨_, rfl⟩
    rw [← he'] at hx hy ⊢
    have he := hide he'
    clear he'
    simp only at hx hy ⊢
    by_cases h0 : 0 < b.size
    · by_cases h5 : b.size ≤ 5552
      · go_wp2
        go_loop [3, 4, 17] (fun x1 y1 i => ∃ k : Nat, k ≤ b.size ∧ i = .int .i64 k ∧ x1 = .int .u32 (Pl.su (b.data.toList.take k) (x, y)).1 ∧ y1 = .int .u32 (Pl.su (b.data.toList.take k) (x, y)).2) (fun _ _ i => b.size - (intOf i).toNat)
        case atStart => exact ⟨0, by omega, rfl, rfl, rfl⟩
        case round =>
          obtain ⟨k, hk, rfl, rfl, rfl⟩ := hrel
          by_cases hlt : k < b.size
          · have hn := Pl.su_snoc b.data.toList k (by rw [← Lib.size_eq]; exact hlt) (x, y)
            have hfit := Pl.su_fits (b.data.toList.take (k + 1)) (x, y) hx hy (Nat.le_trans (List.length_take_le _ _) (by omega))
            obtain ⟨⟨x1, y1⟩, hq⟩ : ∃ q, q = Pl.su (b.data.toList.take k) (x, y) := ⟨_, rfl⟩
            rw [← hq] at hn ⊢
            rw [hn] at hfit
            obtain ⟨c, hc⟩ : ∃ c, c = (b[k]'hlt).toNat := ⟨_, rfl⟩
            have hc1 : (b.data.toList[k]'(by rw [← Lib.size_eq]; exact hlt)).toNat = c := by rw [hc]; rfl
            have hc2 : (b[k]'hlt).toNat = c := hc.symm
            rw [hc1] at hn hfit
            simp only at hfit hn ⊢
            have hn' := hide hn
            have hf1 := hfit.1
            have hf2 := hfit.2
            have hcl : c < 256 := by rw [hc]; exact UInt8.toNat_lt _
            clear hn hfit hq hc1 hc
            go_wp2
            go_round
            case rel => exact ⟨k + 1, by omega, by go_num, val_int (by rw [hn'.out]; simp), val_int (by rw [hn'.out]; simp)⟩
            case measure => simp [intOf]; omega
          · obtain rfl : k = b.size := by omega
            rw [List.take_of_length_le (by rw [← Lib.size_eq]; exact Nat.le_refl _)]
            have hm := hide (Pl.su_mod b.data.toList (x, y) (x, y) rfl rfl hx hy)
            obtain ⟨⟨x1, y1⟩, hq⟩ : ∃ q, q = Pl.su b.data.toList (x, y) := ⟨_, rfl⟩
            rw [← hq] at hm ⊢
            clear hq
            simp only at hm ⊢
            have hz := hide (next_whole hbs.out hp hb.out he.out)
            go_wp2
            go_round
            case rel => exact ⟨p + b.size, ByteArray.empty, hz.out.1, hz.out.2.1, hz.out.2.2.1, rfl, val_int (by rw [hz.out.2.2.2, ← hm.out]; simp), val_int (by rw [hz.out.2.2.2, ← hm.out]; simp)⟩
            case measure => exact h0
      · go_wp2
        obtain ⟨t, ht⟩ : ∃ t, t = b.extract 0 5552 := ⟨_, rfl⟩
        have hts : t.size = 5552 := by rw [ht, ext_size b 0 5552 (by omega) (by omega)]
        have hmin : min 5552 b.size = t.size := by omega
        have hlb : t.size ≤ b.size := by omega
        have hle : t.size ≤ 5552 := by omega
        have htp : 0 < t.size := by omega
        have hex : b.extract 0 t.size = t := by rw [hts, ← ht]
        have hs5' := next_part hbs.out hp hb.out he.out hlb
        rw [hex] at hs5'
        have hs5 := hide hs5'
        have hs6 := hide (ext_size b t.size b.size hlb (Nat.le_refl _))
        rw [hmin, ← ht]
        clear ht hts hmin hex hs5'
        go_loop [3, 4, 17] (fun x1 y1 i => ∃ k : Nat, k ≤ t.size ∧ i = .int .i64 k ∧ x1 = .int .u32 (Pl.su (t.data.toList.take k) (x, y)).1 ∧ y1 = .int .u32 (Pl.su (t.data.toList.take k) (x, y)).2) (fun _ _ i => t.size - (intOf i).toNat)
        case atStart => exact ⟨0, by omega, rfl, rfl, rfl⟩
        case round =>
          obtain ⟨k, hk, rfl, rfl, rfl⟩ := hrel
          by_cases hlt : k < t.size
          · have hn := Pl.su_snoc t.data.toList k (by rw [← Lib.size_eq]; exact hlt) (x, y)
            have hfit := Pl.su_fits (t.data.toList.take (k + 1)) (x, y) hx hy (Nat.le_trans (List.length_take_le _ _) (by omega))
            obtain ⟨⟨x1, y1⟩, hq⟩ : ∃ q, q = Pl.su (t.data.toList.take k) (x, y) := ⟨_, rfl⟩
            rw [← hq] at hn ⊢
            rw [hn] at hfit
            obtain ⟨c, hc⟩ : ∃ c, c = (t[k]'hlt).toNat := ⟨_, rfl⟩
            have hc1 : (t.data.toList[k]'(by rw [← Lib.size_eq]; exact hlt)).toNat = c := by rw [hc]; rfl
            have hc2 : (t[k]'hlt).toNat = c := hc.symm
            rw [hc1] at hn hfit
            simp only at hfit hn ⊢
            have hn' := hide hn
            have hf1 := hfit.1
            have hf2 := hfit.2
            have hcl : c < 256 := by rw [hc]; exact UInt8.toNat_lt _
            clear hn hfit hq hc1 hc
            go_wp2
            go_round
            case rel => exact ⟨k + 1, by omega, by go_num, val_int (by rw [hn'.out]; simp), val_int (by rw [hn'.out]; simp)⟩
            case measure => simp [intOf]; omega
          · obtain rfl : k = t.size := by omega
            rw [List.take_of_length_le (by rw [← Lib.size_eq]; exact Nat.le_refl _)]
            have hm := hide (Pl.su_mod t.data.toList (x, y) (x, y) rfl rfl hx hy)
            obtain ⟨⟨x1, y1⟩, hq⟩ : ∃ q, q = Pl.su t.data.toList (x, y) := ⟨_, rfl⟩
            rw [← hq] at hm ⊢
            clear hq
            simp only at hm ⊢
            have hz := hs5
            go_wp2
            go_round
            case rel => exact ⟨p + t.size, b.extract t.size b.size, hz.out.1, hz.out.2.1, hz.out.2.2.1, rfl, val_int (by rw [hz.out.2.2.2, ← hm.out]; simp), val_int (by rw [hz.out.2.2.2, ← hm.out]; simp)⟩
            case measure => have := hs6.out; show (b.extract t.size b.size).size < b.size; omega
    · have hps : p = s.size := by have := hbs.out; omega
      have hr := hide (joinHL y x (by omega) (by omega))
      go_wp2
      go_ret
      refine ⟨ret_int ?_, rfl⟩
      rw [hr.out, Pl.adler]
      have := he.out
      rw [hps, List.take_of_length_le (by rw [← Lib.size_eq]; exact Nat.le_refl _)] at this
      rw [← this]

end Go.Proofs.YtmpahgklcabihaaGreat
