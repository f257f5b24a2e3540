/- The document's answer for rings: find, Of. -/
import Derived.Test.YtcmdglmcmifflaaDoorRfAllW
namespace Go.Proofs.YtcmdglmcmifflaaDoor.Rf
open Go.RowKit Go.Joins Gk Rg

/-- the chain of a hash, by points in order -/
def fnd (h : Int) (l : List Pt) : Int := ((l.getD (fstHi h l % l.length) (0, 0)).1 : Int)
theorem fnd_at {h : Int} {l : List Pt} {k : Nat} (hk : k < l.length) (e : fstHi h l = k) : fnd h l = (l[k].1 : Int) := by
  rw [fnd, e, Nat.mod_eq_of_lt hk, List.getD_eq_getElem?_getD, List.getElem?_eq_getElem hk]; rfl
theorem fnd_top {h : Int} {l : List Pt} (hk : 0 < l.length) (e : fstHi h l = l.length) : fnd h l = (l[0].1 : Int) := by
  rw [fnd, e, Nat.mod_self, List.getD_eq_getElem?_getD, List.getElem?_eq_getElem hk]; rfl
theorem fnd_owns {ws : List Int} {l : List Pt} (hS : Srt ws l) {h : Int} (h0 : 0 ≤ h ∧ h < 18446744073709551616) (hne : 0 < l.length) : ∃ c : Nat, fnd h l = (c : Int) ∧ Owns ws h c := by
  have hlt : fstHi h l % l.length < l.length := Nat.mod_lt _ hne
  refine ⟨_, ?_, owns_sorted hS h0 hne hlt⟩
  rw [fnd, List.getD_eq_getElem?_getD, List.getElem?_eq_getElem hlt]; rfl

set_option maxHeartbeats 3200000 in
set_option maxRecDepth 100000 in
theorem find_ref (a : Option Addr) (cap : Nat) (l : List Pt) (hne : 0 < l.length) (hn : l.length ≤ 1024) (key : ByteArray) (hs : key.size ≤ 9223372036854775807) (w : World) (hr : Row w penc2 PoT 2 (.slice a l.length cap) l) :
    Calls Tryd.prog 54 #[.slice a l.length cap, .string key] w fun e w' => e = .returned (.int .i64 (fnd (hashL key.data.toList) l)) ∧ Below w.heap.size w w' := by
  have mixed : Tryd.prog.follows .mixedOrders = true := by kernel_rfl
  have hh := fun W => hash_ref key W hs
  obtain ⟨h, hH⟩ : ∃ h, hashL key.data.toList = h := ⟨_, rfl⟩
  rw [hH] at hh ⊢
  clear hH
  obtain ⟨g, cap', e0, hg, hc0⟩ := hr.at penc2_len 0 hne
  cases e0
  go_enter Tryd.func54, Tryd.ntmps54
  go_wp2_with fail
  refine (hh w).mono ?_
  rintro e w1 ⟨rfl, hw1⟩
  obtain rfl := hw1.symm
  go_wp2
  go_loopw [6] (fun iv wr => ∃ k : Nat, k ≤ fstHi h l ∧ iv = .int .i64 k ∧ Below w.heap.size w wr) (fun iv _ => l.length + 1 - (intOf iv).toNat)
  case atStart => exact ⟨0, Nat.zero_le _, rfl, Below.refl _ _⟩
  case round =>
    obtain ⟨k, hk, rfl, hb⟩ := hrel
    have hfl := fstHi_le h l
    by_cases hkl : k < l.length
    · have j1 : (k : Int) < (l.length : Int) := by omega
      obtain ⟨hgk, hck⟩ := (hr.below hb).celled penc2_len k hkl
      have d0 := hck 0 _ rfl
      have d1 := hck 1 _ rfl
      rw [Nat.add_zero] at d0
      clear hck
      by_cases hki : k < fstHi h l
      · have hlo := fstHi_lo h l k hkl hki
        generalize hp l[k] = x at d0 hlo
        have hled : ¬ h ≤ x := by omega
        go_wp2_with fail
        exact ⟨⟨k + 1, hki, step_i k, hb⟩, step_n k (l.length + 1) (by omega)⟩
      · have hFe : fstHi h l = k := by omega
        have HF := hide (fnd_at hkl hFe)
        have hhi := fstHi_hi h l (by omega)
        have hhi' : h ≤ hp l[k] := by subst hFe; exact hhi
        generalize hp l[k] = x at d0 hhi'
        clear hhi hFe
        go_wp2_with fail
        go_ret
        exact ⟨by rw [HF.out]; rfl, hb⟩
    · have j1 : ¬ (k : Int) < (l.length : Int) := by omega
      have HF := hide (fnd_top hne (show fstHi h l = l.length by omega))
      obtain ⟨hgk, hck⟩ := (hr.below hb).celled penc2_len 0 hne
      have d1 := hck 1 _ rfl
      clear hck
      go_wp2_with fail
      go_ret
      exact ⟨by rw [HF.out]; rfl, hb⟩

theorem insAll_pos {ws : List Int} (hM : May ws) : 0 < (insAll (pts ws)).length ∧ (insAll (pts ws)).length ≤ 1024 := by
  rw [insAll_len]
  exact ⟨List.length_pos_iff.2 hM.pts_ne, length_pts_le hM⟩
set_option maxHeartbeats 3200000 in
set_option maxRecDepth 100000 in
theorem of_ref (a : Option Addr) (cap : Nat) (ws : List Int) (hM : May ws) (key : ByteArray) (hs : key.size ≤ 9223372036854775807) (w : World) (hl : Lies w ienc a ws) :
    Calls Tryd.prog 37 #[.slice a ws.length cap, .string key] w fun e w' => e = .returned (.tuple #[.int .i64 (fnd (hashL key.data.toList) (insAll (pts ws))), .int .i64 0]) ∧ Below w.heap.size w w' := by
  have hm := may_ref a cap ws w hl (by have := hM.n2; omega)
  rw [mayB_iff.2 hM] at hm
  have hA := fun W (hb : Below w.heap.size w W) => all_ref a cap ws hM W (hl.below hb)
  have hF := fun a' c' W => find_ref a' c' (insAll (pts ws)) (insAll_pos hM).1 (insAll_pos hM).2 key hs W
  generalize insAll (pts ws) = l at hA hF ⊢
  generalize fnd (hashL key.data.toList) l = z at hF ⊢
  go_enter Tryd.func37, Tryd.ntmps37
  go_wp2_with fail
  refine hm.mono ?_
  rintro e w1 ⟨rfl, hw1⟩
  obtain rfl := hw1.symm
  go_wp2_with fail
  refine (hA w (Below.refl _ _)).mono ?_
  rintro e w2 ⟨v, rfl, hown, hb2⟩
  obtain ⟨a2, c2, rfl⟩ := own_slice hown
  go_wp2_with fail
  refine (hF a2 c2 w2 (own_mono hown (Nat.zero_le _))).mono ?_
  rintro e w3 ⟨rfl, hb3⟩
  have hb := hb2.trans (hb3.mono hb2.size)
  go_wp2
  exact bodyPost_ret (v := .tuple #[.int .i64 z, .int .i64 0]) (by simp [results, Tryd.results37, go_sem]) rfl ⟨rfl, hb⟩
set_option maxHeartbeats 3200000 in
theorem of_ref_no (a : Option Addr) (cap : Nat) (ws : List Int) (hM : ¬ May ws) (key : ByteArray) (w : World) (hl : Lies w ienc a ws) (hn : ws.length ≤ 9223372036854775807) :
    Calls Tryd.prog 37 #[.slice a ws.length cap, .string key] w fun e w' => e = .returned (.tuple #[.int .i64 0, .int .i64 1]) ∧ w' = w := by
  have hm := may_ref a cap ws w hl hn
  rw [mayB_no hM] at hm
  go_enter Tryd.func37, Tryd.ntmps37
  go_wp2_with fail
  refine hm.mono ?_
  rintro e w1 ⟨rfl, hw1⟩
  obtain rfl := hw1.symm
  go_wp2
  exact bodyPost_ret (v := .tuple #[.int .i64 0, .int .i64 1]) (by simp [results, Tryd.results37, go_sem]) rfl ⟨rfl, rfl⟩

end Go.Proofs.YtcmdglmcmifflaaDoor.Rf
