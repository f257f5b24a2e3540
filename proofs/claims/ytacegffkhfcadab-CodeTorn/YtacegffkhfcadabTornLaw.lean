/- CodeTorn, the walk. -/
import Derived.Test.YtacegffkhfcadabTorn
namespace Go.Proofs.Ytacegffkhfcadab
open Go.RowKit

theorem empty_text' : (ByteArray.mk #[]).toList.isEmpty = true := by rw [str_empty]; rfl

theorem torn_cut (s : ByteArray) (F : List UInt8) (t : ByteArray) (hF : F = frm s.data.toList) (ht : t = ⟨F.toArray⟩) (hl : s.data.toList.length ≤ 65536) (c : Nat) (hc : c < F.length) : unframe (t.extract 0 c) 0 = (⟨#[]⟩, 0, 0, 11) := by
  have e : (t.extract 0 c).data.toList = (frm s.data.toList).take c := by rw [Lib.extract_data, ht, hF, List.drop_zero, Nat.sub_zero]
  have := unframe_bad (s := t.extract 0 c) (q := 0) (e := 11) (Nat.zero_le _) (by rw [List.drop_zero, e]; exact unf_cut s.data.toList hl c (by rw [← hF]; exact hc)) (by decide)
  exact this
theorem torn_turned (s : ByteArray) (F : List UInt8) (t : ByteArray) (hF : F = frm s.data.toList) (ht : t = ⟨F.toArray⟩) (hl : s.data.toList.length ≤ 65536) (k : Nat) (hk : 4 ≤ k) (hkt : k < t.size) (y : UInt8) (hy : y ≠ t[k]) : unframe ⟨(t.data.toList.set k y).toArray⟩ 0 = (⟨#[]⟩, 0, 0, 10) := by
  subst ht hF
  have hkl : k < (frm s.data.toList).length := by
    have : (ByteArray.mk (frm s.data.toList).toArray).size = (frm s.data.toList).length := by show (frm s.data.toList).toArray.size = _; simp
    omega
  have := unframe_bad (s := ⟨((frm s.data.toList).set k y).toArray⟩) (q := 0) (e := 10) (Nat.zero_le _) (by rw [List.drop_zero]; exact unf_turned s.data.toList hl k hk hkl y hy) (by decide)
  exact this

/-- []byte(t): new bytes, which may be written -/
theorem conv_bytes (t : ByteArray) (W : World) : ∃ X cap, (convert 9 31 (.string t)).run Try.prog W = .ok (.slice (some ⟨W.heap.size, 0, none⟩) t.size cap) X ∧ (∀ j (h : j < t.size), X.cell? ⟨W.heap.size, j, none⟩ = some (.int .u8 ((t[j]'h).toNat : Int))) ∧
    (∀ j, j < t.size → X.frozen? ⟨W.heap.size, j, none⟩ = false) ∧ Below W.heap.size W X ∧ W.heap.size < X.heap.size ∧ t.size ≤ cap := by
  refine ⟨_, _, run_bytes_of_string W 9 31 5 t Try.underlying9 Try.underlying31 Try.underlying5, ?_, ?_, ?_, ?_, ?_⟩
  · intro j h
    have := World.cell?_alloc_mark W.drew (bytesRow t (grownCap W t.size 0 5)) 5 ((bytesRow t (grownCap W t.size 0 5)).size, (bytesRow t (grownCap W t.size 0 5)).size + 1) j
    rw [bytesRow_at t _ j h] at this
    exact this
  · intro j h
    have := World.frozen?_alloc_mark W.drew (bytesRow t (grownCap W t.size 0 5)) 5 (bytesRow t (grownCap W t.size 0 5)).size ((bytesRow t (grownCap W t.size 0 5)).size + 1) j
    have hsz : t.size ≤ (bytesRow t (grownCap W t.size 0 5)).size := by
      unfold bytesRow; rw [Array.size_append]; have : (t.data.map fun b => Value.int .u8 b.toNat).size = t.size := by rw [Array.size_map]; rfl
      omega
    refine this.trans ?_
    simp; omega
  · exact ((Below.refl W.heap.size W).drew).alloc (Nat.le_refl _) _
  · show W.heap.size < (W.drew.alloc _).heap.size; simp
  · exact grownCap_ge W t.size 0 5

/-- string(x) of those bytes, one of them another one -/
theorem conv_turned (t : ByteArray) (W : World) (H cap k : Nat) (y : UInt8) (h : ∀ j (hj : j < t.size), W.cell? ⟨H, j, none⟩ = some (.int .u8 ((if j = k then y else t[j]'hj).toNat : Int))) :
    (convert 31 9 (.slice (some ⟨H, 0, none⟩) t.size cap)).run Try.prog W = .ok (.string ⟨(t.data.toList.set k y).toArray⟩) W := by
  have hl : (t.data.toList.set k y).length = t.size := by rw [List.length_set, ← Lib.size_eq]
  have := run_convert_bytes_back (P := Try.prog) W 31 9 5 ⟨H, 0, none⟩ cap (t.data.toList.set k y) Try.underlying31 Try.underlying5 Try.underlying9 (fun j hj => by
    have hj' : j < t.size := by omega
    rw [Go.WideShapes.add_plain, Nat.zero_add, h j hj', List.getElem_set]
    by_cases e : j = k
    · subst e; simp
    · rw [if_neg e, if_neg (by omega)]; rfl)
  rw [hl] at this
  exact this

theorem xor_byte (x : UInt8) (m : Nat) (h0 : 0 < m) (h1 : m ≤ 255) : ∃ y : UInt8, y ≠ x ∧ bits .xor .u8 (x.toNat : Int) (m : Int) = (y.toNat : Int) ∧ y.toNat < 256 := by
  refine ⟨x ^^^ UInt8.ofNat m, ?_, ?_, UInt8.toNat_lt _⟩
  · intro e
    have h : x ^^^ UInt8.ofNat m ^^^ x = x ^^^ x := by rw [e]
    have hz : UInt8.ofNat m = 0 := by
      have e2 : UInt8.ofNat m = x ^^^ (x ^^^ UInt8.ofNat m) := by rw [← UInt8.xor_assoc, UInt8.xor_self, UInt8.zero_xor]
      rw [e2, e, UInt8.xor_self]
    have := congrArg UInt8.toNat hz
    rw [UInt8.toNat_ofNat', Nat.mod_eq_of_lt (by omega)] at this
    simp at this; omega
  · rw [u8_xor_nat _ _ x.toNat_lt (by omega), UInt8.toNat_xor, UInt8.toNat_ofNat', Nat.mod_eq_of_lt (show m < 2 ^ 8 by omega)]

set_option maxHeartbeats 3200000 in
theorem torn_law (s : ByteArray) (p k : Int) (w : World) (hs : s.size ≤ 140737488351232) (hp : (Lit.int .i64 p).wf = true) (hk : (Lit.int .u8 k).wf = true) :
    Calls Try.prog 3 #[.string s, .int .i64 p, .int .u8 k] w fun e w' => e = .returned (.bool true) ∧ Below w.heap.size w w' := by
  obtain ⟨k0, k1⟩ := bounds_u8 hk
  obtain ⟨p0, p1⟩ := bounds_i64 hp
  obtain ⟨n, rfl⟩ := Int.eq_ofNat_of_zero_le k0
  clear hk hp k0
  have hu := u64_wrap p
  go_enter Try.func3, Try.ntmps3
  go_wp2_with fail
  refine (works_any _).mono ?_
  rintro e w1 ⟨rfl, hb1⟩
  have hz1 := hb1.size
  go_wp2_with fail
  refine (Frame_any s w1 hs).mono ?_
  rintro e w2 ⟨rfl, hb2⟩
  have hb2' := hb1.trans (hb2.mono hz1)
  have hz2 := hb2'.size
  clear hb1 hb2
  rw [frameV, frame]
  by_cases hbig : 65536 < s.size
  · rw [if_pos hbig]
    obtain ⟨t0, ht0, hem⟩ : ∃ t : ByteArray, t = ⟨#[]⟩ ∧ t.toList.isEmpty = true := ⟨_, rfl, empty_text'⟩
    simp only
    rw [← ht0]
    go_wp2
    go_ret
    exact ⟨rfl, hb2'⟩
  · rw [if_neg hbig]
    simp only
    have hl : s.data.toList.length ≤ 65536 := by rw [← Lib.size_eq]; omega
    have hfl := frm_length s.data.toList
    have hts : (ByteArray.mk (frm s.data.toList).toArray).size = (frm s.data.toList).length := by show (frm s.data.toList).toArray.size = _; simp
    obtain ⟨F, hF⟩ : ∃ F, F = frm s.data.toList := ⟨_, rfl⟩
    rw [← hF] at hfl hts ⊢
    obtain ⟨t, ht⟩ : ∃ t : ByteArray, t = ⟨F.toArray⟩ := ⟨_, rfl⟩
    rw [← ht] at hts ⊢
    have hz8 : 8 ≤ t.size := by omega
    have hzb : t.size ≤ 65544 := by omega
    have hw2 : IntKind.u64.wrap (t.size : Int) = (t.size : Int) := by rw [IntKind.wrap_u64]; omega
    have hw3 : IntKind.u64.wrap ((t.size : Int) - 4) = (t.size : Int) - 4 := by rw [IntKind.wrap_u64]; omega
    have HT := hide ht
    have HFq := hide hF
    have HTS := hide hts
    clear ht hF hts
    generalize u64 p = q at *
    obtain ⟨c, hc⟩ : ∃ c, c = q % t.size := ⟨_, rfl⟩
    have hcl : c < t.size := by rw [hc]; exact Nat.mod_lt _ (by omega)
    have hci : (q : Int) % (t.size : Int) = (c : Int) := by omega
    have hne : ¬ (t.size : Int) = 0 := by omega
    clear hc
    have hU1 := hide (torn_cut s F t HFq.out HT.out hl c (by rw [← HTS.out]; exact hcl))
    have hce := ext_size t 0 c (by omega) (by omega)
    go_wp2_with fail
    refine (Unframe_any (t.extract 0 c) 0 w2 (by rw [hce]; omega) (by omega) (by omega)).mono ?_
    rintro e w3 ⟨rfl, hb3⟩
    rw [unframeV, hU1.out]
    have hb3' := hb2'.trans (hb3.mono hz2)
    have hz3 := hb3'.size
    clear hb2' hb3 hce
    obtain ⟨X, cap, hcv, hcell, hfro, hbX, hXs, hcap⟩ := conv_bytes t (w3.alloc (.cells #[.int .i64 0, .int .i64 11] 28))
    have hbX' := (hb3'.alloc hz3 (.cells #[.int .i64 0, .int .i64 11] 28)).trans (hbX.mono (by simp; omega))
    simp only [World.size_alloc] at hcv hcell hfro hXs
    obtain ⟨m, hm0, hm255, hmn⟩ : ∃ m : Nat, 0 < m ∧ m ≤ 255 ∧ ((n = 0 ∧ m = 1) ∨ (n ≠ 0 ∧ m = n)) := by
      by_cases h0 : n = 0
      · exact ⟨1, by omega, by omega, Or.inl ⟨h0, rfl⟩⟩
      · exact ⟨n, by omega, by omega, Or.inr ⟨h0, rfl⟩⟩
    obtain ⟨d, hd⟩ : ∃ d, d = q % (t.size - 4) := ⟨_, rfl⟩
    have hdl : d < t.size - 4 := by rw [hd]; exact Nat.mod_lt _ (by omega)
    have hdi : (q : Int) % ((t.size : Int) - 4) = (d : Int) := by
      rw [hd, show ((t.size : Int) - 4) = ((t.size - 4 : Nat) : Int) from by omega]; omega
    clear hd
    have hkt : 4 + d < t.size := by omega
    obtain ⟨y, hy1, hy2, hy3⟩ := xor_byte (t[4 + d]'hkt) m hm0 hm255
    have hU2 := hide (torn_turned s F t HFq.out HT.out hl (4 + d) (by omega) hkt y hy1)
    have hc1 := hcell (4 + d) hkt
    have hf1 := hfro (4 + d) hkt
    have hcv2 := conv_turned t (X.setCell ⟨w3.heap.size + 1, 4 + d, none⟩ (.int .u8 (y.toNat : Int))) (w3.heap.size + 1) cap (4 + d) y (fun j hj => by
      by_cases e : j = 4 + d
      · subst e; rw [World.cell?_setCell_same _ _ _ hc1]; simp
      · rw [World.cell?_setCell_other _ _ _ _ (by simp <;> omega), hcell j hj, if_neg e])
    have hsz2 : Hid ((ByteArray.mk (t.data.toList.set (4 + d) y).toArray).size ≤ 4611686018427387904) := by
      show (t.data.toList.set (4 + d) y).toArray.size ≤ _; rw [List.size_toArray, List.length_set, ← Lib.size_eq]; omega
    have hbY : Below w.heap.size w (X.setCell ⟨w3.heap.size + 1, 4 + d, none⟩ (.int .u8 (y.toNat : Int))) := hbX'.setCell (by show w.heap.size ≤ w3.heap.size + 1; omega) _
    have hzY := hbY.size
    generalize (t[4 + d]'hkt).toNat = b0 at *
    generalize ByteArray.mk (t.data.toList.set (4 + d) y).toArray = Z at *
    clear hcell hfro hbX hbX' hb3' hU1 HT HFq hl hy1
    have hne4 : ¬ (t.size : Int) - 4 = 0 := by omega
    rcases hmn with ⟨rfl, rfl⟩ | ⟨hn0, rfl⟩
    have hy4 : bits BinOp.xor IntKind.u8 (b0 : Int) 1 = (y.toNat : Int) := hy2
    clear hy2
    rotate_left
    have hn1 : ((m : Int) == 0) = false := by rw [beq_eq_false_iff_ne]; omega
    all_goals
      go_wp2_with fail
      refine (Unframe_any Z 0 _ hsz2.out (by omega) (by omega)).mono ?_
      rintro e w4 ⟨rfl, hb4⟩
      rw [unframeV, hU2.out]
      have hb4' := hbY.trans (hb4.mono hzY)
      have hz4 := hb4'.size
      clear hbY hb4 hcv hcv2
      go_wp2
      go_ret
      exact ⟨rfl, hb4'.alloc hz4 _⟩

end Go.Proofs.Ytacegffkhfcadab
