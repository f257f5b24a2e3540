/- The walk over frame.go: Unframe. -/
import Derived.Test.YtmpahgklcabihaaGreatFrame
namespace Go.Proofs.YtmpahgklcabihaaGreat
open Go.RowKit

/-- the frame that bytes begin with: what is in it, how many bytes it takes, what is wrong -/
def unf (r : List UInt8) : List UInt8 × Nat × Nat :=
  if r.length < 4 then ([], 0, 11)
  else if 65536 < Pl.val (r.take 4) then ([], 0, 2)
  else if r.length < Pl.val (r.take 4) + 8 then ([], 0, 11)
  else if Pl.val ((r.drop (4 + Pl.val (r.take 4))).take 4) ≠ Pl.adler (r.take (4 + Pl.val (r.take 4))) then ([], 0, 10)
  else ((r.drop 4).take (Pl.val (r.take 4)), Pl.val (r.take 4) + 8, 0)

/-- what Unframe answers -/
def unframe (s : ByteArray) (p : Int) : ByteArray × Int × Int × Int :=
  if p < 0 ∨ (s.size : Int) < p then (⟨#[]⟩, 0, 0, 1)
  else if (unf (s.data.toList.drop p.toNat)).2.2 = 0 then (⟨(unf (s.data.toList.drop p.toNat)).1.toArray⟩, p + (unf (s.data.toList.drop p.toNat)).2.1, 0, 0)
  else (⟨#[]⟩, 0, p, (unf (s.data.toList.drop p.toNat)).2.2)
abbrev unframeV (s : ByteArray) (p : Int) : Value := .tuple #[.string (unframe s p).1, .int .i64 (unframe s p).2.1, .agg #[.int .i64 (unframe s p).2.2.1, .int .i64 (unframe s p).2.2.2]]

theorem unframe_bad {s : ByteArray} {q e : Nat} (hq : q ≤ s.size) (h : unf (s.data.toList.drop q) = ([], 0, e)) (he : e ≠ 0) : unframe s q = (⟨#[]⟩, 0, (q : Int), (e : Int)) := by
  rw [unframe, if_neg (by omega), Int.toNat_natCast, h, if_neg he]
theorem unframe_good {s : ByteArray} {q n : Nat} {l : List UInt8} (hq : q ≤ s.size) (h : unf (s.data.toList.drop q) = (l, n, 0)) : unframe s q = (⟨l.toArray⟩, (q : Int) + n, 0, 0) := by
  rw [unframe, if_neg (by omega), Int.toNat_natCast, h, if_pos rfl]

set_option maxRecDepth 100000 in
set_option maxHeartbeats 1600000 in
theorem Unframe_any (s : ByteArray) (p : Int) (w : World) (hs : s.size ≤ 4611686018427387904) (hp1 : -9223372036854775808 ≤ p) (hp2 : p ≤ 9223372036854775807) :
    Calls Tryz.prog 137 #[.string s, .int .i64 p] w fun e w' => e = .returned (unframeV s p) ∧ Below w.heap.size w w' := by
  by_cases hneg : p < 0
  · have HR := hide (show unframe s p = (⟨#[]⟩, 0, 0, 1) from by rw [unframe, if_pos (Or.inl hneg)])
    go_enter Tryz.func137, Tryz.ntmps137
    go_wp2
    rw [unframeV, HR.out]
    exact bodyPost_ret (v := .tuple #[.string ⟨#[]⟩, .int .i64 0, .agg #[.int .i64 0, .int .i64 1]]) (by simp [results, Tryz.results137, go_sem]) rfl ⟨rfl, (Below.refl _ _).alloc (Nat.le_refl _) _⟩
  · by_cases hbig : (s.size : Int) < p
    · have HR := hide (show unframe s p = (⟨#[]⟩, 0, 0, 1) from by rw [unframe, if_pos (Or.inr hbig)])
      go_enter Tryz.func137, Tryz.ntmps137
      go_wp2
      rw [unframeV, HR.out]
      exact bodyPost_ret (v := .tuple #[.string ⟨#[]⟩, .int .i64 0, .agg #[.int .i64 0, .int .i64 1]]) (by simp [results, Tryz.results137, go_sem]) rfl ⟨rfl, (Below.refl _ _).alloc (Nat.le_refl _) _⟩
    · obtain ⟨q, rfl⟩ := Int.eq_ofNat_of_zero_le (show 0 ≤ p by omega)
      have hq : q ≤ s.size := by omega
      have hrs := ext_size s q s.size hq (Nat.le_refl _)
      have hdr : (s.extract q s.size).data.toList = s.data.toList.drop q := by
        rw [Lib.extract_data, List.take_of_length_le]; rw [List.length_drop, ← Lib.size_eq]; exact Nat.le_refl _
      have HRL : Hid ((s.data.toList.drop q).length = s.size - q) := by show _ = _; rw [List.length_drop, ← Lib.size_eq]
      by_cases h4 : s.size - q < 4
      · have HR := hide (show unf (s.data.toList.drop q) = ([], 0, 11) from by rw [unf, if_pos (by rw [HRL.out]; exact h4)])
        clear hdr
        go_enter Tryz.func137, Tryz.ntmps137
        go_wp2
        rw [unframeV, unframe_bad hq HR.out (by decide)]
        exact bodyPost_ret (v := .tuple #[.string ⟨#[]⟩, .int .i64 0, .agg #[.int .i64 q, .int .i64 11]]) (by simp [results, Tryz.results137, go_sem]) rfl ⟨rfl, (Below.refl _ _).alloc (Nat.le_refl _) _⟩
      · have Hd := hide hdr
        clear hdr
        go_enter Tryz.func137, Tryz.ntmps137
        go_wp2_with fail
        generalize s.extract q s.size = r at *
        rw [← hrs]
        refine (getLow32_any (r.extract 0 4) _ (by rw [ext_size r 0 4 (by omega) (by omega)]; omega)).mono ?_
        rintro e w' ⟨rfl, rfl⟩
        rw [Lib.extract_data, List.drop_zero, Nat.sub_zero]
        have hn32 : Pl.val (r.data.toList.take 4) < 4294967296 := Nat.lt_of_lt_of_le (Pl.val_lt _) (by rw [List.length_take]; exact Nat.pow_le_pow_right (by omega) (Nat.min_le_left _ _))
        have hrl : r.data.toList.length = r.size := (Lib.size_eq r).symm
        have HU2 : Hid (unf (s.data.toList.drop q) = unf r.data.toList) := by show _ = _; rw [Hd.out]
        rw [unf.eq_1 r.data.toList, if_neg (by omega), hrl] at HU2
        obtain ⟨n, hn⟩ : ∃ n, n = Pl.val (r.data.toList.take 4) := ⟨_, rfl⟩
        rw [← hn] at HU2 hn32 ⊢
        have hr4 : 4 ≤ r.size := by omega
        have hrle : r.size ≤ 4611686018427387904 := by omega
        clear hn Hd hrl HRL h4
        by_cases h5 : 65536 < n
        · rw [if_pos h5] at HU2
          go_wp2
          rw [unframeV, unframe_bad hq HU2.out (by decide)]
          exact bodyPost_ret (v := .tuple #[.string ⟨#[]⟩, .int .i64 0, .agg #[.int .i64 q, .int .i64 2]]) (by simp [results, Tryz.results137, go_sem]) rfl ⟨rfl, (Below.refl _ _).alloc (Nat.le_refl _) _⟩
        · rw [if_neg h5] at HU2
          by_cases h6 : r.size < n + 8
          · rw [if_pos h6] at HU2
            go_wp2
            rw [unframeV, unframe_bad hq HU2.out (by decide)]
            exact bodyPost_ret (v := .tuple #[.string ⟨#[]⟩, .int .i64 0, .agg #[.int .i64 q, .int .i64 11]]) (by simp [results, Tryz.results137, go_sem]) rfl ⟨rfl, (Below.refl _ _).alloc (Nat.le_refl _) _⟩
          · rw [if_neg h6] at HU2
            have i1 : (0 : Int) ≤ 4 + (n : Int) := by omega
            have i2 : (4 : Int) + n ≤ 4 + n + 4 := by omega
            have i3 : (4 : Int) + n + 4 ≤ (r.size : Int) := by omega
            go_wp2
            go_quiet ((first | (go_at_call 181; exact Calls.quiet_of_same (getLow32_any _ _ (by rw [ext_size r _ _ (by omega) (by omega)]; omega))) | (go_at_call 182; exact Calls.quiet_of_same (Sum_any _ _ (by rw [ext_size r _ _ (by omega) (by omega)]; omega)))))
            rw [Lib.extract_data, Lib.extract_data, List.drop_zero, Nat.sub_zero]
            have e4 : 4 + n + 4 - (4 + n) = 4 := by omega
            rw [e4]
            by_cases h7 : Pl.val ((r.data.toList.drop (4 + n)).take 4) = Pl.adler (r.data.toList.take (4 + n))
            · rw [if_neg (by simpa using h7)] at HU2
              rw [h7]
              clear h7
              have bq : (((Pl.adler (r.data.toList.take (4 + n)) : Nat) : Int) != ((Pl.adler (r.data.toList.take (4 + n)) : Nat) : Int)) = false := by simp
              clear i1 i2 e4
              go_wp2_with fail
              obtain ⟨W, hW⟩ : ∃ W, W = (w.alloc (Obj.cells #[Value.int IntKind.i64 0, Value.int IntKind.i64 0] 156)).drewN nq := ⟨_, rfl⟩
              have hb0 : Below w.heap.size w W := by rw [hW]; exact below_box _ _ _
              have hWs : W.heap.size = w.heap.size + 1 := by rw [hW]; simp
              have c0 : W.cell? ⟨w.heap.size, 0, none⟩ = some (.int .i64 0) := by rw [hW]; simp
              have c1 : W.cell? ⟨w.heap.size, 1, none⟩ = some (.int .i64 0) := by rw [hW]; simp
              have f0 : W.frozen? ⟨w.heap.size, 0, none⟩ = false := by rw [hW]; simp
              have f1 : W.frozen? ⟨w.heap.size, 1, none⟩ = false := by rw [hW]; simp
              rw [← hW]
              clear hW
              refine (clone_any (r.extract 4 (4 + n)) W (by rw [ext_size r _ _ (by omega) (by omega)]; omega)).mono ?_
              rintro e w1 ⟨rfl, hb1⟩
              have c0' := (hb1.cell (p := ⟨w.heap.size, 0, none⟩) (by simp; omega)).trans c0
              have c1' := (hb1.cell (p := ⟨w.heap.size, 1, none⟩) (by simp; omega)).trans c1
              have f0' := (hb1.frozen (p := ⟨w.heap.size, 0, none⟩) (by simp; omega)).trans f0
              have f1' := (hb1.frozen (p := ⟨w.heap.size, 1, none⟩) (by simp; omega)).trans f1
              have hb2 := hb0.trans (hb1.mono (by omega))
              have hbody : r.extract 4 (4 + n) = ⟨((r.data.toList.drop 4).take n).toArray⟩ := by rw [Lib.extract_eq, show 4 + n - 4 = n from by omega]
              have HB := hide hbody
              clear hb1 hb0 c0 c1 f0 f1 hWs hbody
              go_wp2
              rw [unframeV, unframe_good hq HU2.out, ← HB.out]
              exact bodyPost_ret (v := .tuple #[.string (r.extract 4 (4 + n)), .int .i64 ((q : Int) + (n + 8 : Nat)), .agg #[.int .i64 0, .int .i64 0]]) (by simp [results, Tryz.results137, go_sem, c0', c1']; omega) rfl ⟨rfl, (hb2.setCell (Nat.le_refl _) _).setCell (Nat.le_refl _) _⟩
            · rw [if_pos h7] at HU2
              generalize Pl.val ((r.data.toList.drop (4 + n)).take 4) = a at *
              generalize Pl.adler (r.data.toList.take (4 + n)) = b at *
              have bq : ((a : Int) != (b : Int)) = true := by rw [bne_iff_ne]; omega
              go_wp2
              rw [unframeV, unframe_bad hq HU2.out (by decide)]
              exact bodyPost_ret (v := .tuple #[.string ⟨#[]⟩, .int .i64 0, .agg #[.int .i64 q, .int .i64 10]]) (by simp [results, Tryz.results137, go_sem]) rfl ⟨rfl, by first | exact below_box _ _ _ | exact ((below_box _ _ _).setCell (Nat.le_refl _) _).setCell (Nat.le_refl _) _⟩

end Go.Proofs.YtmpahgklcabihaaGreat
