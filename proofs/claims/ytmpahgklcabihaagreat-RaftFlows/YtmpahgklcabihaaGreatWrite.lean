/- Walks over field.go: write. -/
import Derived.Test.YtmpahgklcabihaaGreatKind
namespace Go.Proofs.YtmpahgklcabihaaGreat
open Go.RowKit

theorem two_new (w : World) (o : Obj) (x y : Value) (t : TypeId) : ∀ j u, [x, y][j]? = some u → ((w.alloc o).alloc (.cells #[x, y] t)).cell? ((⟨w.heap.size + 1, 0, none⟩ : Addr).add j) = some u := by
  intro j u hj
  have e : (⟨w.heap.size + 1, 0, none⟩ : Addr) = ⟨(w.alloc o).heap.size, 0, none⟩ := by simp
  rw [e]
  match j, hj with
  | 0, hj => simp at hj; subst hj; simp [Addr.add]
  | 1, hj => simp at hj; subst hj; simp [Addr.add]

/-- what is kept of the box while the row grows -/
theorem grow_keeps {B H : Nat} {v v1 : Value} {m : Nat} {l : List Value} {w W w1 : World} (hH : H < W.heap.size) (hBH : w.heap.size ≤ H) (hown : w.ownsRow B 5 1 v m l) (hg : W.grownBy w1 v.ownBlock)
    (hat : v1.ownBlock = v.ownBlock ∨ ∃ g, v1.ownBlock = some g ∧ H < g) :
    (∀ o, w1.cell? ⟨H, o, none⟩ = W.cell? ⟨H, o, none⟩) ∧ some H ≠ v1.ownBlock := by
  have hne : some H ≠ v.ownBlock := fun e => by have := (hown.lt H e.symm).2; omega
  refine ⟨fun o => World.cell?_of_block (hg.block H hH hne), ?_⟩
  rcases hat with h | ⟨g, h, hlt⟩
  · rw [h]; exact hne
  · rw [h]; intro e; simp at e; omega

theorem own_below {B : Nat} {v : Value} {m : Nat} {l : List Value} {w W w1 : World} (hB : B ≤ W.heap.size) (hb : Below B w W) (hown : W.ownsRow B 5 1 v m l) (hg : W.grownBy w1 v.ownBlock) : Below B w w1 :=
  hb.grown hg hB (fun k hk => (hown.lt k hk).1)

/-- two steps, the second one into the row or into what is new -/
theorem grown_step {w a b : World} {row row' : Option Nat} (h1 : w.grownBy a row) (h2 : a.grownBy b row') (h : row' = row ∨ ∃ g, row' = some g ∧ w.heap.size ≤ g) : w.grownBy b row := by
  refine ⟨h2.os.trans h1.os, h2.tape.trans h1.tape, h2.output.trans h1.output, Nat.le_trans h1.size h2.size, fun i hi hne => ?_⟩
  refine (h2.block i (Nat.lt_of_lt_of_le hi h1.size) ?_).trans (h1.block i hi hne)
  rcases h with h | ⟨g, h, hg⟩
  · rw [h]; exact hne
  · rw [h]; intro e; simp at e; omega
theorem row_step {x y z : Option Nat} {n m : Nat} (h1 : y = x ∨ ∃ g, y = some g ∧ n ≤ g) (h2 : z = y ∨ ∃ g, z = some g ∧ m ≤ g) (hnm : n ≤ m) : z = x ∨ ∃ g, z = some g ∧ n ≤ g := by
  rcases h2 with h2 | ⟨g, h2, hg⟩
  · rw [h2]; exact h1
  · exact Or.inr ⟨g, h2, by omega⟩

theorem bys_two (l : List UInt8) (x y : UInt8) : bys l ++ [.int .u8 (x.toNat : Int), .int .u8 (y.toNat : Int)] = bys (l ++ [x, y]) := by simp [bys]
theorem bys_str (l : List UInt8) (s : ByteArray) : bys l ++ Lib.strCells s = bys (l ++ s.data.toList) := by simp [bys, Lib.strCells]
theorem wd_byte (n : Nat) : ((UInt8.ofNat (Pl.wd n)).toNat : Int) = (Pl.wd n : Int) := by
  have := Pl.wd_le n
  rw [UInt8.toNat_ofNat', Nat.mod_eq_of_lt (by omega)]

/-- a field's bytes: its letter, a number, what stands behind -/
def fld (c : UInt8) (n : Nat) (l : List UInt8) : List UInt8 := [c, UInt8.ofNat (Pl.wd n)] ++ Pl.low (Pl.wd n) n ++ l
theorem fld_length (c : UInt8) (n : Nat) (l : List UInt8) : (fld c n l).length = 2 + Pl.wd n + l.length := by simp [fld, Pl.low_length]; omega

set_option maxRecDepth 100000 in
set_option maxHeartbeats 1600000 in
theorem writeT_any (B : Nat) (v : Value) (m : Nat) (xs : List UInt8) (s : ByteArray) (w : World) (hs : s.size ≤ 300000) (hm : m ≤ 300000) (hB : B ≤ w.heap.size)
    (hown : w.ownsRow B 5 1 v m (bys xs)) :
    Calls Tryz.prog 171 #[v, kTxt, .string s] w fun e w' => ∃ v', e = .returned v' ∧ w'.ownsRow B 5 1 v' (m + (2 + Pl.wd (s.size) + s.size)) (bys (xs ++ fld 84 (s.size) (ByteArray.data s).toList)) ∧ w.grownBy w' v.ownBlock := by
  have h8 := Pl.wd_le (s.size)
  have hk : (Pl.wd (s.size) : Int) ≤ 8 := by omega
  obtain ⟨i0, hi, hz0, hz1, hz2⟩ := info_parts u8_info
  go_enter Tryz.func171, Tryz.ntmps171
  go_wp2_with fail
  refine (txt1_any _ _ (by omega)).mono ?_
  rintro e w' ⟨rfl, rfl⟩
  go_wp2_with fail
  refine (width_any _ _ (by omega)).mono ?_
  rintro e w' ⟨rfl, rfl⟩
  go_wp2_with (at_builtin; refine wpList_append_own_at _ rfl (.tmp 15) (.tmp 20) 64 rfl B 5 i0 (.int .u8 0) 1 1 Tryz.underlying64 hi hz0 hz1 hz2 rfl (by decide) _ _ _ rfl ((hown.alloc _).alloc _) ⟨w.heap.size + 1, 0, none⟩ 2 2 [.int .u8 84, .int .u8 (Pl.wd (s.size))] rfl rfl ?c1 ?c2 ?c3 ?c4 ?c5 ?_)
  case c1 => exact two_new _ _ _ _ _
  case c2 => intro u hu; simp at hu; rcases hu with rfl | rfl <;> rfl
  case c3 => unfold maxLen; omega
  case c4 => omega
  case c5 => simp; omega
  intro v1 w1 hown1 hgrow1 _ hat1
  have hbel1 : Below B w w1 := own_below (by simp; omega) (((Below.refl B w).alloc hB _).alloc (by simp; omega) _) ((hown.alloc _).alloc _) hgrow1
  have hsz1 := hgrow1.size
  obtain ⟨hcell1, hne1⟩ := grow_keeps (v1 := v1) (H := w.heap.size) (by simp; omega) (Nat.le_refl _) hown hgrow1 (by rcases hat1 with h | h; exact Or.inl h; exact Or.inr ⟨_, h, by omega⟩)
  have hc1 := hcell1 2
  simp at hc1 hsz1
  have hown1' : w1.ownsRow B 5 1 v1 (m + 2) (bys (xs ++ [84, UInt8.ofNat (Pl.wd (s.size))])) := by
    rw [← bys_two, wd_byte]; exact hown1
  have hr1 : v1.ownBlock = v.ownBlock ∨ ∃ g, v1.ownBlock = some g ∧ w.heap.size ≤ g := by rcases hat1 with h | h; exact Or.inl h; exact Or.inr ⟨_, h, by omega⟩
  have hG1 : w.grownBy w1 v.ownBlock := ((World.grownBy_alloc w _ _).trans (World.grownBy_alloc _ _ _)).trans hgrow1
  clear hown1 hgrow1 hat1 hcell1
  go_wp2_with fail
  refine (putLow64_any B v1 (m + 2) _ _ _ w1 (by omega) (by omega) (by omega) (by omega) hown1').mono ?_
  rintro e w2 ⟨v2, rfl, hown2, hat2, hgrow2⟩
  have hbel2 : Below B w w2 := own_below (by omega) hbel1 hown1' hgrow2
  have hsz2 := hgrow2.size
  have hc2 : w2.cell? ⟨w.heap.size, 2, none⟩ = _ := (World.cell?_of_block (a := ⟨w.heap.size, 2, none⟩) (hgrow2.block w.heap.size (by omega) hne1)).trans hc1
  have hr2 := row_step hr1 hat2 (by omega)
  have hG2 := grown_step hG1 hgrow2 hr1
  clear hgrow2 hat2 hc1 hne1 hown1' hr1 hG1
  go_wp2_with fail
  refine (txt2_any _ _).mono ?_
  rintro e w' ⟨rfl, rfl⟩
  go_wp2_with (at_builtin; refine Lib.wpList_append_own_string _ rfl (.tmp 26) (.tmp 30) 64 9 rfl B 5 i0 Tryz.underlying64 Tryz.underlying9 hi hz0 hz1 hz2 _ _ _ rfl hown2 _ rfl ?d3 ?d4 ?d5 ?_)
  case d3 => unfold maxLen; first | omega | (have e0 : (ByteArray.mk #[]).size = 0 := rfl; rw [e0]; omega)
  case d4 => first | omega | (have e0 : (ByteArray.mk #[]).size = 0 := rfl; rw [e0]; omega)
  case d5 => omega
  intro v3 w3 hown3 hgrow3 _
  have hG3 := grown_step hG2 hgrow3 hr2
  have hfin : w3.ownsRow B 5 1 v3 (m + (2 + Pl.wd (s.size) + s.size)) (bys (xs ++ fld 84 (s.size) (ByteArray.data s).toList)) := by
    rw [bys_str] at hown3
    simp only [fld, List.append_assoc] at hown3 ⊢
    rw [show m + (2 + Pl.wd (s.size) + s.size) = m + 2 + Pl.wd (s.size) + s.size from by omega]
    exact hown3
  clear hown3 hgrow3 hown2 hbel2 hbel1 hG2 hr2
  go_wp2
  go_ret
  exact ⟨_, rfl, hfin, hG3⟩

set_option maxRecDepth 100000 in
set_option maxHeartbeats 1600000 in
theorem writeN_any (B : Nat) (v : Value) (m : Nat) (xs : List UInt8) (n : Int) (w : World)  (hm : m ≤ 300000) (hB : B ≤ w.heap.size)
    (hown : w.ownsRow B 5 1 v m (bys xs)) :
    Calls Tryz.prog 173 #[v, kNum, .int .i64 n] w fun e w' => ∃ v', e = .returned v' ∧ w'.ownsRow B 5 1 v' (m + (2 + Pl.wd (u64 n) + 0)) (bys (xs ++ fld 78 (u64 n) (ByteArray.data ⟨#[]⟩).toList)) ∧ w.grownBy w' v.ownBlock := by
  have h8 := Pl.wd_le (u64 n)
  have hk : (Pl.wd (u64 n) : Int) ≤ 8 := by omega
  obtain ⟨i0, hi, hz0, hz1, hz2⟩ := info_parts u8_info
  go_enter Tryz.func173, Tryz.ntmps173
  go_wp2_with fail
  refine (num1'_any _ _).mono ?_
  rintro e w' ⟨rfl, rfl⟩
  go_wp2_with fail
  refine (width_any _ _ (u64_lt _)).mono ?_
  rintro e w' ⟨rfl, rfl⟩
  go_wp2_with (at_builtin; refine wpList_append_own_at _ rfl (.tmp 15) (.tmp 20) 64 rfl B 5 i0 (.int .u8 0) 1 1 Tryz.underlying64 hi hz0 hz1 hz2 rfl (by decide) _ _ _ rfl ((hown.alloc _).alloc _) ⟨w.heap.size + 1, 0, none⟩ 2 2 [.int .u8 78, .int .u8 (Pl.wd (u64 n))] rfl rfl ?c1 ?c2 ?c3 ?c4 ?c5 ?_)
  case c1 => exact two_new _ _ _ _ _
  case c2 => intro u hu; simp at hu; rcases hu with rfl | rfl <;> rfl
  case c3 => unfold maxLen; omega
  case c4 => omega
  case c5 => simp; omega
  intro v1 w1 hown1 hgrow1 _ hat1
  have hbel1 : Below B w w1 := own_below (by simp; omega) (((Below.refl B w).alloc hB _).alloc (by simp; omega) _) ((hown.alloc _).alloc _) hgrow1
  have hsz1 := hgrow1.size
  obtain ⟨hcell1, hne1⟩ := grow_keeps (v1 := v1) (H := w.heap.size) (by simp; omega) (Nat.le_refl _) hown hgrow1 (by rcases hat1 with h | h; exact Or.inl h; exact Or.inr ⟨_, h, by omega⟩)
  have hc1 := hcell1 2
  simp at hc1 hsz1
  have hown1' : w1.ownsRow B 5 1 v1 (m + 2) (bys (xs ++ [78, UInt8.ofNat (Pl.wd (u64 n))])) := by
    rw [← bys_two, wd_byte]; exact hown1
  have hr1 : v1.ownBlock = v.ownBlock ∨ ∃ g, v1.ownBlock = some g ∧ w.heap.size ≤ g := by rcases hat1 with h | h; exact Or.inl h; exact Or.inr ⟨_, h, by omega⟩
  have hG1 : w.grownBy w1 v.ownBlock := ((World.grownBy_alloc w _ _).trans (World.grownBy_alloc _ _ _)).trans hgrow1
  clear hown1 hgrow1 hat1 hcell1
  go_wp2_with fail
  refine (putLow64_any B v1 (m + 2) _ _ _ w1 (u64_lt _) (by omega) (by omega) (by omega) hown1').mono ?_
  rintro e w2 ⟨v2, rfl, hown2, hat2, hgrow2⟩
  have hbel2 : Below B w w2 := own_below (by omega) hbel1 hown1' hgrow2
  have hsz2 := hgrow2.size
  have hc2 : w2.cell? ⟨w.heap.size, 2, none⟩ = _ := (World.cell?_of_block (a := ⟨w.heap.size, 2, none⟩) (hgrow2.block w.heap.size (by omega) hne1)).trans hc1
  have hr2 := row_step hr1 hat2 (by omega)
  have hG2 := grown_step hG1 hgrow2 hr1
  clear hgrow2 hat2 hc1 hne1 hown1' hr1 hG1
  go_wp2_with fail
  refine (num2_any _ _).mono ?_
  rintro e w' ⟨rfl, rfl⟩
  go_wp2_with (at_builtin; refine Lib.wpList_append_own_string _ rfl (.tmp 26) (.tmp 30) 64 9 rfl B 5 i0 Tryz.underlying64 Tryz.underlying9 hi hz0 hz1 hz2 _ _ _ rfl hown2 _ rfl ?d3 ?d4 ?d5 ?_)
  case d3 => unfold maxLen; first | omega | (have e0 : (ByteArray.mk #[]).size = 0 := rfl; rw [e0]; omega)
  case d4 => first | omega | (have e0 : (ByteArray.mk #[]).size = 0 := rfl; rw [e0]; omega)
  case d5 => omega
  intro v3 w3 hown3 hgrow3 _
  have hG3 := grown_step hG2 hgrow3 hr2
  have hfin : w3.ownsRow B 5 1 v3 (m + (2 + Pl.wd (u64 n) + 0)) (bys (xs ++ fld 78 (u64 n) (ByteArray.data ⟨#[]⟩).toList)) := by
    rw [bys_str] at hown3
    simp only [fld, List.append_assoc] at hown3 ⊢
    rw [show m + (2 + Pl.wd (u64 n) + 0) = m + 2 + Pl.wd (u64 n) + 0 from by omega]
    exact hown3
  clear hown3 hgrow3 hown2 hbel2 hbel1 hG2 hr2
  go_wp2
  go_ret
  exact ⟨_, rfl, hfin, hG3⟩

end Go.Proofs.YtmpahgklcabihaaGreat
