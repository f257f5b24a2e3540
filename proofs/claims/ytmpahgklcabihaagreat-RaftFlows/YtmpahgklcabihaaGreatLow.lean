/- Walks over low.go: width, putLow, getLow. -/
import Derived.Test.YtmpahgklcabihaaGreatProg
import Derived.Test.YtmpahgklcabihaaGreatPlain
import Derived.WalkKit
import Derived.WalkSpells
import Derived.WalkLawsBesides
import Derived.Maps.AppendAt
namespace Go.Proofs.YtmpahgklcabihaaGreat
open Go.RowKit

theorem ret_int {k : IntKind} {a b : Int} (h : a = b) : Ending.returned (.int k a) = .returned (.int k b) := by rw [h]
theorem val_int {k : IntKind} {a b : Int} (h : a = b) : Value.int k a = .int k b := by rw [h]

set_option maxRecDepth 100000 in
set_option maxHeartbeats 400000 in
theorem width_any (n : Nat) (w : World) (hn : n < 18446744073709551616) :
    Calls Tryz.prog 209 #[.int .u64 n] w fun e w' => e = .returned (.int .i64 (Pl.wd n)) ∧ w' = w := by
  go_enter Tryz.func209, Tryz.ntmps209
  go_wp2
  go_loop [0, 3] (fun m c => ∃ (x k : Nat), m = .int .u64 x ∧ c = .int .i64 k ∧ x < 256 ^ (8 - k) ∧ k ≤ 8 ∧ k + Pl.wdF (8 - k) x = Pl.wd n) (fun _ c => 8 - (intOf c).toNat)
  case atStart => exact ⟨n, 0, rfl, rfl, by simpa using hn, by omega, by simp [Pl.wd]⟩
  case round =>
    obtain ⟨x, k, rfl, rfl, hx, hk, hw⟩ := hrel
    have HS := Pl.wd_step x k (Pl.wd n) hx hk hw
    have HE := Pl.wd_end x k (Pl.wd n) hw
    clear hw hx
    go_wp2
    · go_round
      have hx : 0 < x := by assumption
      obtain ⟨h1, h2, h3⟩ := HS hx
      case rel => exact ⟨x / 256, k + 1, by go_num, by go_num, h1, h2, h3⟩
      case measure => have := (HS (by assumption)).2.1; simp [intOf]; omega
    · go_ret
      exact ⟨ret_int (by rw [HE (by omega)]), rfl⟩

theorem u8_info : (Tryz.prog.info? 5).map (fun i => (i.zero, i.size, i.bytes)) = some (some (.int .u8 0), 1, 1) := by kernel_rfl

/-- bytes as cells -/
def bys (l : List UInt8) : List Value := l.map fun b => .int .u8 (b.toNat : Int)

theorem bys_append (a b : List UInt8) : bys (a ++ b) = bys a ++ bys b := by simp [bys]
theorem bys_length (a : List UInt8) : (bys a).length = a.length := by simp [bys]

theorem put_step {B m k n : Nat} {xs : List UInt8} {v u v' : Value} {w wr w1 : World} {o : Obj} {x : Int}
    (hx : x = ((n / 256 ^ k % 256 : Nat) : Int))
    (hb : u.ownBlock = v.ownBlock ∨ ∃ g, u.ownBlock = some g ∧ w.heap.size ≤ g) (hg : w.grownBy wr v.ownBlock)
    (hown' : w1.ownsRow B 5 1 v' (m + k + 1) (bys (xs ++ Pl.low k n) ++ [.int .u8 x])) (hgrow : (wr.alloc o).grownBy w1 u.ownBlock)
    (hat : v'.ownBlock = u.ownBlock ∨ v'.ownBlock = some (wr.heap.size + 1)) :
    w1.ownsRow B 5 1 v' (m + (k + 1)) (bys (xs ++ Pl.low (k + 1) n)) ∧ (v'.ownBlock = v.ownBlock ∨ ∃ g, v'.ownBlock = some g ∧ w.heap.size ≤ g) ∧ w.grownBy w1 v.ownBlock := by
  have hs := hg.size
  refine ⟨?_, ?_, ?_⟩
  · rw [Pl.low_succ, ← List.append_assoc, bys_append (xs ++ Pl.low k n)]
    have : bys [UInt8.ofNat (n / 256 ^ k % 256)] = [.int .u8 x] := by
      simp only [bys, List.map_cons, List.map_nil]
      rw [hx, UInt8.toNat_ofNat', Nat.mod_mod]
    rw [this]; exact hown'
  · rcases hat with h | h
    · rw [h]; exact hb
    · right; exact ⟨_, h, by omega⟩
  · have h1 : w.grownBy (wr.alloc o) v.ownBlock := hg.trans (World.grownBy_alloc wr o v.ownBlock)
    refine ⟨hgrow.os.trans h1.os, hgrow.tape.trans h1.tape, hgrow.output.trans h1.output, Nat.le_trans h1.size hgrow.size, fun i hi hne => ?_⟩
    refine (hgrow.block i (Nat.lt_of_lt_of_le hi h1.size) ?_).trans (h1.block i hi hne)
    rcases hb with h | ⟨g, h, hgw⟩
    · rw [h]; exact hne
    · rw [h]; intro e; simp at e; omega

set_option maxRecDepth 100000 in
set_option maxHeartbeats 800000 in
theorem putLow64_any (B : Nat) (v : Value) (m : Nat) (xs : List UInt8) (n c : Nat) (w : World) (hn : n < 18446744073709551616) (hc : c ≤ 8) (hm : m ≤ 1000000) (hB : B ≤ w.heap.size)
    (hown : w.ownsRow B 5 1 v m (bys xs)) :
    Calls Tryz.prog 210 #[v, .int .u64 n, .int .i64 c] w fun e w' => ∃ v', e = .returned v' ∧ w'.ownsRow B 5 1 v' (m + c) (bys (xs ++ Pl.low c n)) ∧
      (v'.ownBlock = v.ownBlock ∨ ∃ g, v'.ownBlock = some g ∧ w.heap.size ≤ g) ∧ w.grownBy w' v.ownBlock := by
  obtain ⟨i0, hi, hz0, hz1, hz2⟩ := info_parts u8_info
  go_enter Tryz.func210, Tryz.ntmps210
  go_wp2
  go_loopw [0, 1, 8] (fun u q i wr => ∃ (k : Nat), k ≤ c ∧ i = .int .i64 k ∧ q = .int .u64 (n / 256 ^ k : Nat) ∧ wr.ownsRow B 5 1 u (m + k) (bys (xs ++ Pl.low k n)) ∧
      (u.ownBlock = v.ownBlock ∨ ∃ g, u.ownBlock = some g ∧ w.heap.size ≤ g) ∧ w.grownBy wr v.ownBlock) (fun _ _ i _ => c - (intOf i).toNat)
  case atStart => exact ⟨0, by omega, rfl, by simp, by simpa [Pl.low] using hown, Or.inl rfl, World.grownBy.refl _ _⟩
  case round =>
    obtain ⟨k, hk, rfl, rfl, hr, hb, hg⟩ := hrel
    have hq : n / 256 ^ k < 18446744073709551616 := Nat.lt_of_le_of_lt (Nat.div_le_self _ _) hn
    have HQ : Hid (n / 256 ^ k / 256 = n / 256 ^ (k + 1)) := by show _ = _; rw [Nat.div_div_eq_div_mul, Nat.pow_succ]
    have hsz := hg.size
    obtain ⟨q, Hq⟩ : ∃ q, q = n / 256 ^ k := ⟨_, rfl⟩
    rw [← Hq] at hq HQ ⊢
    have HX : Hid (q = n / 256 ^ k) := Hq
    clear Hq
    go_wp2_with (at_builtin; refine wpList_append_own_at _ rfl (.tmp 10) (.tmp 13) 64 rfl B 5 i0 (.int .u8 0) 1 1 Tryz.underlying64 hi hz0 hz1 hz2 rfl (by decide) _ _ _ rfl (hr.alloc _) ⟨wr.heap.size, 0, none⟩ 1 1 [.int .u8 (IntKind.u8.wrap q)] rfl rfl ?c1 ?c2 ?c3 ?c4 ?c5 ?_)
    case c1 => exact cell_one_new _ _ _
    case c2 => intro u hu; simp at hu; subst hu; rfl
    case c3 => unfold maxLen; omega
    case c4 => omega
    case c5 => simp; omega
    · intro v' w1 hown' hgrow _ hat
      have R := put_step (xs := xs) (n := n) (k := k) (by rw [HX.out, IntKind.wrap_u8]; omega) hb hg hown' hgrow hat
      clear hown' hgrow hat hb hg hr
      go_wp2
      go_roundw
      case rel => exact ⟨k + 1, by omega, by go_num, val_int (by rw [← HQ.out]; omega), R.1, R.2.1, R.2.2⟩
      case measure => simp [intOf]; omega
    · have hge : ¬ k < c := by assumption
      have hkl : k = c := by omega
      subst hkl
      go_ret
      exact ⟨_, rfl, hr, hb, hg⟩

set_option maxRecDepth 100000 in
set_option maxHeartbeats 800000 in
theorem putLow32_any (B : Nat) (v : Value) (m : Nat) (xs : List UInt8) (n c : Nat) (w : World) (hn : n < 4294967296) (hc : c ≤ 4) (hm : m ≤ 1000000) (hB : B ≤ w.heap.size)
    (hown : w.ownsRow B 5 1 v m (bys xs)) :
    Calls Tryz.prog 248 #[v, .int .u32 n, .int .i64 c] w fun e w' => ∃ v', e = .returned v' ∧ w'.ownsRow B 5 1 v' (m + c) (bys (xs ++ Pl.low c n)) ∧
      (v'.ownBlock = v.ownBlock ∨ ∃ g, v'.ownBlock = some g ∧ w.heap.size ≤ g) ∧ w.grownBy w' v.ownBlock := by
  obtain ⟨i0, hi, hz0, hz1, hz2⟩ := info_parts u8_info
  go_enter Tryz.func248, Tryz.ntmps248
  go_wp2
  go_loopw [0, 1, 8] (fun u q i wr => ∃ (k : Nat), k ≤ c ∧ i = .int .i64 k ∧ q = .int .u32 (n / 256 ^ k : Nat) ∧ wr.ownsRow B 5 1 u (m + k) (bys (xs ++ Pl.low k n)) ∧
      (u.ownBlock = v.ownBlock ∨ ∃ g, u.ownBlock = some g ∧ w.heap.size ≤ g) ∧ w.grownBy wr v.ownBlock) (fun _ _ i _ => c - (intOf i).toNat)
  case atStart => exact ⟨0, by omega, rfl, by simp, by simpa [Pl.low] using hown, Or.inl rfl, World.grownBy.refl _ _⟩
  case round =>
    obtain ⟨k, hk, rfl, rfl, hr, hb, hg⟩ := hrel
    have hq : n / 256 ^ k < 4294967296 := Nat.lt_of_le_of_lt (Nat.div_le_self _ _) hn
    have HQ : Hid (n / 256 ^ k / 256 = n / 256 ^ (k + 1)) := by show _ = _; rw [Nat.div_div_eq_div_mul, Nat.pow_succ]
    have hsz := hg.size
    obtain ⟨q, Hq⟩ : ∃ q, q = n / 256 ^ k := ⟨_, rfl⟩
    rw [← Hq] at hq HQ ⊢
    have HX : Hid (q = n / 256 ^ k) := Hq
    clear Hq
    go_wp2_with (at_builtin; refine wpList_append_own_at _ rfl (.tmp 10) (.tmp 13) 64 rfl B 5 i0 (.int .u8 0) 1 1 Tryz.underlying64 hi hz0 hz1 hz2 rfl (by decide) _ _ _ rfl (hr.alloc _) ⟨wr.heap.size, 0, none⟩ 1 1 [.int .u8 (IntKind.u8.wrap q)] rfl rfl ?c1 ?c2 ?c3 ?c4 ?c5 ?_)
    case c1 => exact cell_one_new _ _ _
    case c2 => intro u hu; simp at hu; subst hu; rfl
    case c3 => unfold maxLen; omega
    case c4 => omega
    case c5 => simp; omega
    · intro v' w1 hown' hgrow _ hat
      have R := put_step (xs := xs) (n := n) (k := k) (by rw [HX.out, IntKind.wrap_u8]; omega) hb hg hown' hgrow hat
      clear hown' hgrow hat hb hg hr
      go_wp2
      go_roundw
      case rel => exact ⟨k + 1, by omega, by go_num, val_int (by rw [← HQ.out]; omega), R.1, R.2.1, R.2.2⟩
      case measure => simp [intOf]; omega
    · have hge : ¬ k < c := by assumption
      have hkl : k = c := by omega
      subst hkl
      go_ret
      exact ⟨_, rfl, hr, hb, hg⟩

theorem join64 (v b : Nat) (hv : v < 256 ^ (8 - 1)) (hb : b < 256) : bits .or .u64 (IntKind.u64.wrap ((v : Int) * 256)) (IntKind.u64.wrap (b : Int)) = ((b + 256 * v : Nat) : Int) := by
  simp only [Nat.reduceSub, Nat.reducePow] at hv
  rw [IntKind.wrap_u64, IntKind.wrap_u64, u64_or _ _ (by omega) (by omega) (by omega) (by omega), nat_join 8 _ _ (by omega) (by omega)]
  omega

set_option maxRecDepth 100000 in
set_option maxHeartbeats 400000 in
theorem getLow64_any (s : ByteArray) (w : World) (hs : s.size ≤ 8) :
    Calls Tryz.prog 215 #[.string s] w fun e w' => e = .returned (.int .u64 (Pl.val s.data.toList)) ∧ w' = w := by
  go_enter Tryz.func215, Tryz.ntmps215
  go_wp2
  go_loop [3, 4] (fun n i => ∃ k : Nat, k ≤ s.size ∧ i = .int .i64 ((k : Int) - 1) ∧ n = .int .u64 (Pl.val (s.data.toList.drop k))) (fun _ i => (intOf i + 1).toNat)
  case atStart => exact ⟨s.size, Nat.le_refl _, rfl, val_int (by rw [List.drop_of_length_le (by simp)]; rfl)⟩
  case round =>
    obtain ⟨k, hk, rfl, rfl⟩ := hrel
    by_cases hlt : 1 ≤ k
    · have HJ : Hid (bits .or .u64 (IntKind.u64.wrap ((Pl.val (s.data.toList.drop k) : Int) * 256)) (IntKind.u64.wrap ((s[k - 1]'(by omega)).toNat : Int)) = (Pl.val (s.data.toList.drop (k - 1)) : Nat)) := by
        show _ = _
        rw [join64 _ _ (Pl.val_drop_lt _ _ _ (by simpa using hs) hlt) (s[k - 1]'(by omega)).toNat_lt, Pl.val_drop s.data.toList (k - 1) (by simp; omega), show k - 1 + 1 = k from by omega]
        rfl
      go_wp2
      go_round
      case rel => exact ⟨k - 1, by omega, by go_num, val_int (by rw [← HJ.out]; try simp only [IntKind.wrap_u64])⟩
      case measure => simp [intOf]; omega
    · go_wp2
      go_ret
      obtain rfl : k = 0 := by omega
      exact ⟨rfl, rfl⟩

theorem join32 (v b : Nat) (hv : v < 256 ^ (4 - 1)) (hb : b < 256) : bits .or .u32 (IntKind.u32.wrap ((v : Int) * 256)) (IntKind.u32.wrap (b : Int)) = ((b + 256 * v : Nat) : Int) := by
  simp only [Nat.reduceSub, Nat.reducePow] at hv
  rw [IntKind.wrap_u32, IntKind.wrap_u32, u32_or _ _ (by omega) (by omega) (by omega) (by omega), nat_join 8 _ _ (by omega) (by omega)]
  omega

set_option maxRecDepth 100000 in
set_option maxHeartbeats 400000 in
theorem getLow32_any (s : ByteArray) (w : World) (hs : s.size ≤ 4) :
    Calls Tryz.prog 181 #[.string s] w fun e w' => e = .returned (.int .u32 (Pl.val s.data.toList)) ∧ w' = w := by
  go_enter Tryz.func181, Tryz.ntmps181
  go_wp2
  go_loop [3, 4] (fun n i => ∃ k : Nat, k ≤ s.size ∧ i = .int .i64 ((k : Int) - 1) ∧ n = .int .u32 (Pl.val (s.data.toList.drop k))) (fun _ i => (intOf i + 1).toNat)
  case atStart => exact ⟨s.size, Nat.le_refl _, rfl, val_int (by rw [List.drop_of_length_le (by simp)]; rfl)⟩
  case round =>
    obtain ⟨k, hk, rfl, rfl⟩ := hrel
    by_cases hlt : 1 ≤ k
    · have HJ : Hid (bits .or .u32 (IntKind.u32.wrap ((Pl.val (s.data.toList.drop k) : Int) * 256)) (IntKind.u32.wrap ((s[k - 1]'(by omega)).toNat : Int)) = (Pl.val (s.data.toList.drop (k - 1)) : Nat)) := by
        show _ = _
        rw [join32 _ _ (Pl.val_drop_lt _ _ _ (by simpa using hs) hlt) (s[k - 1]'(by omega)).toNat_lt, Pl.val_drop s.data.toList (k - 1) (by simp; omega), show k - 1 + 1 = k from by omega]
        rfl
      go_wp2
      go_round
      case rel => exact ⟨k - 1, by omega, by go_num, val_int (by rw [← HJ.out]; try simp only [IntKind.wrap_u32])⟩
      case measure => simp [intOf]; omega
    · go_wp2
      go_ret
      obtain rfl : k = 0 := by omega
      exact ⟨rfl, rfl⟩

end Go.Proofs.YtmpahgklcabihaaGreat
