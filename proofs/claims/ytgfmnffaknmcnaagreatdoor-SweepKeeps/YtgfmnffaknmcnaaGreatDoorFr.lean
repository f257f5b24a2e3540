/- Frames of a text: putLow, getLow, Sum, Frame, Unframe (for seats without Encode and Decode). -/
import Derived.Test.YtgfmnffaknmcnaaGreatDoorProg
import Derived.Test.YtgfmnffaknmcnaaGreatDoorPlain
import Derived.WalkKit
import Derived.WalkSpells
import Derived.WalkLawsBesides
import Derived.Maps.AppendAt
import Derived.Lib.AppendStr
import Derived.Deep.RegionHeld3
import Derived.Deep.QuietTactic
import Derived.BigQuiet
import Derived.WalkSmall
import Derived.Laws.EntriesVeiled
import Derived.Deep.DrawnRows
import Derived.Lib.Strings
import Derived.Laws.IdiomStrings
import Derived.Lib.BufferWrite
import Derived.Lib.UnsafeStr
import Derived.Laws.MakeOwn
namespace Go.Proofs.YtgfmnffaknmcnaaGreatDoor
open Go.RowKit

theorem ret_int {k : IntKind} {a b : Int} (h : a = b) : Ending.returned (.int k a) = .returned (.int k b) := by rw [h]
theorem val_int {k : IntKind} {a b : Int} (h : a = b) : Value.int k a = .int k b := by rw [h]

theorem u8_info : (Tryz.prog.info? 5).map (fun i => (i.zero, i.size, i.bytes)) = some (some (.int .u8 0), 1, 1) := by kernel_rfl

/-- bytes as cells -/
def bys (l : List UInt8) : List Value := l.map fun b => .int .u8 (b.toNat : Int)

theorem bys_append (a b : List UInt8) : bys (a ++ b) = bys a ++ bys b := by simp [bys]
theorem bys_length (a : List UInt8) : (bys a).length = a.length := by simp [bys]

theorem put_step {B m k n : Nat} {xs : List UInt8} {v u v' : Value} {w wr w1 : World} {o : Obj} {x : Int}
    (hx : x = ((n / 256 ^ k % 256 : Nat) : Int))
    (hb : u.ownBlock = v.ownBlock ∨ ∃ g, u.ownBlock = some g ∧ w.heap.size ≤ g) (hg : w.grownBy wr v.ownBlock)
    (hown' : w1.ownsRow B 5 1 v' (m + k + 1) (bys (xs ++ Pl.low k n) ++ [.int .u8 x])) (hgrow : (wr.alloc o).grownBy w1 u.ownBlock)
    (hat : v'.ownBlock = u.ownBlock ∨ v'.ownBlock = some (wr.heap.size + 1)) :
    w1.ownsRow B 5 1 v' (m + (k + 1)) (bys (xs ++ Pl.low (k + 1) n)) ∧ (v'.ownBlock = v.ownBlock ∨ ∃ g, v'.ownBlock = some g ∧ w.heap.size ≤ g) ∧ w.grownBy w1 v.ownBlock := by
  have hs := hg.size
  refine ⟨?_, ?_, ?_⟩
  · rw [Pl.low_succ, ← List.append_assoc, bys_append (xs ++ Pl.low k n)]
    have : bys [UInt8.ofNat (n / 256 ^ k % 256)] = [.int .u8 x] := by
      simp only [bys, List.map_cons, List.map_nil]
      rw [hx, UInt8.toNat_ofNat', Nat.mod_mod]
    rw [this]; exact hown'
  · rcases hat with h | h
    · rw [h]; exact hb
    · right; exact ⟨_, h, by omega⟩
  · have h1 : w.grownBy (wr.alloc o) v.ownBlock := hg.trans (World.grownBy_alloc wr o v.ownBlock)
    refine ⟨hgrow.os.trans h1.os, hgrow.tape.trans h1.tape, hgrow.output.trans h1.output, Nat.le_trans h1.size hgrow.size, fun i hi hne => ?_⟩
    refine (hgrow.block i (Nat.lt_of_lt_of_le hi h1.size) ?_).trans (h1.block i hi hne)
    rcases hb with h | ⟨g, h, hgw⟩
    · rw [h]; exact hne
    · rw [h]; intro e; simp at e; omega

set_option maxRecDepth 100000 in
set_option maxHeartbeats 800000 in
theorem putLow32_any (B : Nat) (v : Value) (m : Nat) (xs : List UInt8) (n c : Nat) (w : World) (hn : n < 4294967296) (hc : c ≤ 4) (hm : m ≤ 1000000) (hB : B ≤ w.heap.size)
    (hown : w.ownsRow B 5 1 v m (bys xs)) :
    Calls Tryz.prog 84 #[v, .int .u32 n, .int .i64 c] w fun e w' => ∃ v', e = .returned v' ∧ w'.ownsRow B 5 1 v' (m + c) (bys (xs ++ Pl.low c n)) ∧
      (v'.ownBlock = v.ownBlock ∨ ∃ g, v'.ownBlock = some g ∧ w.heap.size ≤ g) ∧ w.grownBy w' v.ownBlock := by
  obtain ⟨i0, hi, hz0, hz1, hz2⟩ := info_parts u8_info
  go_enter Tryz.func84, Tryz.ntmps84
  go_wp2
  go_loopw [0, 1, 8] (fun u q i wr => ∃ (k : Nat), k ≤ c ∧ i = .int .i64 k ∧ q = .int .u32 (n / 256 ^ k : Nat) ∧ wr.ownsRow B 5 1 u (m + k) (bys (xs ++ Pl.low k n)) ∧
      (u.ownBlock = v.ownBlock ∨ ∃ g, u.ownBlock = some g ∧ w.heap.size ≤ g) ∧ w.grownBy wr v.ownBlock) (fun _ _ i _ => c - (intOf i).toNat)
  case atStart => exact ⟨0, by omega, rfl, by simp, by simpa [Pl.low] using hown, Or.inl rfl, World.grownBy.refl _ _⟩
  case round =>
    obtain ⟨k, hk, rfl, rfl, hr, hb, hg⟩ := hrel
    have hq : n / 256 ^ k < 4294967296 := Nat.lt_of_le_of_lt (Nat.div_le_self _ _) hn
    have HQ : Hid (n / 256 ^ k / 256 = n / 256 ^ (k + 1)) := by show _ = _; rw [Nat.div_div_eq_div_mul, Nat.pow_succ]
    have hsz := hg.size
    obtain ⟨q, Hq⟩ : ∃ q, q = n / 256 ^ k := ⟨_, rfl⟩
    rw [← Hq] at hq HQ ⊢
    have HX : Hid (q = n / 256 ^ k) := Hq
    clear Hq
    go_wp2_with (at_builtin; refine wpList_append_own_at _ rfl (.tmp 10) (.tmp 13) 121 rfl B 5 i0 (.int .u8 0) 1 1 Tryz.underlying121 hi hz0 hz1 hz2 rfl (by decide) _ _ _ rfl (hr.alloc _) ⟨wr.heap.size, 0, none⟩ 1 1 [.int .u8 (IntKind.u8.wrap q)] rfl rfl ?c1 ?c2 ?c3 ?c4 ?c5 ?_)
    case c1 => exact cell_one_new _ _ _
    case c2 => intro u hu; simp at hu; subst hu; rfl
    case c3 => unfold maxLen; omega
    case c4 => omega
    case c5 => simp; omega
    · intro v' w1 hown' hgrow _ hat
      have R := put_step (xs := xs) (n := n) (k := k) (by rw [HX.out, IntKind.wrap_u8]; omega) hb hg hown' hgrow hat
      clear hown' hgrow hat hb hg hr
      go_wp2
      go_roundw
      case rel => exact ⟨k + 1, by omega, by go_num, val_int (by rw [← HQ.out]; omega), R.1, R.2.1, R.2.2⟩
      case measure => simp [intOf]; omega
    · have hge : ¬ k < c := by assumption
      have hkl : k = c := by omega
      subst hkl
      go_ret
      exact ⟨_, rfl, hr, hb, hg⟩

theorem join32 (v b : Nat) (hv : v < 256 ^ (4 - 1)) (hb : b < 256) : bits .or .u32 (IntKind.u32.wrap ((v : Int) * 256)) (IntKind.u32.wrap (b : Int)) = ((b + 256 * v : Nat) : Int) := by
  simp only [Nat.reduceSub, Nat.reducePow] at hv
  rw [IntKind.wrap_u32, IntKind.wrap_u32, u32_or _ _ (by omega) (by omega) (by omega) (by omega), nat_join 8 _ _ (by omega) (by omega)]
  omega

set_option maxRecDepth 100000 in
set_option maxHeartbeats 400000 in
theorem getLow32_any (s : ByteArray) (w : World) (hs : s.size ≤ 4) :
    Calls Tryz.prog 110 #[.string s] w fun e w' => e = .returned (.int .u32 (Pl.val s.data.toList)) ∧ w' = w := by
  go_enter Tryz.func110, Tryz.ntmps110
  go_wp2
  go_loop [3, 4] (fun n i => ∃ k : Nat, k ≤ s.size ∧ i = .int .i64 ((k : Int) - 1) ∧ n = .int .u32 (Pl.val (s.data.toList.drop k))) (fun _ i => (intOf i + 1).toNat)
  case atStart => exact ⟨s.size, Nat.le_refl _, rfl, val_int (by rw [List.drop_of_length_le (by simp)]; rfl)⟩
  case round =>
    obtain ⟨k, hk, rfl, rfl⟩ := hrel
    by_cases hlt : 1 ≤ k
    · have HJ : Hid (bits .or .u32 (IntKind.u32.wrap ((Pl.val (s.data.toList.drop k) : Int) * 256)) (IntKind.u32.wrap ((s[k - 1]'(by omega)).toNat : Int)) = (Pl.val (s.data.toList.drop (k - 1)) : Nat)) := by
        show _ = _
        rw [join32 _ _ (Pl.val_drop_lt _ _ _ (by simpa using hs) hlt) (s[k - 1]'(by omega)).toNat_lt, Pl.val_drop s.data.toList (k - 1) (by simp; omega), show k - 1 + 1 = k from by omega]
        rfl
      go_wp2
      go_round
      case rel => exact ⟨k - 1, by omega, by go_num, val_int (by rw [← HJ.out]; try simp only [IntKind.wrap_u32])⟩
      case measure => simp [intOf]; omega
    · go_wp2
      go_ret
      obtain rfl : k = 0 := by omega
      exact ⟨rfl, rfl⟩



theorem below_box (w : World) (o : Obj) (n : Nat) : Below w.heap.size w ((w.alloc o).drewN n) := below_drewN ((Below.refl _ _).alloc (Nat.le_refl _) _) n

theorem own_below {B : Nat} {v : Value} {m : Nat} {l : List Value} {w W w1 : World} (hB : B ≤ W.heap.size) (hb : Below B w W) (hown : W.ownsRow B 5 1 v m l) (hg : W.grownBy w1 v.ownBlock) : Below B w w1 :=
  hb.grown hg hB (fun k hk => (hown.lt k hk).1)
theorem bys_str (l : List UInt8) (s : ByteArray) : bys l ++ Lib.strCells s = bys (l ++ s.data.toList) := by simp [bys, Lib.strCells]

theorem conv_own {w : World} {B : Nat} {v : Value} {n : Nat} {l : List UInt8} (h : w.ownsRow B 5 1 v n (bys l)) : (convert 121 9 v).run Tryz.prog w = .ok (.string ⟨l.toArray⟩) w := by
  have hlen : l.length = n := by have := h.1; simpa [bys] using this
  subst hlen
  rcases h.2 with ⟨rfl, h0⟩ | ⟨g, cap, cur, rfl, _⟩
  · have : l = [] := List.eq_nil_of_length_eq_zero h0
    subst this
    rw [run_convert_bytes_string w 121 9 5 none 0 0 Tryz.underlying121 Tryz.underlying5 Tryz.underlying9]
    simp [Conv.bytesToString, Sem.run_pure]; rfl
  · refine run_convert_bytes_back w 121 9 5 ⟨g, 0, none⟩ cap l Tryz.underlying121 Tryz.underlying5 Tryz.underlying9 (fun j hj => ?_)
    refine h.cells rfl j _ ?_
    simp [bys, List.getElem?_eq_getElem hj]

theorem cells_u8 : Tryz.prog.cellsOf 5 = 1 := by kernel_rfl
set_option maxRecDepth 100000 in
set_option maxHeartbeats 1000000 in
set_option maxRecDepth 100000 in
theorem cloneIn_any (s : ByteArray) (w : World) (hlim : s.size ≤ 140737488351232) :
    Calls Tryz.prog 106 #[.string s] w fun e w' => e = .returned (.string s) ∧ Below w.heap.size w w' := by
  by_cases h0 : s.size = 0
  · obtain rfl : s = ⟨#[]⟩ := ByteArray.ext (Array.eq_empty_of_size_eq_zero h0)
    go_enter Tryz.func106, Tryz.ntmps106
    go_wp2
    go_ret
    exact ⟨rfl, Below.refl _ _⟩
  · obtain ⟨i0, hi, hz0, hz1, hz2⟩ := info_parts u8_info
    have hinfo : (Tryz.prog.info? 5).map (·.size) = some 1 := by rw [hi]; simp [hz1]
    obtain ⟨M, hM⟩ : ∃ M, M = madeCells (Value.int .u8 0).cells (((s.size : Nat) : Int).toNat * i0.size) := ⟨_, rfl⟩
    have hMs : M.size = s.size := by rw [hM, size_madeCells, hz1]; simp
    have hmk : ∀ W : World, (Instr.makeSlice 121 (.int .i64 (s.size : Int)) (.int .i64 (s.size : Int))).run Tryz.prog W = .ok (.slice (some ⟨W.heap.size, 0, none⟩) s.size s.size) (W.alloc (.cells M 5)) := fun W => by
      have h := run_make (P := Tryz.prog) W 121 5 i0 (.int .u8 0) Tryz.underlying121 hi hz0 .i64 .i64 (s.size : Int) (s.size : Int) (by omega) (by omega) (by rw [hz2]; omega) (by omega)
      rw [← hM] at h
      simpa using h
    clear hM
    have hcp := Lib.run_copy_row_string (P := Tryz.prog) (w.alloc (.cells M 5)) 121 9 3 5 w.heap.size 0 s.size s.size s M 5 Tryz.underlying121 hinfo (heap_alloc_new w _) (Nat.le_refl _) (by omega)
    obtain ⟨Y, hY⟩ : ∃ Y, Y = (M.toList.take 0 ++ Lib.byteCells s.data.toList ++ M.toList.drop (0 + s.size)).toArray := ⟨_, rfl⟩
    rw [← hY] at hcp
    have hYl : Y.toList = Lib.byteCells s.data.toList := by
      rw [hY, List.toList_toArray, List.take_zero, List.nil_append, List.drop_of_length_le (by rw [Array.length_toList]; omega), List.append_nil]
    have hYs : Y.size = s.size := by rw [← Array.length_toList, hYl, Lib.byteCells_length, ← Lib.size_eq]
    have hgY : ((w.alloc (.cells M 5)).setRow w.heap.size Y).heap[w.heap.size]? = some (.cells Y 5 (0, 0)) := setRow_heap _ _ M _ 5 (0, 0) (heap_alloc_new w _)
    have hne : s.data.toList ≠ [] := fun e => h0 (by rw [Lib.size_eq, e]; rfl)
    have hUS := Lib.run_unsafeString_row (P := Tryz.prog) ((w.alloc (.cells M 5)).setRow w.heap.size Y) 182 3 9 5 Tryz.underlying182 cells_u8 w.heap.size Y.size (by unfold World.shape?; rw [hgY]) s.data.toList hne (by rw [← Lib.size_eq]; omega) (by rw [← Lib.size_eq]; omega)
      (fun j x hx => Lib.cells_of_row hgY Y.size j _ (by rw [List.take_of_length_le (by rw [Array.length_toList]; exact Nat.le_refl _), hYl]; simp [Lib.byteCells, hx]))
    rw [← Lib.size_eq] at hUS
    clear hY
    go_enter Tryz.func106, Tryz.ntmps106
    go_wp2
    go_ret
    have hb1 : Below w.heap.size w (w.alloc (.cells M 5)) := (Below.refl _ w).alloc (Nat.le_refl _) _
    have hb2 : Below w.heap.size (w.alloc (.cells M 5)) ((w.alloc (.cells M 5)).setRow w.heap.size Y) := ⟨rfl, rfl, rfl, by simp, fun k hk => setRow_other _ _ _ _ (by omega)⟩
    exact ⟨rfl, Lib.below_freeze (hb1.trans hb2) (p := ⟨w.heap.size, 0, none⟩) (Nat.le_refl _) _⟩
set_option maxRecDepth 100000 in
set_option maxHeartbeats 400000 in
theorem clone_any (s : ByteArray) (w : World) (hlim : s.size ≤ 140737488351232) :
    Calls Tryz.prog 64 #[.string s] w fun e w' => e = .returned (.string s) ∧ Below w.heap.size w w' := by
  go_enter Tryz.func64, Tryz.ntmps64
  go_wp2_with fail
  refine (cloneIn_any _ _ hlim).mono ?_
  rintro e w' ⟨rfl, hb⟩
  go_wp2
  go_ret
  exact ⟨rfl, hb⟩
theorem ext_size (s : ByteArray) (a b : Nat) (h : a ≤ b) (h2 : b ≤ s.size) : (s.extract a b).size = b - a := by rw [ByteArray.size_extract]; omega

theorem hide {p : Prop} (h : p) : Hid p := h


theorem joinHL (v b : Nat) (hv : v < 65536) (hb : b < 65536) : bits .or .u32 ((v : Int) * 65536) (b : Int) = ((v * 65536 + b : Nat) : Int) := by
  rw [u32_or _ _ (by omega) (by omega) (by omega) (by omega), nat_join 16 _ _ (by omega) (by omega)]
  omega

theorem next_part {s b : ByteArray} {p m : Nat} {q : Nat × Nat} (hbs : b.size = s.size - p) (hp : p ≤ s.size) (hb : b.data.toList = s.data.toList.drop p) (he : q = Pl.ad (s.data.toList.take p) (1, 0)) (hm : m ≤ b.size) :
    p + m ≤ s.size ∧ (b.extract m b.size).size = s.size - (p + m) ∧ (b.extract m b.size).data.toList = s.data.toList.drop (p + m) ∧ Pl.ad (s.data.toList.take (p + m)) (1, 0) = Pl.ad (b.extract 0 m).data.toList q := by
  refine ⟨by omega, by rw [ext_size _ _ _ hm (Nat.le_refl _)]; omega, ?_, ?_⟩
  · rw [Lib.extract_data, hb, List.drop_drop, List.take_of_length_le]
    simp only [List.length_drop]; rw [← Lib.size_eq]; omega
  · rw [he, ← Pl.ad_append, Lib.extract_data, hb, List.drop_zero, Nat.sub_zero, List.take_add]
theorem next_whole {s b : ByteArray} {p : Nat} {q : Nat × Nat} (hbs : b.size = s.size - p) (hp : p ≤ s.size) (hb : b.data.toList = s.data.toList.drop p) (he : q = Pl.ad (s.data.toList.take p) (1, 0)) :
    p + b.size ≤ s.size ∧ ByteArray.empty.size = s.size - (p + b.size) ∧ ByteArray.empty.data.toList = s.data.toList.drop (p + b.size) ∧ Pl.ad (s.data.toList.take (p + b.size)) (1, 0) = Pl.ad b.data.toList q := by
  have h := next_part hbs hp hb he (Nat.le_refl b.size)
  have e : (b.extract 0 b.size).data.toList = b.data.toList := by rw [Lib.extract_data, List.drop_zero, Nat.sub_zero, List.take_of_length_le (by rw [← Lib.size_eq]; exact Nat.le_refl _)]
  rw [e] at h
  refine ⟨h.1, ?_, ?_, h.2.2.2⟩
  · show 0 = _; omega
  · rw [List.drop_of_length_le (by rw [← Lib.size_eq]; omega)]; rfl
/-- how long a text is -/
def strSz : Value → Nat | .string b => b.size | _ => 0

set_option maxRecDepth 100000 in
set_option maxHeartbeats 1600000 in
theorem Sum_any (s : ByteArray) (w : World) (hs : s.size ≤ 140737488351232) :
    Calls Tryz.prog 85 #[.string s] w fun e w' => e = .returned (.int .u32 (Pl.adler s.data.toList)) ∧ w' = w := by
  go_enter Tryz.func85, Tryz.ntmps85
  go_wp2
  go_loop [0, 3, 4] (fun v x y => ∃ (p : Nat) (b : ByteArray), p ≤ s.size ∧ b.size = s.size - p ∧ b.data.toList = s.data.toList.drop p ∧ v = .string b ∧ x = .int .u32 (Pl.ad (s.data.toList.take p) (1, 0)).1 ∧ y = .int .u32 (Pl.ad (s.data.toList.take p) (1, 0)).2) (fun v _ _ => strSz v)
  case atStart => exact ⟨0, s, by omega, by simp, by simp, rfl, rfl, rfl⟩
  case round =>
    obtain ⟨p, b, hp, hbs', hb', rfl, rfl, rfl⟩ := hrel
    have hbs := hide hbs'
    have hb := hide hb'
    clear hbs' hb'
    obtain ⟨hx, hy⟩ := Pl.ad_lt (s.data.toList.take p) (1, 0) (by omega) (by omega)
    obtain ⟨⟨x, y⟩, he'⟩ : ∃ q, q = Pl.ad (s.data.toList.take p) (1, 0) := ⟨_, rfl⟩
    rw [← he'] at hx hy ⊢
    have he := hide he'
    clear he'
    simp only at hx hy ⊢
    by_cases h0 : 0 < b.size
    · by_cases h5 : b.size ≤ 5552
      · go_wp2
        go_loop [3, 4, 17] (fun x1 y1 i => ∃ k : Nat, k ≤ b.size ∧ i = .int .i64 k ∧ x1 = .int .u32 (Pl.su (b.data.toList.take k) (x, y)).1 ∧ y1 = .int .u32 (Pl.su (b.data.toList.take k) (x, y)).2) (fun _ _ i => b.size - (intOf i).toNat)
        case atStart => exact ⟨0, by omega, rfl, rfl, rfl⟩
        case round =>
          obtain ⟨k, hk, rfl, rfl, rfl⟩ := hrel
          by_cases hlt : k < b.size
          · have hn := Pl.su_snoc b.data.toList k (by rw [← Lib.size_eq]; exact hlt) (x, y)
            have hfit := Pl.su_fits (b.data.toList.take (k + 1)) (x, y) hx hy (Nat.le_trans (List.length_take_le _ _) (by omega))
            obtain ⟨⟨x1, y1⟩, hq⟩ : ∃ q, q = Pl.su (b.data.toList.take k) (x, y) := ⟨_, rfl⟩
            rw [← hq] at hn ⊢
            rw [hn] at hfit
            obtain ⟨c, hc⟩ : ∃ c, c = (b[k]'hlt).toNat := ⟨_, rfl⟩
            have hc1 : (b.data.toList[k]'(by rw [← Lib.size_eq]; exact hlt)).toNat = c := by rw [hc]; rfl
            have hc2 : (b[k]'hlt).toNat = c := hc.symm
            rw [hc1] at hn hfit
            simp only at hfit hn ⊢
            have hn' := hide hn
            have hf1 := hfit.1
            have hf2 := hfit.2
            have hcl : c < 256 := by rw [hc]; exact UInt8.toNat_lt _
            clear hn hfit hq hc1 hc
            go_wp2
            go_round
            case rel => exact ⟨k + 1, by omega, by go_num, val_int (by rw [hn'.out]; simp), val_int (by rw [hn'.out]; simp)⟩
            case measure => simp [intOf]; omega
          · obtain rfl : k = b.size := by omega
            rw [List.take_of_length_le (by rw [← Lib.size_eq]; exact Nat.le_refl _)]
            have hm := hide (Pl.su_mod b.data.toList (x, y) (x, y) rfl rfl hx hy)
            obtain ⟨⟨x1, y1⟩, hq⟩ : ∃ q, q = Pl.su b.data.toList (x, y) := ⟨_, rfl⟩
            rw [← hq] at hm ⊢
            clear hq
            simp only at hm ⊢
            have hz := hide (next_whole hbs.out hp hb.out he.out)
            go_wp2
            go_round
            case rel => exact ⟨p + b.size, ByteArray.empty, hz.out.1, hz.out.2.1, hz.out.2.2.1, rfl, val_int (by rw [hz.out.2.2.2, ← hm.out]; simp), val_int (by rw [hz.out.2.2.2, ← hm.out]; simp)⟩
            case measure => exact h0
      · go_wp2
        obtain ⟨t, ht⟩ : ∃ t, t = b.extract 0 5552 := ⟨_, rfl⟩
        have hts : t.size = 5552 := by rw [ht, ext_size b 0 5552 (by omega) (by omega)]
        have hmin : min 5552 b.size = t.size := by omega
        have hlb : t.size ≤ b.size := by omega
        have hle : t.size ≤ 5552 := by omega
        have htp : 0 < t.size := by omega
        have hex : b.extract 0 t.size = t := by rw [hts, ← ht]
        have hs5' := next_part hbs.out hp hb.out he.out hlb
        rw [hex] at hs5'
        have hs5 := hide hs5'
        have hs6 := hide (ext_size b t.size b.size hlb (Nat.le_refl _))
        rw [hmin, ← ht]
        clear ht hts hmin hex hs5'
        go_loop [3, 4, 17] (fun x1 y1 i => ∃ k : Nat, k ≤ t.size ∧ i = .int .i64 k ∧ x1 = .int .u32 (Pl.su (t.data.toList.take k) (x, y)).1 ∧ y1 = .int .u32 (Pl.su (t.data.toList.take k) (x, y)).2) (fun _ _ i => t.size - (intOf i).toNat)
        case atStart => exact ⟨0, by omega, rfl, rfl, rfl⟩
        case round =>
          obtain ⟨k, hk, rfl, rfl, rfl⟩ := hrel
          by_cases hlt : k < t.size
          · have hn := Pl.su_snoc t.data.toList k (by rw [← Lib.size_eq]; exact hlt) (x, y)
            have hfit := Pl.su_fits (t.data.toList.take (k + 1)) (x, y) hx hy (Nat.le_trans (List.length_take_le _ _) (by omega))
            obtain ⟨⟨x1, y1⟩, hq⟩ : ∃ q, q = Pl.su (t.data.toList.take k) (x, y) := ⟨_, rfl⟩
            rw [← hq] at hn ⊢
            rw [hn] at hfit
            obtain ⟨c, hc⟩ : ∃ c, c = (t[k]'hlt).toNat := ⟨_, rfl⟩
            have hc1 : (t.data.toList[k]'(by rw [← Lib.size_eq]; exact hlt)).toNat = c := by rw [hc]; rfl
            have hc2 : (t[k]'hlt).toNat = c := hc.symm
            rw [hc1] at hn hfit
            simp only at hfit hn ⊢
            have hn' := hide hn
            have hf1 := hfit.1
            have hf2 := hfit.2
            have hcl : c < 256 := by rw [hc]; exact UInt8.toNat_lt _
            clear hn hfit hq hc1 hc
            go_wp2
            go_round
            case rel => exact ⟨k + 1, by omega, by go_num, val_int (by rw [hn'.out]; simp), val_int (by rw [hn'.out]; simp)⟩
            case measure => simp [intOf]; omega
          · obtain rfl : k = t.size := by omega
            rw [List.take_of_length_le (by rw [← Lib.size_eq]; exact Nat.le_refl _)]
            have hm := hide (Pl.su_mod t.data.toList (x, y) (x, y) rfl rfl hx hy)
            obtain ⟨⟨x1, y1⟩, hq⟩ : ∃ q, q = Pl.su t.data.toList (x, y) := ⟨_, rfl⟩
            rw [← hq] at hm ⊢
            clear hq
            simp only at hm ⊢
            have hz := hs5
            go_wp2
            go_round
            case rel => exact ⟨p + t.size, b.extract t.size b.size, hz.out.1, hz.out.2.1, hz.out.2.2.1, rfl, val_int (by rw [hz.out.2.2.2, ← hm.out]; simp), val_int (by rw [hz.out.2.2.2, ← hm.out]; simp)⟩
            case measure => have := hs6.out; show (b.extract t.size b.size).size < b.size; omega
    · have hps : p = s.size := by have := hbs.out; omega
      have hr := hide (joinHL y x (by omega) (by omega))
      go_wp2
      go_ret
      refine ⟨ret_int ?_, rfl⟩
      rw [hr.out, Pl.adler]
      have := he.out
      rw [hps, List.take_of_length_le (by rw [← Lib.size_eq]; exact Nat.le_refl _)] at this
      rw [← this]




/-- a frame's beginning: the number of bytes, and they -/
def head (l : List UInt8) : List UInt8 := Pl.low 4 l.length ++ l
/-- a frame -/
def frm (l : List UInt8) : List UInt8 := head l ++ Pl.low 4 (Pl.adler (head l))
theorem head_length (l : List UInt8) : (head l).length = 4 + l.length := by simp [head, Pl.low_length]
theorem frm_length (l : List UInt8) : (frm l).length = l.length + 8 := by simp [frm, head_length, Pl.low_length]; omega
theorem adler_lt (l : List UInt8) : Pl.adler l < 4294967296 := by
  have := Pl.ad_lt l (1, 0) (by omega) (by omega)
  unfold Pl.adler; omega

/-- what Frame answers -/
def frame (s : ByteArray) : ByteArray × Nat := if 65536 < s.size then (⟨#[]⟩, 2) else (⟨(frm s.data.toList).toArray⟩, 0)
abbrev frameV (s : ByteArray) : Value := .tuple #[.string (frame s).1, .int .i64 (frame s).2]
theorem frame_no {s : ByteArray} (h : 65536 < s.size) : Ending.returned (.tuple #[.string ⟨#[]⟩, .int .i64 2]) = .returned (frameV s) := by rw [frameV, frame, if_pos h]; rfl
theorem frame_yes {s : ByteArray} (h : ¬ 65536 < s.size) : Ending.returned (.tuple #[.string ⟨(frm s.data.toList).toArray⟩, .int .i64 0]) = .returned (frameV s) := by rw [frameV, frame, if_neg h]; rfl

set_option maxRecDepth 100000 in
set_option maxHeartbeats 1600000 in
theorem Frame_any (s : ByteArray) (w : World) (hs : s.size ≤ 140737488351232) :
    Calls Tryz.prog 44 #[.string s] w fun e w' => e = .returned (frameV s) ∧ Below w.heap.size w w' := by
  obtain ⟨i0, hi, hz0, hz1, hz2⟩ := info_parts u8_info
  by_cases hbig : 65536 < s.size
  · go_enter Tryz.func44, Tryz.ntmps44
    go_wp2
    go_ret2
    exact ⟨frame_no hbig, Below.refl _ _⟩
  · have hle : s.size ≤ 65536 := by omega
    have HL := hide (Lib.size_eq s)
    go_enter Tryz.func44, Tryz.ntmps44
    go_wp2_with (at_make; refine wpList_make_own _ rfl _ _ 121 rfl w.heap.size 5 i0 (.int .u8 0) 1 Tryz.underlying121 hi hz0 hz1 .i64 .i64 _ (s.size + 8) rfl rfl (by omega) (by rw [hz2]; omega) (by unfold maxLen; omega) (Nat.le_refl _) ?_)
    intro w1 hown1 hg1
    have hb1 : Below w.heap.size w w1 := (Below.refl _ _).grown hg1 (Nat.le_refl _) (by simp)
    have hz1' := hb1.size
    clear hg1
    go_wp2_with fail
    refine (putLow32_any w.heap.size _ 0 [] s.size 4 w1 (by omega) (by omega) (by omega) hz1' hown1).mono ?_
    rintro e w2 ⟨v2, rfl, hown2, _, hg2⟩
    have hb2 := own_below hz1' hb1 hown1 hg2
    have hz2' := hb2.size
    clear hown1 hg2 hb1
    rw [List.nil_append, Nat.zero_add] at hown2
    go_wp2_with (at_builtin; refine Lib.wpList_append_own_string _ rfl (.tmp 17) (.tmp 18) 121 9 rfl w.heap.size 5 i0 Tryz.underlying121 Tryz.underlying9 hi hz0 hz1 hz2 _ _ _ rfl hown2 _ rfl ?d3 ?d4 ?d5 ?_)
    case d3 => unfold maxLen; omega
    case d4 => omega
    case d5 => omega
    intro v3 w3 hown3 hg3 _
    have hb3 := own_below hz2' hb2 hown2 hg3
    have hz3 := hb3.size
    rw [bys_str] at hown3
    have hown3' : w3.ownsRow w.heap.size 5 1 v3 (4 + s.size) (bys (head s.data.toList)) := by rw [head, ← HL.out]; exact hown3
    have hcv3 := conv_own hown3'
    clear hown2 hg3 hb2 hown3
    go_wp2_with fail
    refine (Sum_any _ _ (by show (head s.data.toList).toArray.size ≤ _; rw [List.size_toArray, head_length, ← HL.out]; omega)).mono ?_
    rintro e w' ⟨rfl, rfl⟩
    clear hcv3
    have ha := adler_lt (head s.data.toList)
    go_wp2_with fail
    refine (putLow32_any w.heap.size _ (4 + s.size) (head s.data.toList) (Pl.adler (head s.data.toList)) 4 _ ha (by omega) (by omega) hz3 hown3').mono ?_
    rintro e w4 ⟨v4, rfl, hown4, _, hg4⟩
    have hb4 := own_below hz3 hb3 hown3' hg4
    have hcv4 := conv_own hown4
    clear hown3' hg4 hb3 hown4
    go_wp2
    go_ret2
    exact ⟨frame_yes hbig, hb4⟩




/-- the frame that bytes begin with: what is in it, how many bytes it takes, what is wrong -/
def unf (r : List UInt8) : List UInt8 × Nat × Nat :=
  if r.length < 4 then ([], 0, 11)
  else if 65536 < Pl.val (r.take 4) then ([], 0, 2)
  else if r.length < Pl.val (r.take 4) + 8 then ([], 0, 11)
  else if Pl.val ((r.drop (4 + Pl.val (r.take 4))).take 4) ≠ Pl.adler (r.take (4 + Pl.val (r.take 4))) then ([], 0, 10)
  else ((r.drop 4).take (Pl.val (r.take 4)), Pl.val (r.take 4) + 8, 0)

/-- what Unframe answers -/
def unframe (s : ByteArray) (p : Int) : ByteArray × Int × Int × Int :=
  if p < 0 ∨ (s.size : Int) < p then (⟨#[]⟩, 0, 0, 1)
  else if (unf (s.data.toList.drop p.toNat)).2.2 = 0 then (⟨(unf (s.data.toList.drop p.toNat)).1.toArray⟩, p + (unf (s.data.toList.drop p.toNat)).2.1, 0, 0)
  else (⟨#[]⟩, 0, p, (unf (s.data.toList.drop p.toNat)).2.2)
abbrev unframeV (s : ByteArray) (p : Int) : Value := .tuple #[.string (unframe s p).1, .int .i64 (unframe s p).2.1, .agg #[.int .i64 (unframe s p).2.2.1, .int .i64 (unframe s p).2.2.2]]

theorem unframe_bad {s : ByteArray} {q e : Nat} (hq : q ≤ s.size) (h : unf (s.data.toList.drop q) = ([], 0, e)) (he : e ≠ 0) : unframe s q = (⟨#[]⟩, 0, (q : Int), (e : Int)) := by
  rw [unframe, if_neg (by omega), Int.toNat_natCast, h, if_neg he]
theorem unframe_good {s : ByteArray} {q n : Nat} {l : List UInt8} (hq : q ≤ s.size) (h : unf (s.data.toList.drop q) = (l, n, 0)) : unframe s q = (⟨l.toArray⟩, (q : Int) + n, 0, 0) := by
  rw [unframe, if_neg (by omega), Int.toNat_natCast, h, if_pos rfl]

set_option maxRecDepth 100000 in
set_option maxHeartbeats 1600000 in
theorem Unframe_any (s : ByteArray) (p : Int) (w : World) (hs : s.size ≤ 4611686018427387904) (hp1 : -9223372036854775808 ≤ p) (hp2 : p ≤ 9223372036854775807) :
    Calls Tryz.prog 75 #[.string s, .int .i64 p] w fun e w' => e = .returned (unframeV s p) ∧ Below w.heap.size w w' := by
  by_cases hneg : p < 0
  · have HR := hide (show unframe s p = (⟨#[]⟩, 0, 0, 1) from by rw [unframe, if_pos (Or.inl hneg)])
    go_enter Tryz.func75, Tryz.ntmps75
    go_wp2
    rw [unframeV, HR.out]
    exact bodyPost_ret (v := .tuple #[.string ⟨#[]⟩, .int .i64 0, .agg #[.int .i64 0, .int .i64 1]]) (by simp [results, Tryz.results75, go_sem]) rfl ⟨rfl, (Below.refl _ _).alloc (Nat.le_refl _) _⟩
  · by_cases hbig : (s.size : Int) < p
    · have HR := hide (show unframe s p = (⟨#[]⟩, 0, 0, 1) from by rw [unframe, if_pos (Or.inr hbig)])
      go_enter Tryz.func75, Tryz.ntmps75
      go_wp2
      rw [unframeV, HR.out]
      exact bodyPost_ret (v := .tuple #[.string ⟨#[]⟩, .int .i64 0, .agg #[.int .i64 0, .int .i64 1]]) (by simp [results, Tryz.results75, go_sem]) rfl ⟨rfl, (Below.refl _ _).alloc (Nat.le_refl _) _⟩
    · obtain ⟨q, rfl⟩ := Int.eq_ofNat_of_zero_le (show 0 ≤ p by omega)
      have hq : q ≤ s.size := by omega
      have hrs := ext_size s q s.size hq (Nat.le_refl _)
      have hdr : (s.extract q s.size).data.toList = s.data.toList.drop q := by
        rw [Lib.extract_data, List.take_of_length_le]; rw [List.length_drop, ← Lib.size_eq]; exact Nat.le_refl _
      have HRL : Hid ((s.data.toList.drop q).length = s.size - q) := by show _ = _; rw [List.length_drop, ← Lib.size_eq]
      by_cases h4 : s.size - q < 4
      · have HR := hide (show unf (s.data.toList.drop q) = ([], 0, 11) from by rw [unf, if_pos (by rw [HRL.out]; exact h4)])
        clear hdr
        go_enter Tryz.func75, Tryz.ntmps75
        go_wp2
        rw [unframeV, unframe_bad hq HR.out (by decide)]
        exact bodyPost_ret (v := .tuple #[.string ⟨#[]⟩, .int .i64 0, .agg #[.int .i64 q, .int .i64 11]]) (by simp [results, Tryz.results75, go_sem]) rfl ⟨rfl, (Below.refl _ _).alloc (Nat.le_refl _) _⟩
      · have Hd := hide hdr
        clear hdr
        go_enter Tryz.func75, Tryz.ntmps75
        go_wp2_with fail
        generalize s.extract q s.size = r at *
        rw [← hrs]
        refine (getLow32_any (r.extract 0 4) _ (by rw [ext_size r 0 4 (by omega) (by omega)]; omega)).mono ?_
        rintro e w' ⟨rfl, rfl⟩
        rw [Lib.extract_data, List.drop_zero, Nat.sub_zero]
        have hn32 : Pl.val (r.data.toList.take 4) < 4294967296 := Nat.lt_of_lt_of_le (Pl.val_lt _) (by rw [List.length_take]; exact Nat.pow_le_pow_right (by omega) (Nat.min_le_left _ _))
        have hrl : r.data.toList.length = r.size := (Lib.size_eq r).symm
        have HU2 : Hid (unf (s.data.toList.drop q) = unf r.data.toList) := by show _ = _; rw [Hd.out]
        rw [unf.eq_1 r.data.toList, if_neg (by omega), hrl] at HU2
        obtain ⟨n, hn⟩ : ∃ n, n = Pl.val (r.data.toList.take 4) := ⟨_, rfl⟩
        rw [← hn] at HU2 hn32 ⊢
        have hr4 : 4 ≤ r.size := by omega
        have hrle : r.size ≤ 4611686018427387904 := by omega
        clear hn Hd hrl HRL h4
        by_cases h5 : 65536 < n
        · rw [if_pos h5] at HU2
          go_wp2
          rw [unframeV, unframe_bad hq HU2.out (by decide)]
          exact bodyPost_ret (v := .tuple #[.string ⟨#[]⟩, .int .i64 0, .agg #[.int .i64 q, .int .i64 2]]) (by simp [results, Tryz.results75, go_sem]) rfl ⟨rfl, (Below.refl _ _).alloc (Nat.le_refl _) _⟩
        · rw [if_neg h5] at HU2
          by_cases h6 : r.size < n + 8
          · rw [if_pos h6] at HU2
            go_wp2
            rw [unframeV, unframe_bad hq HU2.out (by decide)]
            exact bodyPost_ret (v := .tuple #[.string ⟨#[]⟩, .int .i64 0, .agg #[.int .i64 q, .int .i64 11]]) (by simp [results, Tryz.results75, go_sem]) rfl ⟨rfl, (Below.refl _ _).alloc (Nat.le_refl _) _⟩
          · rw [if_neg h6] at HU2
            have i1 : (0 : Int) ≤ 4 + (n : Int) := by omega
            have i2 : (4 : Int) + n ≤ 4 + n + 4 := by omega
            have i3 : (4 : Int) + n + 4 ≤ (r.size : Int) := by omega
            go_wp2
            go_quiet ((first | (go_at_call 110; exact Calls.quiet_of_same (getLow32_any _ _ (by rw [ext_size r _ _ (by omega) (by omega)]; omega))) | (go_at_call 85; exact Calls.quiet_of_same (Sum_any _ _ (by rw [ext_size r _ _ (by omega) (by omega)]; omega)))))
            rw [Lib.extract_data, Lib.extract_data, List.drop_zero, Nat.sub_zero]
            have e4 : 4 + n + 4 - (4 + n) = 4 := by omega
            rw [e4]
            by_cases h7 : Pl.val ((r.data.toList.drop (4 + n)).take 4) = Pl.adler (r.data.toList.take (4 + n))
            · rw [if_neg (by simpa using h7)] at HU2
              rw [h7]
              clear h7
              have bq : (((Pl.adler (r.data.toList.take (4 + n)) : Nat) : Int) != ((Pl.adler (r.data.toList.take (4 + n)) : Nat) : Int)) = false := by simp
              clear i1 i2 e4
              go_wp2_with fail
              obtain ⟨W, hW⟩ : ∃ W, W = (w.alloc (Obj.cells #[Value.int IntKind.i64 0, Value.int IntKind.i64 0] 133)).drewN nq := ⟨_, rfl⟩
              have hb0 : Below w.heap.size w W := by rw [hW]; exact below_box _ _ _
              have hWs : W.heap.size = w.heap.size + 1 := by rw [hW]; simp
              have c0 : W.cell? ⟨w.heap.size, 0, none⟩ = some (.int .i64 0) := by rw [hW]; simp
              have c1 : W.cell? ⟨w.heap.size, 1, none⟩ = some (.int .i64 0) := by rw [hW]; simp
              have f0 : W.frozen? ⟨w.heap.size, 0, none⟩ = false := by rw [hW]; simp
              have f1 : W.frozen? ⟨w.heap.size, 1, none⟩ = false := by rw [hW]; simp
              rw [← hW]
              clear hW
              refine (clone_any (r.extract 4 (4 + n)) W (by rw [ext_size r _ _ (by omega) (by omega)]; omega)).mono ?_
              rintro e w1 ⟨rfl, hb1⟩
              have c0' := (hb1.cell (p := ⟨w.heap.size, 0, none⟩) (by simp; omega)).trans c0
              have c1' := (hb1.cell (p := ⟨w.heap.size, 1, none⟩) (by simp; omega)).trans c1
              have f0' := (hb1.frozen (p := ⟨w.heap.size, 0, none⟩) (by simp; omega)).trans f0
              have f1' := (hb1.frozen (p := ⟨w.heap.size, 1, none⟩) (by simp; omega)).trans f1
              have hb2 := hb0.trans (hb1.mono (by omega))
              have hbody : r.extract 4 (4 + n) = ⟨((r.data.toList.drop 4).take n).toArray⟩ := by rw [Lib.extract_eq, show 4 + n - 4 = n from by omega]
              have HB := hide hbody
              clear hb1 hb0 c0 c1 f0 f1 hWs hbody
              go_wp2
              rw [unframeV, unframe_good hq HU2.out, ← HB.out]
              exact bodyPost_ret (v := .tuple #[.string (r.extract 4 (4 + n)), .int .i64 ((q : Int) + (n + 8 : Nat)), .agg #[.int .i64 0, .int .i64 0]]) (by simp [results, Tryz.results75, go_sem, c0', c1']; omega) rfl ⟨rfl, (hb2.setCell (Nat.le_refl _) _).setCell (Nat.le_refl _) _⟩
            · rw [if_pos h7] at HU2
              generalize Pl.val ((r.data.toList.drop (4 + n)).take 4) = a at *
              generalize Pl.adler (r.data.toList.take (4 + n)) = b at *
              have bq : ((a : Int) != (b : Int)) = true := by rw [bne_iff_ne]; omega
              go_wp2
              rw [unframeV, unframe_bad hq HU2.out (by decide)]
              exact bodyPost_ret (v := .tuple #[.string ⟨#[]⟩, .int .i64 0, .agg #[.int .i64 q, .int .i64 10]]) (by simp [results, Tryz.results75, go_sem]) rfl ⟨rfl, by first | exact below_box _ _ _ | exact ((below_box _ _ _).setCell (Nat.le_refl _) _).setCell (Nat.le_refl _) _⟩




/-- from a place on, behind the frames that were found -/
def framesF (s : ByteArray) : Nat → Nat → List ByteArray → List ByteArray × Nat
  | 0, p, l => (l, p)
  | f + 1, p, l =>
    if (unf (s.data.toList.drop p)).2.2 ≠ 0 then (l, p)
    else framesF s f (p + (unf (s.data.toList.drop p)).2.1) (l ++ [⟨(unf (s.data.toList.drop p)).1.toArray⟩])
/-- what Frames answers -/
def frames (s : ByteArray) : List ByteArray × Nat := framesF s (s.size + 1) 0 []

theorem unf_ok {r : List UInt8} (h : (unf r).2.2 = 0) : 8 ≤ (unf r).2.1 ∧ (unf r).2.1 ≤ r.length := by
  unfold unf at h ⊢
  by_cases h1 : r.length < 4
  · rw [if_pos h1] at h; simp at h
  · rw [if_neg h1] at h ⊢
    by_cases h2 : 65536 < Pl.val (r.take 4)
    · rw [if_pos h2] at h; simp at h
    · rw [if_neg h2] at h ⊢
      by_cases h3 : r.length < Pl.val (r.take 4) + 8
      · rw [if_pos h3] at h; simp at h
      · rw [if_neg h3] at h ⊢
        by_cases h4 : Pl.val ((r.drop (4 + Pl.val (r.take 4))).take 4) ≠ Pl.adler (r.take (4 + Pl.val (r.take 4)))
        · rw [if_pos h4] at h; simp at h
        · rw [if_neg h4]; simp only; omega
theorem drop_len (s : ByteArray) (p : Nat) : (s.data.toList.drop p).length = s.size - p := by rw [List.length_drop, ← Lib.size_eq]
theorem framesF_end {s : ByteArray} {f p : Nat} {l : List ByteArray} {D : List ByteArray × Nat} (h : framesF s f p l = D) (hf : s.size < p + f) (hp : p ≤ s.size) (he : (unf (s.data.toList.drop p)).2.2 ≠ 0) : D = (l, p) := by
  cases f with
  | zero => omega
  | succ f => rw [framesF, if_pos he] at h; exact h.symm
theorem framesF_next {s : ByteArray} {f p : Nat} {l : List ByteArray} {D : List ByteArray × Nat} (h : framesF s f p l = D) (hf : s.size < p + f) (hp : p ≤ s.size) (he : (unf (s.data.toList.drop p)).2.2 = 0) :
    ∃ f', s.size < p + (unf (s.data.toList.drop p)).2.1 + f' ∧ framesF s f' (p + (unf (s.data.toList.drop p)).2.1) (l ++ [⟨(unf (s.data.toList.drop p)).1.toArray⟩]) = D := by
  cases f with
  | zero => omega
  | succ f => rw [framesF, if_neg (by simp [he])] at h; exact ⟨f, by have := (unf_ok he).1; omega, h⟩


end Go.Proofs.YtgfmnffaknmcnaaGreatDoor
