/- Walks over code.go: mayBe, longOf, Encode. -/
import Derived.Test.YtmpahgklcabihaaGreatWrite
import Derived.Deep.DrawnRows
import Derived.Lib.Strings
namespace Go.Proofs.YtmpahgklcabihaaGreat
open Go.RowKit

/-- a field, as plain data -/
structure Fld where
  text : Bool
  n : Int
  s : ByteArray

def Fld.may (x : Fld) : Bool := if x.text then x.n == 0 else x.s.size == 0
abbrev Fld.cell (x : Fld) : Value := .agg #[.bool x.text, .int .i64 x.n, .string x.s]

/-- the fields lie behind an address -/
def liesAt (w : World) (b off : Nat) (fs : List Fld) : Prop :=
  ∀ i (h : i < fs.length), w.cell? ⟨b, off + i * 3, none⟩ = some (.bool fs[i].text) ∧ w.cell? ⟨b, off + i * 3 + 1, none⟩ = some (.int .i64 fs[i].n) ∧ w.cell? ⟨b, off + i * 3 + 2, none⟩ = some (.string fs[i].s)

theorem str_empty (s : ByteArray) : s.toList.isEmpty = (s.size == 0) := by
  rw [Lib.toList_data, Lib.size_eq]
  cases s.data.toList <;> simp

set_option maxRecDepth 100000 in
set_option maxHeartbeats 400000 in
theorem mayBe_any (x : Fld) (w : World) :
    Calls Tryz.prog 169 #[.agg #[.bool x.text, .int .i64 x.n, .string x.s]] w fun e w' => e = .returned (.bool x.may) ∧ Below w.heap.size w w' := by
  obtain ⟨t, n, s⟩ := x
  cases t
  · go_enter Tryz.func169, Tryz.ntmps169
    go_wp2
    go_ret
    exact ⟨by rw [str_empty]; rfl, (Below.refl _ _).alloc (Nat.le_refl _) _⟩
  · go_enter Tryz.func169, Tryz.ntmps169
    go_wp2
    go_ret
    exact ⟨rfl, (Below.refl _ _).alloc (Nat.le_refl _) _⟩


attribute [local go_sem ↓] Go.wp_at_zero Go.wp_at_succ

/-- a variable of three cells -/
theorem box3 {B : Nat} {w wr : World} (hb : Below B w wr) (hB : B ≤ wr.heap.size) (x y z : Value) (t : TypeId) :
    ∃ W, W = wr.alloc (.cells #[x, y, z] t) ∧ W.cell? ⟨wr.heap.size, 0, none⟩ = some x ∧ W.cell? ⟨wr.heap.size, 1, none⟩ = some y ∧ W.cell? ⟨wr.heap.size, 2, none⟩ = some z ∧ wr.heap.size < W.heap.size ∧ Below B w W :=
  ⟨_, rfl, by simp, by simp, by simp, by simp, hb.alloc hB _⟩

/-- a cell of the call's own, and what lies below -/
abbrev Sat (B H : Nat) (w : World) (o : Nat) (c : Value) (w' : World) : Prop := w'.cell? ⟨H, o, none⟩ = some c ∧ H < w'.heap.size ∧ Below B w w'
theorem Sat.call {B H : Nat} {w : World} {o : Nat} {c : Value} {a b : World} (hb : Below a.heap.size a b) (hB : B ≤ H) (h : Sat B H w o c a) : Sat B H w o c b :=
  ⟨(hb.cell (p := ⟨H, o, none⟩) h.2.1).trans h.1, Nat.lt_of_lt_of_le h.2.1 hb.size, h.2.2.trans (hb.mono (by have := h.2.1; omega))⟩
theorem Sat.drew {B H : Nat} {w : World} {o : Nat} {c : Value} {a : World} (h : Sat B H w o c a) : Sat B H w o c a.drew := ⟨by simpa using h.1, h.2.1, h.2.2.drew⟩

/-- a field's bytes -/
def enc (x : Fld) : List UInt8 := if x.text then fld 84 x.s.size x.s.data.toList else fld 78 (u64 x.n) []
theorem enc_text (n : Int) (s : ByteArray) : enc ⟨true, n, s⟩ = fld 84 s.size s.data.toList := rfl
theorem enc_num (n : Int) (s : ByteArray) : enc ⟨false, n, s⟩ = fld 78 (u64 n) [] := rfl
theorem enc_text_length (n : Int) (s : ByteArray) : (enc ⟨true, n, s⟩).length = 2 + Pl.wd s.size + s.size := by rw [enc_text, fld_length]; simp
theorem enc_num_length (n : Int) (s : ByteArray) : (enc ⟨false, n, s⟩).length = 2 + Pl.wd (u64 n) := by rw [enc_num, fld_length]; simp
/-- a list's bytes -/
def encs (l : List Fld) : List UInt8 := l.flatMap enc
theorem encs_snoc (l : List Fld) (k : Nat) (h : k < l.length) : encs (l.take (k + 1)) = encs (l.take k) ++ enc l[k] := by
  unfold encs; rw [List.take_succ_eq_append_getElem h, List.flatMap_append]; simp
theorem encs_split (l : List Fld) (k : Nat) : encs l = encs (l.take k) ++ encs (l.drop k) := by
  rw [encs, encs, encs, ← List.flatMap_append, List.take_append_drop]
theorem encs_take_le (l : List Fld) (k : Nat) : (encs (l.take k)).length ≤ (encs l).length := by
  rw [encs_split l k, List.length_append]; omega

/-- the fields of a slice lie behind its address -/
def Lies (w : World) (a : Option Addr) (fs : List Fld) : Prop := fs = [] ∨ ∃ b off, a = some ⟨b, off, none⟩ ∧ b < w.heap.size ∧ liesAt w b off fs
theorem Lies.at {w wr : World} {a : Option Addr} {fs : List Fld} (h : Lies w a fs) (k : Nat) (hk : k < fs.length) (hb : Below w.heap.size w wr) :
    ∃ b off, a = some ⟨b, off, none⟩ ∧ wr.cell? ⟨b, off + k * 3, none⟩ = some (.bool fs[k].text) ∧ wr.cell? ⟨b, off + k * 3 + 1, none⟩ = some (.int .i64 fs[k].n) ∧ wr.cell? ⟨b, off + k * 3 + 2, none⟩ = some (.string fs[k].s) := by
  rcases h with rfl | ⟨b, off, rfl, hlt, hl⟩
  · simp at hk
  · obtain ⟨c0, c1, c2⟩ := hl k hk
    exact ⟨b, off, rfl, (hb.cell (p := ⟨b, off + k * 3, none⟩) hlt).trans c0, (hb.cell (p := ⟨b, off + k * 3 + 1, none⟩) hlt).trans c1, (hb.cell (p := ⟨b, off + k * 3 + 2, none⟩) hlt).trans c2⟩

theorem Lies.later {w wr : World} {a : Option Addr} {fs : List Fld} (h : Lies w a fs) (hb : Below w.heap.size w wr) : Lies wr a fs := by
  rcases h with rfl | ⟨b, off, rfl, hlt, hl⟩
  · exact Or.inl rfl
  · refine Or.inr ⟨b, off, rfl, Nat.lt_of_lt_of_le hlt hb.size, fun k hk => ?_⟩
    obtain ⟨c0, c1, c2⟩ := hl k hk
    exact ⟨(hb.cell (p := ⟨b, off + k * 3, none⟩) hlt).trans c0, (hb.cell (p := ⟨b, off + k * 3 + 1, none⟩) hlt).trans c1, (hb.cell (p := ⟨b, off + k * 3 + 2, none⟩) hlt).trans c2⟩

/-- what longOf tells -/
def longs (l : List Fld) : Value := if (encs l).length ≤ 262144 then .tuple #[.int .i64 (encs l).length, .bool true] else .tuple #[.int .i64 0, .bool false]

theorem longs_no {l : List Fld} (h : 262144 < (encs l).length) : Ending.returned (.tuple #[.int .i64 0, .bool false]) = .returned (longs l) := by rw [longs, if_neg (by omega)]
theorem longs_yes {l : List Fld} (h : (encs l).length ≤ 262144) : Ending.returned (.tuple #[.int .i64 (encs l).length, .bool true]) = .returned (longs l) := by rw [longs, if_pos h]

set_option maxRecDepth 100000 in
set_option maxHeartbeats 1600000 in
theorem longOf_any (a : Option Addr) (cap : Nat) (fs : List Fld) (w : World) (hl : Lies w a fs) (hn : fs.length ≤ 4096) (hsz : ∀ x ∈ fs, x.s.size ≤ 140737488351232) :
    Calls Tryz.prog 170 #[.slice a fs.length cap] w fun e w' => e = .returned (longs fs) ∧ Below w.heap.size w w' := by
  go_enter Tryz.func170, Tryz.ntmps170
  go_wp2
  go_loopw [4, 9] (fun t i wr => ∃ k : Nat, k ≤ fs.length ∧ i = .int .i64 k ∧ t = .int .i64 (encs (fs.take k)).length ∧ (encs (fs.take k)).length ≤ 262144 ∧ Below w.heap.size w wr) (fun _ i _ => fs.length - (intOf i).toNat)
  case atStart => exact ⟨0, by omega, rfl, rfl, by simp [encs], Below.refl _ _⟩
  case round =>
    obtain ⟨k, hk, rfl, rfl, hq, hbel⟩ := hrel
    by_cases hlt : k < fs.length
    · obtain ⟨b, off, rfl, c0', c1', c2'⟩ := hl.at k hlt hbel
      have HE : Hid ((encs (fs.take (k + 1))).length = (encs (fs.take k)).length + (enc fs[k]).length) := by show _ = _; rw [encs_snoc fs k hlt]; simp
      have HL : Hid ((encs (fs.take (k + 1))).length ≤ (encs fs).length) := encs_take_le fs (k + 1)
      have hwr := hbel.size
      have hs' := hsz fs[k] (List.getElem_mem hlt)
      obtain ⟨q, Hq⟩ : ∃ q, q = (encs (fs.take k)).length := ⟨_, rfl⟩
      rw [← Hq] at HE hq ⊢
      clear Hq
      generalize fs[k] = x at *
      obtain ⟨t, n, s⟩ := x
      cases t
      · rw [enc_num_length] at HE
        have h8 := Pl.wd_le (u64 n)
        go_wp2_with fail
        obtain ⟨W, hW, d0, d1, d2, hsz1, hbel1⟩ := box3 hbel hwr (.bool false) (.int .i64 n) (.string s) 120
        rw [← hW]
        clear hW
        have hS : Sat w.heap.size wr.heap.size w 1 (.int .i64 n) W := ⟨d1, hsz1, hbel1⟩
        clear d0 d1 d2 c0' c1' c2' hbel1 hsz1
        go_region_held3 (Sat w.heap.size wr.heap.size w 1 (.int .i64 n)) (first | exact Sat.call (by assumption) hwr (by assumption) | exact Sat.drew (by assumption))
          (first | (go_at_call 174; refine (numbers_any _).mono ?_; rintro e w1 ⟨rfl, hb1⟩) | (go_at_call 208; refine (sizeN_any _ _).mono ?_; rintro e w2 ⟨rfl, hb2⟩))
        have hb3 : Sat w.heap.size wr.heap.size w 1 (.int .i64 n) w2 := by assumption
        have hbel2 := hb3.2.2
        clear hb3 hS hb1 hb2
        go_wp2
        · go_ret2
          have h2 : 262144 < (q : Int) + (2 + (Pl.wd (u64 n) : Int)) := by assumption
          exact ⟨longs_no (by have := HE.out; have := HL.out; omega), hbel2⟩
        · go_roundw
          case rel =>
            have h2 : (q : Int) + (2 + (Pl.wd (u64 n) : Int)) ≤ 262144 := by assumption
            exact ⟨k + 1, by omega, by go_num, val_int (by rw [HE.out, IntKind.wrap_i64]; omega), by have := HE.out; omega, hbel2⟩
          case measure => simp [intOf]; omega
      · rw [enc_text_length] at HE
        have h8 := Pl.wd_le (s.size)
        go_wp2_with fail
        obtain ⟨W, hW, d0, d1, d2, hsz1, hbel1⟩ := box3 hbel hwr (.bool true) (.int .i64 n) (.string s) 120
        rw [← hW]
        clear hW
        have hS : Sat w.heap.size wr.heap.size w 2 (.string s) W := ⟨d2, hsz1, hbel1⟩
        clear d0 d1 d2 c0' c1' c2' hbel1 hsz1
        go_region_held3 (Sat w.heap.size wr.heap.size w 2 (.string s)) (first | exact Sat.call (by assumption) hwr (by assumption) | exact Sat.drew (by assumption))
          (first | (go_at_call 172; refine (texts_any _).mono ?_; rintro e w1 ⟨rfl, hb1⟩) | (go_at_call 207; refine (sizeT_any _ _ hs').mono ?_; rintro e w2 ⟨rfl, hb2⟩))
        have hb3 : Sat w.heap.size wr.heap.size w 2 (.string s) w2 := by assumption
        have hbel2 := hb3.2.2
        clear hb3 hS hb1 hb2
        go_wp2
        · go_ret2
          have h2 : 262144 < (q : Int) + (2 + (Pl.wd s.size : Int) + (s.size : Int)) := by assumption
          exact ⟨longs_no (by have := HE.out; have := HL.out; omega), hbel2⟩
        · go_roundw
          case rel =>
            have h2 : (q : Int) + (2 + (Pl.wd s.size : Int) + (s.size : Int)) ≤ 262144 := by assumption
            exact ⟨k + 1, by omega, by go_num, val_int (by rw [HE.out, IntKind.wrap_i64]; omega), by have := HE.out; omega, hbel2⟩
          case measure => simp [intOf]; omega
    · have hkl : k = fs.length := by omega
      subst hkl
      go_wp2
      go_ret2
      rw [List.take_length] at hq ⊢
      exact ⟨longs_yes hq, hbel⟩

end Go.Proofs.YtmpahgklcabihaaGreat
