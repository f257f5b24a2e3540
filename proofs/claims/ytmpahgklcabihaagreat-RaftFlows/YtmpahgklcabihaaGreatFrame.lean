/- The walk over frame.go: Frame. -/
import Derived.Test.YtmpahgklcabihaaGreatSum
namespace Go.Proofs.YtmpahgklcabihaaGreat
open Go.RowKit

/-- a frame's beginning: the number of bytes, and they -/
def head (l : List UInt8) : List UInt8 := Pl.low 4 l.length ++ l
/-- a frame -/
def frm (l : List UInt8) : List UInt8 := head l ++ Pl.low 4 (Pl.adler (head l))
theorem head_length (l : List UInt8) : (head l).length = 4 + l.length := by simp [head, Pl.low_length]
theorem frm_length (l : List UInt8) : (frm l).length = l.length + 8 := by simp [frm, head_length, Pl.low_length]; omega
theorem adler_lt (l : List UInt8) : Pl.adler l < 4294967296 := by
  have := Pl.ad_lt l (1, 0) (by omega) (by omega)
  unfold Pl.adler; omega

/-- what Frame answers -/
def frame (s : ByteArray) : ByteArray × Nat := if 65536 < s.size then (⟨#[]⟩, 2) else (⟨(frm s.data.toList).toArray⟩, 0)
abbrev frameV (s : ByteArray) : Value := .tuple #[.string (frame s).1, .int .i64 (frame s).2]
theorem frame_no {s : ByteArray} (h : 65536 < s.size) : Ending.returned (.tuple #[.string ⟨#[]⟩, .int .i64 2]) = .returned (frameV s) := by rw [frameV, frame, if_pos h]; rfl
theorem frame_yes {s : ByteArray} (h : ¬ 65536 < s.size) : Ending.returned (.tuple #[.string ⟨(frm s.data.toList).toArray⟩, .int .i64 0]) = .returned (frameV s) := by rw [frameV, frame, if_neg h]; rfl

set_option maxRecDepth 100000 in
set_option maxHeartbeats 1600000 in
theorem Frame_any (s : ByteArray) (w : World) (hs : s.size ≤ 140737488351232) :
    Calls Tryz.prog 234 #[.string s] w fun e w' => e = .returned (frameV s) ∧ Below w.heap.size w w' := by
  obtain ⟨i0, hi, hz0, hz1, hz2⟩ := info_parts u8_info
  by_cases hbig : 65536 < s.size
  · go_enter Tryz.func234, Tryz.ntmps234
    go_wp2
    go_ret2
    exact ⟨frame_no hbig, Below.refl _ _⟩
  · have hle : s.size ≤ 65536 := by omega
    have HL := hide (Lib.size_eq s)
    go_enter Tryz.func234, Tryz.ntmps234
    go_wp2_with (at_make; refine wpList_make_own _ rfl _ _ 64 rfl w.heap.size 5 i0 (.int .u8 0) 1 Tryz.underlying64 hi hz0 hz1 .i64 .i64 _ (s.size + 8) rfl rfl (by omega) (by rw [hz2]; omega) (by unfold maxLen; omega) (Nat.le_refl _) ?_)
    intro w1 hown1 hg1
    have hb1 : Below w.heap.size w w1 := (Below.refl _ _).grown hg1 (Nat.le_refl _) (by simp)
    have hz1' := hb1.size
    clear hg1
    go_wp2_with fail
    refine (putLow32_any w.heap.size _ 0 [] s.size 4 w1 (by omega) (by omega) (by omega) hz1' hown1).mono ?_
    rintro e w2 ⟨v2, rfl, hown2, _, hg2⟩
    have hb2 := own_below hz1' hb1 hown1 hg2
    have hz2' := hb2.size
    clear hown1 hg2 hb1
    rw [List.nil_append, Nat.zero_add] at hown2
    go_wp2_with (at_builtin; refine Lib.wpList_append_own_string _ rfl (.tmp 17) (.tmp 18) 64 9 rfl w.heap.size 5 i0 Tryz.underlying64 Tryz.underlying9 hi hz0 hz1 hz2 _ _ _ rfl hown2 _ rfl ?d3 ?d4 ?d5 ?_)
    case d3 => unfold maxLen; omega
    case d4 => omega
    case d5 => omega
    intro v3 w3 hown3 hg3 _
    have hb3 := own_below hz2' hb2 hown2 hg3
    have hz3 := hb3.size
    rw [bys_str] at hown3
    have hown3' : w3.ownsRow w.heap.size 5 1 v3 (4 + s.size) (bys (head s.data.toList)) := by rw [head, ← HL.out]; exact hown3
    have hcv3 := conv_own hown3'
    clear hown2 hg3 hb2 hown3
    go_wp2_with fail
    refine (Sum_any _ _ (by show (head s.data.toList).toArray.size ≤ _; rw [List.size_toArray, head_length, ← HL.out]; omega)).mono ?_
    rintro e w' ⟨rfl, rfl⟩
    clear hcv3
    have ha := adler_lt (head s.data.toList)
    go_wp2_with fail
    refine (putLow32_any w.heap.size _ (4 + s.size) (head s.data.toList) (Pl.adler (head s.data.toList)) 4 _ ha (by omega) (by omega) hz3 hown3').mono ?_
    rintro e w4 ⟨v4, rfl, hown4, _, hg4⟩
    have hb4 := own_below hz3 hb3 hown3' hg4
    have hcv4 := conv_own hown4
    clear hown3' hg4 hb3 hown4
    go_wp2
    go_ret2
    exact ⟨frame_yes hbig, hb4⟩

end Go.Proofs.YtmpahgklcabihaaGreat
