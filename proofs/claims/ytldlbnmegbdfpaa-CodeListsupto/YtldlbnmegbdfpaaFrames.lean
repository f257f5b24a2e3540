/- The walk over frame.go: Frames. -/
import Derived.Test.YtldlbnmegbdfpaaUnframe
import Derived.Test.YtldlbnmegbdfpaaDec
namespace Go.Proofs.Ytldlbnmegbdfpaa
open Go.RowKit

/-- from a place on, behind the frames that were found -/
def framesF (s : ByteArray) : Nat → Nat → List ByteArray → List ByteArray × Nat
  | 0, p, l => (l, p)
  | f + 1, p, l =>
    if (unf (s.data.toList.drop p)).2.2 ≠ 0 then (l, p)
    else framesF s f (p + (unf (s.data.toList.drop p)).2.1) (l ++ [⟨(unf (s.data.toList.drop p)).1.toArray⟩])
/-- what Frames answers -/
def frames (s : ByteArray) : List ByteArray × Nat := framesF s (s.size + 1) 0 []

def tcells (l : List ByteArray) : List Value := l.map Value.string
theorem tcells_snoc (l : List ByteArray) (x : ByteArray) : tcells (l ++ [x]) = tcells l ++ [.string x] := by simp [tcells]
theorem str_info : (Try.prog.info? 9).map (fun i => (i.zero, i.size, i.bytes)) = some (some (.string ⟨#[]⟩), 1, 16) := by kernel_rfl

theorem unf_ok {r : List UInt8} (h : (unf r).2.2 = 0) : 8 ≤ (unf r).2.1 ∧ (unf r).2.1 ≤ r.length := by
  unfold unf at h ⊢
  by_cases h1 : r.length < 4
  · rw [if_pos h1] at h; simp at h
  · rw [if_neg h1] at h ⊢
    by_cases h2 : 65536 < Pl.val (r.take 4)
    · rw [if_pos h2] at h; simp at h
    · rw [if_neg h2] at h ⊢
      by_cases h3 : r.length < Pl.val (r.take 4) + 8
      · rw [if_pos h3] at h; simp at h
      · rw [if_neg h3] at h ⊢
        by_cases h4 : Pl.val ((r.drop (4 + Pl.val (r.take 4))).take 4) ≠ Pl.adler (r.take (4 + Pl.val (r.take 4)))
        · rw [if_pos h4] at h; simp at h
        · rw [if_neg h4]; simp only; omega
theorem drop_len (s : ByteArray) (p : Nat) : (s.data.toList.drop p).length = s.size - p := by rw [List.length_drop, ← Lib.size_eq]
theorem framesF_end {s : ByteArray} {f p : Nat} {l : List ByteArray} {D : List ByteArray × Nat} (h : framesF s f p l = D) (hf : s.size < p + f) (hp : p ≤ s.size) (he : (unf (s.data.toList.drop p)).2.2 ≠ 0) : D = (l, p) := by
  cases f with
  | zero => omega
  | succ f => rw [framesF, if_pos he] at h; exact h.symm
theorem framesF_next {s : ByteArray} {f p : Nat} {l : List ByteArray} {D : List ByteArray × Nat} (h : framesF s f p l = D) (hf : s.size < p + f) (hp : p ≤ s.size) (he : (unf (s.data.toList.drop p)).2.2 = 0) :
    ∃ f', s.size < p + (unf (s.data.toList.drop p)).2.1 + f' ∧ framesF s f' (p + (unf (s.data.toList.drop p)).2.1) (l ++ [⟨(unf (s.data.toList.drop p)).1.toArray⟩]) = D := by
  cases f with
  | zero => omega
  | succ f => rw [framesF, if_neg (by simp [he])] at h; exact ⟨f, by have := (unf_ok he).1; omega, h⟩

set_option maxHeartbeats 1600000 in
theorem Frames_any (s : ByteArray) (w : World) (hs : s.size ≤ 4000000) :
    Calls Try.prog 22 #[.string s] w fun e w' => ∃ v, e = .returned (.tuple #[v, .int .i64 (frames s).2]) ∧ w'.ownsRow w.heap.size 9 1 v (frames s).1.length (tcells (frames s).1) ∧ Below w.heap.size w w' := by
  obtain ⟨i0, hi, hz0, hz1, hz2⟩ := info_parts str_info
  obtain ⟨D, hD⟩ : ∃ D, D = frames s := ⟨_, rfl⟩
  have HD : Hid (framesF s (s.size + 1) 0 [] = D) := by show _ = _; rw [hD, frames]
  rw [← hD]
  clear hD
  go_enter Try.func22, Try.ntmps22
  go_wp2
  go_loopw [2, 3] (fun v i wr => ∃ (p f : Nat) (l : List ByteArray), i = .int .i64 p ∧ p ≤ s.size ∧ s.size < p + f ∧ l.length * 8 ≤ p ∧ framesF s f p l = D ∧ wr.ownsRow w.heap.size 9 1 v l.length (tcells l) ∧ Below w.heap.size w wr) (fun _ i _ => s.size - (intOf i).toNat)
  case atStart => exact ⟨0, s.size + 1, [], rfl, by omega, by omega, by simp, HD.out, World.ownsRow_nil _ _ _ _, Below.refl _ _⟩
  case round =>
    obtain ⟨p, f, l, rfl, hp, hf, hl, hfr, hown, hbel⟩ := hrel
    obtain ⟨a, cap, rfl⟩ := own_slice hown
    have hz := hbel.size
    have HF := hide hfr
    clear HD hfr
    go_wp2_with fail
    refine (Unframe_any s p wr (by omega) (by omega) (by omega)).mono ?_
    rintro e w1 ⟨rfl, hb1⟩
    have hbel1 := hbel.trans (hb1.mono hz)
    have hzz := hbel1.size
    have hown1 := own_keepF hb1 hown
    clear hbel hb1 hown
    by_cases he : (unf (s.data.toList.drop p)).2.2 ≠ 0
    · have HR := hide (framesF_end HF.out hf hp he)
      have hU : unframe s p = (⟨#[]⟩, 0, (p : Int), (((unf (s.data.toList.drop p)).2.2 : Nat) : Int)) := by
        rw [unframe, if_neg (by omega), Int.toNat_natCast, if_neg he]
      rw [unframeV, hU]
      obtain ⟨er, her⟩ : ∃ er, er = (unf (s.data.toList.drop p)).2.2 := ⟨_, rfl⟩
      rw [← her] at he ⊢
      have be : ((er : Int) != 0) = true := by rw [bne_iff_ne]; omega
      clear hU her
      go_wp2
      go_ret2
      rw [HR.out]
      exact ⟨_, rfl, hown1.alloc _, hbel1.alloc hzz _⟩
    · have he0 : (unf (s.data.toList.drop p)).2.2 = 0 := by omega
      obtain ⟨f', hf', HN'⟩ := framesF_next HF.out hf hp he0
      have HN := hide HN'
      have hok := unf_ok he0
      rw [drop_len] at hok
      have hU : unframe s p = (⟨(unf (s.data.toList.drop p)).1.toArray⟩, (p : Int) + (unf (s.data.toList.drop p)).2.1, 0, 0) := by
        rw [unframe, if_neg (by omega), Int.toNat_natCast, if_pos he0]
      rw [unframeV, hU]
      obtain ⟨⟨bl, en, er⟩, hr⟩ : ∃ r, r = unf (s.data.toList.drop p) := ⟨_, rfl⟩
      rw [← hr] at HN hf' hok ⊢
      simp only at HN hf' hok ⊢
      clear hU hr he he0 HN' HF hf
      obtain ⟨bd, hbd⟩ : ∃ b : ByteArray, b = ⟨bl.toArray⟩ := ⟨_, rfl⟩
      rw [← hbd] at HN ⊢
      clear hbd
      go_wp2_with (at_builtin; refine wpList_append_own _ rfl (.tmp 19) (.tmp 21) 37 rfl w.heap.size 9 i0 (.string ⟨#[]⟩) 1 16 Try.underlying37 hi hz0 hz1 hz2 rfl (by decide) _ _ _ rfl ((hown1.alloc _).alloc _) ⟨w1.heap.size + 1, 0, none⟩ 1 1 [.string bd] rfl rfl ?c1 ?c2 ?c3 ?c4 ?c5 ?_)
      case c1 =>
        have h := cell_one_new (w1.alloc (.cells #[.int .i64 0, .int .i64 0] 28)) (.string bd) 9
        simpa using h
      case c2 => intro u hu; simp at hu; subst hu; rfl
      case c3 => unfold maxLen; omega
      case c4 => omega
      case c5 => simp; omega
      intro v' w2 hown' hgrow _
      have hbel2 : Below w.heap.size w w2 := ((hbel1.alloc hzz _).alloc (by simp; omega) _).grown hgrow (by simp; omega) (fun k hk => (hown1.lt k hk).1)
      have hown2 : w2.ownsRow w.heap.size 9 1 v' (l ++ [bd]).length (tcells (l ++ [bd])) := by rw [tcells_snoc]; simpa using hown'
      clear hown' hgrow hown1 hbel1
      go_wp2
      go_roundw
      case rel => exact ⟨p + en, f', l ++ [bd], by go_num, by omega, hf', by simp; omega, HN.out, hown2, hbel2⟩
      case measure => simp [intOf]; omega

end Go.Proofs.Ytldlbnmegbdfpaa
