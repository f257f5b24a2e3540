/- CodeLists: lists of fields are encoded, and any bytes decoded, as the document has it; a list stays as it is. Proved where each text is of at most 4000000 bytes (longer ones, one behind the other, may be more than a slice of bytes has room for). -/
import Derived.Test.YtldlbnmegbdfpaaLend
import Derived.Test.YtldlbnmegbdfpaaRefEnc
import Derived.Test.YtldlbnmegbdfpaaRefDecode
import Derived.Test.YtldlbnmegbdfpaaWorks
namespace Go.Proofs.Ytldlbnmegbdfpaa
open Go.RowKit

theorem decF_len (s : ByteArray) : ∀ (f p : Nat) (l : List Fld), l.length ≤ 4096 → (decF s f p l).1.length ≤ 4096 := by
  intro f
  induction f with
  | zero => intro p l h; simpa [decF] using h
  | succ f ih =>
    intro p l h
    rw [decF]
    split
    · split
      · simp
      · split
        · simp
        · exact ih _ _ (by simp; omega)
    · exact h
theorem decode_len (s : ByteArray) : (decode s).1.length ≤ 4096 := by
  unfold decode
  split
  · simp
  · exact decF_len s _ _ _ (by simp)

set_option maxHeartbeats 3200000 in
theorem lists_law (a : Option Addr) (cap : Nat) (fs : List Fld) (s : ByteArray) (w : World) (hl : Lies w a fs) (hnil : a = none → cap = 0) (hk : fs.length * 32 ≤ 140737488351232) (hf : ∀ x ∈ fs, x.s.size ≤ 4000000) (hs : s.size ≤ 140737488351232) :
    Calls Try.prog 3 #[.slice a fs.length cap, .string s] w fun e w' => e = .returned (.bool true) ∧ Below w.heap.size w w' := by
  go_enter Try.func3, Try.ntmps3
  go_wp2_with fail
  refine (lend_any a cap fs w hl hnil hk).mono ?_
  rintro e w1 ⟨g, c, rfl, hc, hlg, hb1⟩
  have hz1 := hb1.size
  have hl1 := hl.later hb1
  clear hl
  go_wp2_with fail
  refine (Encode_any _ c fs w1 hlg.front (by omega) (fun x hx => by have := hf x hx; omega)).mono ?_
  rintro e w2 ⟨rfl, hb2⟩
  have hl2 := hl1.later hb2
  have hlg2 := hlg.later hb2
  have hb2' := hb1.trans (hb2.mono hz1)
  have hz2 := hb2'.size
  clear hb1 hb2 hl1 hlg
  go_wp2_with fail
  refine (rEncode_any a cap fs w2 hl2 (by omega) hf).mono ?_
  rintro e w3 ⟨rfl, hb3⟩
  have hl3 := hl2.later hb3
  have hlg3 := hlg2.later hb3
  have hb3' := hb2'.trans (hb3.mono hz2)
  have hz3 := hb3'.size
  clear hb2' hb3 hl2 hlg2
  rw [encodeV]
  generalize encode fs = er at *
  obtain ⟨es, ee⟩ := er
  go_wp2_with fail
  refine (Decode_any s w3 hs).mono ?_
  rintro e w4 ⟨v4, rfl, hown4, hb4⟩
  obtain ⟨a4, k4, rfl, hx4⟩ := own_lies hown4
  have hl4 := hl3.later hb4
  have hlg4 := hlg3.later hb4
  have hb4' := hb3'.trans (hb4.mono hz3)
  have hz4 := hb4'.size
  clear hb3' hb4 hl3 hlg3 hown4
  go_wp2_with fail
  refine (rDecode_any s _ hs).mono ?_
  rintro e w5 ⟨v5, rfl, hown5, hb5⟩
  obtain ⟨a5, k5, rfl, hx5⟩ := own_lies hown5
  have c0 := hb5.cell (p := ⟨w4.heap.size, 0, none⟩) (by simp)
  have c1 := hb5.cell (p := ⟨w4.heap.size, 1, none⟩) (by simp)
  have al := (Below.refl w4.heap.size w4).alloc (Nat.le_refl _) (.cells #[.int .i64 (decode s).2.1, .int .i64 (decode s).2.2] 28)
  have hx45 := (hx4.later al).later hb5
  have hl5 := (hl4.later al).later hb5
  have hlg5 := (hlg4.later al).later hb5
  have hb5' := (hb4'.alloc hz4 _).trans (hb5.mono (by simp; omega))
  have hz5 := hb5'.size
  have hz45 := hb5.size
  simp at c0 c1 hz45
  clear al hb4' hb5 hl4 hlg4 hx4 hown5
  have hlen : (decode s).1.length ≤ 4096 := decode_len s
  generalize (decode s).1 = ds at *
  generalize (decode s).2.1 = dp at *
  generalize (decode s).2.2 = dc at *
  go_wp2_with fail
  refine (names_any _).mono ?_
  rintro e w' ⟨rfl, rfl⟩
  have al := (Below.refl w5.heap.size w5).alloc (Nat.le_refl _) (.cells #[.int .i64 dp, .int .i64 dc] 28)
  have hx46 := hx45.later al
  have hx56 := hx5.later al
  have hl6 := hl5.later al
  have hlg6 := hlg5.later al
  clear al hx45 hx5 hl5 hlg5
  go_wp2_with fail
  refine (same_any _ _ _ _ ds _ hx46 hx56 (by omega)).mono ?_
  rintro e w7 ⟨rfl, hb7⟩
  have f0 := hb7.cell (p := ⟨w5.heap.size, 0, none⟩) (by simp)
  have f1 := hb7.cell (p := ⟨w5.heap.size, 1, none⟩) (by simp)
  have e0 := hb7.cell (p := ⟨w4.heap.size, 0, none⟩) (by simp; omega)
  have e1 := hb7.cell (p := ⟨w4.heap.size, 1, none⟩) (by simp; omega)
  rw [World.cell?_alloc_past _ _ _ (by show w4.heap.size < _; omega)] at e0 e1
  rw [c0] at e0
  rw [c1] at e1
  simp at f0 f1
  have hl7 := hl6.later hb7
  have hlg7 := hlg6.later hb7
  have hb7' := (hb5'.alloc hz5 _).trans (hb7.mono (by simp; omega))
  have hz7 := hb7'.size
  clear hb7 hb5' hx46 hx56 hl6 hlg6 c0 c1
  go_wp2_with fail
  refine (kept_any g c a cap fs w7 hlg7 hc hl7 hk).mono ?_
  rintro e w8 ⟨rfl, hb8⟩
  have hb8' := hb7'.trans (hb8.mono hz7)
  have hz8 := hb8'.size
  clear hb7' hb8 hl7 hlg7 e0 e1 f0 f1
  go_wp2_with fail
  refine (works_any w8).mono ?_
  rintro e w9 ⟨rfl, hb9⟩
  go_wp2
  go_ret
  exact ⟨rfl, hb8'.trans (hb9.mono hz8)⟩

end Go.Proofs.Ytldlbnmegbdfpaa
