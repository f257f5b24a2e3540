/- The walk over the laws' own examples: works. -/
import Derived.Test.YtldlbnmegbdfpaaDec
import Derived.Test.YtldlbnmegbdfpaaSum
import Derived.KernelRfl
namespace Go.Proofs.Ytldlbnmegbdfpaa
open Go.RowKit

theorem fcells_at (l : List Fld) (i : Nat) (h : i < l.length) : (fcells l)[i * 3]? = some (.bool l[i].text) ∧ (fcells l)[i * 3 + 1]? = some (.int .i64 l[i].n) ∧ (fcells l)[i * 3 + 2]? = some (.string l[i].s) := by
  induction l generalizing i with
  | nil => simp at h
  | cons x l ih =>
    have e : fcells (x :: l) = .bool x.text :: .int .i64 x.n :: .string x.s :: fcells l := rfl
    rw [e]
    cases i with
    | zero => simp
    | succ i =>
      have := ih i (by simpa using h)
      rw [show (i + 1) * 3 = i * 3 + 1 + 1 + 1 from by omega]
      simpa using this

/-- an owned row of fields is a slice whose fields lie there -/
theorem own_lies {w : World} {B : Nat} {v : Value} {l : List Fld} (h : w.ownsRow B 45 3 v l.length (fcells l)) : ∃ a cap, v = .slice a l.length cap ∧ Lies w a l := by
  rcases h.2 with ⟨rfl, h0⟩ | ⟨g, cap, cur, rfl, hb, hg, rest⟩
  · exact ⟨none, 0, by rw [h0], Or.inl (List.eq_nil_of_length_eq_zero h0)⟩
  · refine ⟨_, cap, rfl, Or.inr ⟨g, 0, rfl, (Array.getElem?_eq_some_iff.1 hg).1, fun i hi => ?_⟩⟩
    obtain ⟨f0, f1, f2⟩ := fcells_at l i hi
    refine ⟨?_, ?_, ?_⟩
    · rw [h.cellAt _ (by omega)]; simpa using f0
    · rw [h.cellAt _ (by omega)]; simpa using f1
    · rw [h.cellAt _ (by omega)]; simpa using f2

def wsF : List Fld := [⟨false, 0, ⟨#[]⟩⟩, ⟨false, 256, ⟨#[]⟩⟩, ⟨true, 0, ⟨#[97, 98]⟩⟩]
def wsD : ByteArray := ⟨#[78, 8, 255, 255, 255, 255, 255, 255, 255, 255]⟩
def wsW : ByteArray := ⟨#[87, 105, 107, 105, 112, 101, 100, 105, 97]⟩
theorem ws_enc : encode wsF = (⟨#[78, 0, 78, 2, 0, 1, 84, 1, 2, 97, 98]⟩, 0) := by kernel_rfl
theorem ws_dec : decode wsD = ([⟨false, -1, ⟨#[]⟩⟩], 0, 0) := by kernel_rfl
theorem ws_sum : Pl.adler wsW.data.toList = 300286872 := by kernel_rfl

theorem ws_lies (w : World) : Lies (w.alloc (.cells #[.bool false, .int .i64 0, .string ⟨#[]⟩, .bool false, .int .i64 256, .string ⟨#[]⟩, .bool true, .int .i64 0, .string ⟨#[97, 98]⟩] 45)) (some ⟨w.heap.size, 0, none⟩) wsF := by
  refine Or.inr ⟨w.heap.size, 0, rfl, by simp, ?_⟩
  intro i hi
  match i, hi with
  | 0, _ => simp [wsF]
  | 1, _ => simp [wsF]
  | 2, _ => simp [wsF]

set_option maxHeartbeats 1600000 in
theorem works_any (w : World) :
    Calls Try.prog 17 #[] w fun e w' => e = .returned (.bool true) ∧ Below w.heap.size w w' := by
  go_enter Try.func17, Try.ntmps17
  go_wp2_with fail
  refine (Encode_any (some ⟨w.heap.size, 0, none⟩) 3 wsF _ (ws_lies w) (by decide) (by decide)).mono ?_
  rintro e w1 ⟨rfl, hb1⟩
  rw [encodeV, ws_enc]
  have hb1' := ((Below.refl w.heap.size w).alloc (Nat.le_refl _) _).trans (hb1.mono (by simp))
  clear hb1
  have hz1 := hb1'.size
  go_wp2_with fail
  refine (Decode_any wsD _ (by decide)).mono ?_
  rintro e w2 ⟨v, rfl, hown, hb2⟩
  rw [ws_dec]
  rw [ws_dec] at hown
  have hb2' := hb1'.trans (hb2.mono hz1)
  have hz2 := hb2'.size
  clear hb1' hb2
  obtain ⟨a, cap, rfl, hl⟩ := own_lies (l := [⟨false, -1, ⟨#[]⟩⟩]) hown
  obtain ⟨g, off, rfl, k0, k1, k2⟩ := hl.at 0 (by decide) (Below.refl _ _)
  have hg : g < w2.heap.size := World.block_lt_of_cell? w2 _ k1
  simp at k1
  clear k0 k2 hl hown
  go_wp2_with fail
  refine (Sum_any wsW _ (by decide)).mono ?_
  rintro e w' ⟨rfl, rfl⟩
  rw [ws_sum]
  go_wp2
  go_ret
  exact ⟨rfl, hb2'.alloc hz2 _⟩

end Go.Proofs.Ytldlbnmegbdfpaa
