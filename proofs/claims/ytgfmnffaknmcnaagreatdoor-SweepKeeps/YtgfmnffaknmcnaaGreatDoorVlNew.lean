/- Values on a new disk. -/
import Derived.Test.YtgfmnffaknmcnaaGreatDoorVlSt
namespace Go.Proofs.YtgfmnffaknmcnaaGreatDoor.Vl
open Go.RowKit Go.Joins
open Go.Proofs.YtgfmnffaknmcnaaGreatDoor.Dk (Bs Fil Fls St St.Ok Held Only Rising named getL getL_some getL_none putL fileOr used)

theorem getR_other {D t : ByteArray} {a l l' : Int} (h : getR D a l = (t, 0)) (hl : l' ≠ l) : getR D a l' = (⟨#[]⟩, 110) := by
  unfold getR at h ⊢
  by_cases hc : (unframe D a).2.2.2 = 0 ∧ ((unframe D a).1.size : Int) = l
  · rw [if_neg]
    rintro ⟨_, h2⟩
    exact hl (h2.symm.trans hc.2)
  · rw [if_neg hc] at h
    cases h
theorem new_nums (room : Nat) : nums (Dk.St.new room) = [] := by simp [nums, numsL, Dk.St.new]
/-- values on a new disk -/
theorem new_open {w w1 : World} {bd room most : Nat} (hE : Env w) (hH : Held w1 (fun b => w.heap.size ≤ b) bd (Dk.St.new room)) (hb : Below w.heap.size w w1) (hm1 : 1 ≤ most) (hm2 : most ≤ 65536) {c : Nat} (hc : c * 60 ≤ room) {w2 : World} (hb2 : Below w1.heap.size w1 w2) :
    Calls Tryz.prog 8 #[.pointer (some ⟨bd, 0, none⟩), .int .i64 most] w2 fun e w' => ∃ (bv : Nat) (own' : Nat → Prop) (S : St), e = .returned (.tuple #[.pointer (some ⟨bv, 0, none⟩), .int .i64 0]) ∧ VH w w' own' bd bv most 0 S ∧ Vs S 0 c 0 ∧ Cln S ∧ nums S = [] := by
  have hD : Held w2 (fun b => w.heap.size ≤ b ∧ b < w1.heap.size) bd (Dk.St.new room) := (hH.own fun _ h1 h2 => ⟨h2, h1⟩).below hb2
  refine (Open_ok (w0 := w) hD (fun b h => ⟨h.1, Nat.lt_of_lt_of_le h.2 hb2.size⟩) hE (hb.trans (hb2.mono hb.size)) ⟨rfl, rfl⟩ hm1 hm2).mono ?_
  rintro e w' ⟨bv, own', S', rfl, hV, hO, -, -⟩
  have hf : ∀ k, getL k S'.files = none := fun k => by rw [hO.else_ k (by rw [new_nums]; simp)]; rfl
  have hf2 : S'.files = [] := List.eq_nil_iff_forall_not_mem.2 fun p hp => getL_none (hf p.1) p hp rfl
  have hn : nums S' = [] := by rw [hO.nums]; exact new_nums room
  rw [new_nums, show topL [] = 0 from rfl] at hV
  refine ⟨bv, own', S', rfl, hV, ⟨hO.up, by rw [hO.room]; exact hc, by rw [hn]; simp, Nat.le_refl _, by rw [hf2]; exact Nat.zero_le _, by rw [hf2]; exact Nat.zero_le _⟩, fun n hn => ⟨[], by simp [mayV], ?_⟩, hn⟩
  rw [dat_none hn (hf _)]; rfl

end Go.Proofs.YtgfmnffaknmcnaaGreatDoor.Vl
