/- ValsFresh in plain mathematics: a file that is removed. -/
import Derived.Test.YtgfmnffaknmcnaaGreatDoorVlSafeP
import Derived.Test.YtgfmnffaknmcnaaGreatDoorVlGetN
namespace Go.Proofs.YtgfmnffaknmcnaaGreatDoor.Vl
open Go.RowKit Go.Joins
open Go.Proofs.YtgfmnffaknmcnaaGreatDoor.Dk (Bs Fil Fls St St.Ok Held Only Rising named getL getL_some getL_none getL_delL delL mem_delL used used_del_le)

def remS (S : St) (n : Nat) : St := { S with files := delL (nm n) S.files }
theorem Up.rem {S : St} (h : Up S) {n : Nat} (hn : n ≤ 1048577) {f : Fil} (hf : getL (nm n) S.files = some f) : S.remove (nm n) = (0, remS S n) := by
  unfold Dk.St.remove
  rw [if_neg (by simp [nm_named hn]), hf]
  exact h.do _
theorem remS_nums {S : St} {n : Nat} (hr : Rising S.files) (m : Nat) : m ∈ nums (remS S n) ↔ m ∈ nums S ∧ m ≠ n := by
  have hr' : Rising (remS S n).files := hr.del
  constructor
  · intro hm
    obtain ⟨f, hf⟩ := nums_get hr' hm
    rw [show (remS S n).files = delL (nm n) S.files from rfl, getL_delL] at hf
    split at hf
    · cases hf
    · rename_i hne
      exact ⟨nums_of_get (nums_bound hm).1 (nums_bound hm).2 hf, fun e => hne (by rw [e])⟩
  · rintro ⟨hm, hne⟩
    obtain ⟨f, hf⟩ := nums_get hr hm
    exact nums_of_get (nums_bound hm).1 (nums_bound hm).2 (by rw [show (remS S n).files = delL (nm n) S.files from rfl, getL_delL, if_neg (fun e => hne (nm_inj e))]; exact hf)
theorem Vs.rem {S : St} {top c k n : Nat} (h : Vs S top c k) (hr : Rising S.files) : Vs (remS S n) top c k := by
  refine ⟨⟨h.up.fuse, h.up.down⟩, h.room, fun m hm => h.tops m ((remS_nums hr m).1 hm).1, h.topk, Nat.le_trans (used_del_le hr (nm n)) h.used, Nat.le_trans ?_ h.many⟩
  show (delL (nm n) S.files).length ≤ _
  exact List.length_filter_le _ _
theorem In.rem {S : St} {p : Nat × Nat × Nat} {t : ByteArray} {n : Nat} (h : In S p t) (hne : p.1 ≠ n) : In (remS S n) p t := by
  obtain ⟨h1, h2, xs, b, f, hf, hd, hm, e1, e2⟩ := h
  exact ⟨h1, h2, xs, b, f, by rw [show (remS S n).files = delL (nm n) S.files from rfl, getL_delL, if_neg (fun e => hne (nm_inj e))]; exact hf, hd, hm, e1, e2⟩

end Go.Proofs.YtgfmnffaknmcnaaGreatDoor.Vl
