/- RingKeys: on which chain a key lies, and which keys move, is as the document has it. Proved: for all weights and keys, no condition. -/
import Derived.Test.YtdgfbkkjeogigaaDoorRgLawK
import Derived.Test.YtdgfbkkjeogigaaDoorRgMov
namespace Go.Proofs.YtdgfbkkjeogigaaDoor.Rf
open Go.RowKit Go.Joins Gk Rg

theorem fnd_ow {ws : List Int} (hM : May ws) (k : ByteArray) : fnd (hashL k.data.toList) (insAll (pts ws)) = ow ws (hashL k.data.toList) := by
  obtain ⟨c, hc, ho⟩ := fnd_owns (insAll_srt ws) (hashL_range k.data.toList) (insAll_pos hM).1
  rw [hc, ho.ow]
theorem mvf_mvd {ws ws' : List Int} (hM : May ws) (hM' : May ws') (i : Nat) (l : List ByteArray) : mvf (insAll (pts ws)) (insAll (pts ws')) i l = mvd ws ws' i l := by
  induction l generalizing i with
  | nil => rfl
  | cons k r ih => rw [mvf, mvd, fnd_ow hM, fnd_ow hM', ih]
theorem none_row (W : World) {w' : World} (e : w' = W) : w'.ownsRow W.heap.size IntT 1 (.slice none 0 0) ([] : List Int).length (rc ienc []) ∧ Below W.heap.size W w' := by
  subst e; exact ⟨World.ownsRow_nil _ _ _ _, Below.refl _ _⟩

theorem keys_law (a : Option Addr) (cap : Nat) (ws : List Int) (a' : Option Addr) (cap' : Nat) (ws' : List Int) (a'' : Option Addr) (cap'' : Nat) (ks : List ByteArray) (w : World) (hI : IntsAt w a cap ws) (hI' : IntsAt w a' cap' ws') (hK : TextsAt w a'' cap'' ks) (hT : Tab w) :
    Calls Tryd.prog 4 #[.slice a ws.length cap, .slice a' ws'.length cap', .slice a'' ks.length cap''] w fun e w' => e = .returned (.bool true) ∧ Below w.heap.size w w' := by
  have hn : ws.length ≤ 9223372036854775807 := Nat.le_trans hI.room hI.max
  have hn' : ws'.length ≤ 9223372036854775807 := Nat.le_trans hI'.room hI'.max
  have hz : ∀ k ∈ ks, k.size ≤ 9223372036854775807 := fun k hk => Nat.le_trans (hK.each k hk) (by decide)
  by_cases hlong : 60 < ks.length
  · exact keys_long a a' a'' cap cap' cap'' ws.length ws'.length ks w hK hT hlong
  have h60 : ks.length ≤ 60 := by omega
  have hks : ks.length ≤ 17592186044416 := by omega
  by_cases hM : May ws
  · have o3 := fun (key : ByteArray) (W : World) (hk : key ∈ ks) (hb : Below w.heap.size w W) => of_ow a cap ws hM key (hz key hk) W (hI.lies.below hb) (hT.below hb)
    have o4 := fun (key : ByteArray) (W : World) (hk : key ∈ ks) (hb : Below w.heap.size w W) => of_ref a cap ws hM key (hz key hk) W (hI.lies.below hb)
    simp only [fnd_ow hM] at o4
    by_cases hM' : May ws'
    · refine keys_walk a a' a'' cap cap' cap'' ws ws' ks w hK hT h60 (mvd ws ws' 0 ks) 0 0 (fun key => ow ws (hashL key.data.toList)) (fun b c W hb hl => moved_yes a a' b cap cap' c ws ws' ks hM hM' W (hI.lies.below hb) (hI'.lies.below hb) hl hz hks (hT.below hb)) (fun W hb => ?_) o3 o4 (mvd_len _ _ _ _)
      have := moved_ref a a' a'' cap cap' cap'' ws ws' ks hM hM' W (hI.lies.below hb) (hI'.lies.below hb) (hK.lies.below hb) hz hks
      rw [mvf_mvd hM hM'] at this
      exact this
    · have hno : ¬ (May ws ∧ May ws') := fun h => hM' h.2
      exact keys_walk a a' a'' cap cap' cap'' ws ws' ks w hK hT h60 [] 1 0 (fun key => ow ws (hashL key.data.toList)) (fun b c W hb _ => (moved_no a a' cap cap' _ ws ws' hno W (hI.lies.below hb) (hI'.lies.below hb) hn hn').mono fun e w' h => ⟨_, h.1, none_row W h.2⟩) (fun W hb => (moved_ref_no a a' cap cap' _ ws ws' hno W (hI.lies.below hb) (hI'.lies.below hb) hn hn').mono fun e w' h => ⟨_, h.1, none_row W h.2⟩) o3 o4 (Nat.zero_le _)
  · have hno : ¬ (May ws ∧ May ws') := fun h => hM h.1
    exact keys_walk a a' a'' cap cap' cap'' ws ws' ks w hK hT h60 [] 1 1 (fun _ => 0) (fun b c W hb _ => (moved_no a a' cap cap' _ ws ws' hno W (hI.lies.below hb) (hI'.lies.below hb) hn hn').mono fun e w' h => ⟨_, h.1, none_row W h.2⟩) (fun W hb => (moved_ref_no a a' cap cap' _ ws ws' hno W (hI.lies.below hb) (hI'.lies.below hb) hn hn').mono fun e w' h => ⟨_, h.1, none_row W h.2⟩) (fun key W _ hb => (of_no a cap ws hM key W (hI.lies.below hb) hn).mono fun e w' h => ⟨h.1, by rw [h.2]; exact Below.refl _ _⟩) (fun key W _ hb => (of_ref_no a cap ws hM key W (hI.lies.below hb) hn).mono fun e w' h => ⟨h.1, by rw [h.2]; exact Below.refl _ _⟩) (Nat.zero_le _)

end Go.Proofs.YtdgfbkkjeogigaaDoor.Rf
