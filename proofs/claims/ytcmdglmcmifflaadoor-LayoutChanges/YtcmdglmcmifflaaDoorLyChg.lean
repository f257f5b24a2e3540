/- LayoutChanges: which layouts and changes may be, where a key lies meanwhile, how the cursor moves: as the document has it. Proved: for all changes, keys and cursors, no condition. -/
import Derived.Test.YtcmdglmcmifflaaDoorLrTo
import Derived.Test.YtcmdglmcmifflaaDoorLyOwn
import Derived.Test.YtcmdglmcmifflaaDoorLyWorks
import Derived.Test.YtcmdglmcmifflaaDoorRfAll
import Derived.Test.YtcmdglmcmifflaaDoorGQuiet
namespace Go.Proofs.YtcmdglmcmifflaaDoor.Ly
open Go.RowKit Go.Joins Go.Sort Gk Rg Rf

set_option maxHeartbeats 1600000 in
theorem theirs_any (c : Ch) (w : World) :
    Calls Tryd.prog 11 #[c.val] w fun e w' => e = .returned c.val ∧ Gr w w' := by
  obtain ⟨⟨v, a, n, ws⟩, ⟨v', a', n', ws'⟩, s, d⟩ := c
  go_enter Tryd.func11, Tryd.ntmps11
  dsimp only [Ch.val]
  go_wp2
  exact bodyPost_ret (v := .agg #[.int .i64 v, .slice a ws.length n, .int .i64 v', .slice a' ws'.length n', .string s, .bool d]) (by simp [results, Tryd.results11, go_sem]) rfl ⟨rfl, ((Gr.refl _).alloc _).alloc _⟩

theorem may_done {c : Ch} (h : c.may = true) : isEnd c.cur c.done = c.done := by
  rw [Ch.may] at h
  simp only [Bool.and_eq_true] at h
  have := h.2.2.2.2
  cases hd : c.done
  · simp [isEnd]
  · rw [hd, mayS] at this; simp only [Bool.and_eq_true, Bool.not_true, Bool.false_or] at this; rw [this.2]

set_option maxHeartbeats 1600000 in
theorem ours_any (c : Ch) (w : World) :
    Calls Tryd.prog 12 #[c.val] w fun e w' => e = .returned c.val ∧ Gr w w' := by
  obtain ⟨⟨v, a, n, ws⟩, ⟨v', a', n', ws'⟩, s, d⟩ := c
  go_enter Tryd.func12, Tryd.ntmps12
  dsimp only [Ch.val]
  go_wp2
  exact bodyPost_ret (v := .agg #[.int .i64 v, .slice a ws.length n, .int .i64 v', .slice a' ws'.length n', .string s, .bool d]) (by simp [results, Tryd.results12, go_sem]) rfl ⟨rfl, ((Gr.refl _).alloc _).alloc _⟩

theorem fnd_ow {ws : List Int} (hM : May ws) (k : ByteArray) : fnd (hashL k.data.toList) (insAll (pts ws)) = ow ws (hashL k.data.toList) := by
  obtain ⟨c, hc, ho⟩ := fnd_owns (insAll_srt ws) (hashL_range k.data.toList) (insAll_pos hM).1
  rw [hc, ho.ow]
abbrev LCT : TypeId := 36
theorem rws_ows {c : Ch} (h : c.may = true) (key : ByteArray) : c.rws key = c.ows key := by
  unfold Ch.rws Ch.ows Ch.past
  rw [may_done h]
theorem no_no {c : Ch} (h : c.may = true) (s : ByteArray) : toNo c s = rNo c s := by
  unfold toNo rNo
  rw [may_done h]

end Go.Proofs.YtcmdglmcmifflaaDoor.Ly
