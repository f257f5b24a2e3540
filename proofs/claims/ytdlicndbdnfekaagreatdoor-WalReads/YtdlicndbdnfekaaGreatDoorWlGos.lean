/- A stretch's cells, a text's, a number's, in worlds that come behind. -/
import Derived.Test.YtdlicndbdnfekaaGreatDoorWlArgs
import Derived.Test.YtdlicndbdnfekaaGreatDoorWlWorks
namespace Go.Proofs.YtdlicndbdnfekaaGreatDoor.Wl
open Go.RowKit Go.Joins
open Go.Proofs.YtdlicndbdnfekaaGreatDoor.Dk (Bs Fil Fls St St.Ok Held Only)

/-- a stretch's cells, in worlds that come behind -/
theorem GosAt.cells {w : World} {a : Option Addr} {cap : Nat} {gs : List GoV} (h : GosAt w a cap gs) (k : Nat) (hk : k < gs.length) : ∃ b off, a = some ⟨b, off, none⟩ ∧ ∀ W, Below w.heap.size w W → W.cell? ⟨b, off + k * 3, none⟩ = some (.slice gs[k].la gs[k].ts.length gs[k].lc) ∧ W.cell? ⟨b, off + k * 3 + 1, none⟩ = some (.int .i64 gs[k].fuse) ∧ W.cell? ⟨b, off + k * 3 + 2, none⟩ = some (.slice gs[k].da gs[k].ds.length gs[k].dc) := by
  obtain ⟨b, off, rfl, hlt, hc⟩ := h.lies.at goE_len k hk
  refine ⟨b, off, rfl, fun W hb => ?_⟩
  obtain ⟨b', off', e, _, hc'⟩ := (h.lies.below hb).at goE_len k hk
  cases e
  exact ⟨hc' 0 _ rfl, hc' 1 _ rfl, hc' 2 _ rfl⟩
/-- a text's cell, in worlds that come behind -/
theorem text_cell {w : World} {a : Option Addr} {cap : Nat} {ts : List ByteArray} (h : Gk.TextsAt w a cap ts) (k : Nat) (hk : k < ts.length) : ∃ b off, a = some ⟨b, off, none⟩ ∧ ∀ W, Below w.heap.size w W → W.cell? ⟨b, off + k, none⟩ = some (.string ts[k]) := by
  obtain ⟨b, off, rfl, hlt, hc⟩ := h.lies.at Gk.tenc_len k hk
  refine ⟨b, off, rfl, fun W hb => ?_⟩
  obtain ⟨b', off', e, _, hc'⟩ := (h.lies.below hb).at Gk.tenc_len k hk
  cases e
  have := hc' 0 _ rfl
  rwa [Nat.mul_one, Nat.add_zero] at this
theorem rec_may (b : Nat) (hb : b < 16) (t : ByteArray) (h : t.size ≤ 500) : (Rec.mk b t).may := ⟨hb, by show t.size ≤ _; omega⟩
/-- a number's cell, in worlds that come behind -/
theorem int_cell {w : World} {a : Option Addr} {cap : Nat} {ts : List Int} (h : Gk.IntsAt w a cap ts) (k : Nat) (hk : k < ts.length) : ∃ b off, a = some ⟨b, off, none⟩ ∧ ∀ W, Below w.heap.size w W → W.cell? ⟨b, off + k, none⟩ = some (.int .i64 ts[k]) := by
  obtain ⟨b, off, rfl, hlt, hc⟩ := h.lies.at Gk.ienc_len k hk
  refine ⟨b, off, rfl, fun W hb => ?_⟩
  obtain ⟨b', off', e, _, hc'⟩ := (h.lies.below hb).at Gk.ienc_len k hk
  cases e
  have := hc' 0 _ rfl
  rwa [Nat.mul_one, Nat.add_zero] at this

end Go.Proofs.YtdlicndbdnfekaaGreatDoor.Wl
