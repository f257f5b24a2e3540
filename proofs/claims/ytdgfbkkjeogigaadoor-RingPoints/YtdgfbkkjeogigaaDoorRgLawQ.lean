/- RingPoints: the points, hashes and checks are as the document has them. Proved: for all weights and texts, no condition. -/
import Derived.Test.YtdgfbkkjeogigaaDoorRgLawP
import Derived.Test.YtdgfbkkjeogigaaDoorRgPtY
namespace Go.Proofs.YtdgfbkkjeogigaaDoor.Rf
open Go.RowKit Go.Joins Gk Rg

theorem points_law (a : Option Addr) (cap : Nat) (ws : List Int) (s : ByteArray) (w : World) (hI : IntsAt w a cap ws ∧ ws.length * 8 ≤ 140737488351232) (hs : s.size ≤ 140737488351232) (hT : Tab w) :
    Calls Tryd.prog 3 #[.slice a ws.length cap, .string s] w fun e w' => e = .returned (.bool true) ∧ Below w.heap.size w w' := by
  by_cases hM : May ws
  · exact points_lawY points_yes a cap ws s w hI.1 hI.2 hs hT hM
  · exact points_lawN points_no a cap ws s w hI.1 hI.2 hs hT hM

end Go.Proofs.YtdgfbkkjeogigaaDoor.Rf
