/- What the rows list, and what the walks ask for: the table, the two errors. -/
import Derived.Test.YtgfmnffaknmcnaaGreatDoorTabDoor5
import Derived.Test.YtgfmnffaknmcnaaGreatDoorVlName
import Derived.Stop.LaidErr
namespace Go.Proofs.YtgfmnffaknmcnaaGreatDoor.Door
open Go.ChangeShapes Go.WideShapes Go.ChangeAt Go.RowKit Go.Extern.Stop Go.Stop

theorem star : "*" ++ "errors.errorString" = "*errors.errorString" := by decide
theorem gSyn : Tryz.prog.globalNamed "strconv.ErrSyntax" = some 1 := by kernel_rfl
theorem gSynType : (Tryz.prog.globals[1]?).map (·.type) = some 177 := by kernel_rfl
theorem gRng : Tryz.prog.globalNamed "strconv.ErrRange" = some 2 := by kernel_rfl
theorem gRngType : (Tryz.prog.globals[2]?).map (·.type) = some 177 := by kernel_rfl
theorem cellsE : Tryz.prog.cellsOf 245 = 1 := by kernel_rfl
theorem cellsS : Tryz.prog.cellsOf 9 = 1 := by kernel_rfl
theorem rowE (u : TypeId) (h : Tryz.prog.typeName? 3 u = some "*errors.errorString") : u = 243 :=
  typeName_ptr_named (nm := "errors.errorString") (by rw [star]; kernel_rfl) (by kernel_rfl) (by decide) u (by rw [star]; exact h)
theorem env {W : World} (h : laidMetH Tryz.prog laid5 W) : Vl.Env W := by
  refine ⟨table h, ?_, ?_⟩
  · obtain ⟨a, s, hv, _⟩ := laid_sentinel (r := []) (h.filter fun x => x.1 == "strconv.ErrSyntax") gSyn gSynType Tryz.underlying177 rowE Tryz.underlying243 Tryz.underlying245 rfl rfl Tryz.underlying9 cellsE cellsS
    exact ⟨_, _, hv⟩
  · obtain ⟨a, s, hv, _⟩ := laid_sentinel (r := []) (h.filter fun x => x.1 == "strconv.ErrRange") gRng gRngType Tryz.underlying177 rowE Tryz.underlying243 Tryz.underlying245 rfl rfl Tryz.underlying9 cellsE cellsS
    exact ⟨_, _, hv⟩

end Go.Proofs.YtgfmnffaknmcnaaGreatDoor.Door
