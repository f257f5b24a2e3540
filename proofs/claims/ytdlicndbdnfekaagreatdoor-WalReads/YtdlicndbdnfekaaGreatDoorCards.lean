/-
  DERIVED. GIVEN WITH THE SEED: THE CARDS: each row of YtdlicndbdnfekaaGreatDoorRows.lean that lists a variable, with what it lists TIED to the program's text (the seventh form; the later family's looks); each row that meets fmt, with fmt's text TOLD by the authors' own Lean function (tested against real Go, not proved from fmt's source: count such statements apart). THE CARD IS WHAT COUNTS. Prove the row's statement (the work); the ties are given (YtdlicndbdnfekaaGreatDoorTie.lean); close each card by the builder's one call (the guide's Derived/Test/ToyasCard.lean, 'card_holds'). Laid BY PROGRAM, IN A SANDBOX (cutbox-door.mjs). By AI agents, Wed Nov 11 2026. No macro, syntax, notation, axiom, sorry.
-/
import Derived.Test.YtdlicndbdnfekaaGreatDoorRows
import GoSem.ClaimSeven
namespace Go.Proofs.YtdlicndbdnfekaaGreatDoor
namespace Rows

/-- THE TIED CARD OF 'skylarklaw10.WalBegins'. -/
def walBeginsCard : Claim7 := { stood := { row := walBeginsRow, standIns := [], harness := (true, "5e10dda108bb200e286f7a2465dc2b1a6530a5586bb605863e0d623e20d30837"), looks := true }, kinds := [], alts := [], laidByText := true, laidKinds := [.data, .data, .data, .sentinel, .sentinel], laidTests := true, laidLooks := .later }
def WalBeginsCardSaid : Prop := Claim7.holds Tryz.pinned (.plain (OpenSpec.ofChange walBeginsSpec)) walBeginsCard

/-- THE TIED CARD OF 'skylarklaw10.WalReads'. -/
def walReadsCard : Claim7 := { stood := { row := walReadsRow, standIns := [], harness := (true, "5e10dda108bb200e286f7a2465dc2b1a6530a5586bb605863e0d623e20d30837"), looks := true }, kinds := [], alts := [], laidByText := true, laidKinds := [.data, .data, .data, .sentinel, .sentinel], laidTests := true, laidLooks := .later }
def WalReadsCardSaid : Prop := Claim7.holds Tryz.pinned (.plain (OpenSpec.ofChange walReadsSpec)) walReadsCard

/-- THE SECOND FORM's CARD OF 'skylarklaw10.WalBegins'. -/
def walBeginsUptoCard : Claim7 := { stood := { row := walBeginsUptoRow, standIns := [], harness := (true, "5e10dda108bb200e286f7a2465dc2b1a6530a5586bb605863e0d623e20d30837"), looks := true }, kinds := [], alts := [], laidByText := true, laidKinds := [.data, .data, .data, .sentinel, .sentinel], laidTests := true, laidLooks := .later }
def WalBeginsUptoCardSaid : Prop := Claim7.holds Tryz.pinned (.plain (OpenSpec.upto walBeginsSpec)) walBeginsUptoCard

/-- THE SECOND FORM's CARD OF 'skylarklaw10.WalReads'. -/
def walReadsUptoCard : Claim7 := { stood := { row := walReadsUptoRow, standIns := [], harness := (true, "5e10dda108bb200e286f7a2465dc2b1a6530a5586bb605863e0d623e20d30837"), looks := true }, kinds := [], alts := [], laidByText := true, laidKinds := [.data, .data, .data, .sentinel, .sentinel], laidTests := true, laidLooks := .later }
def WalReadsUptoCardSaid : Prop := Claim7.holds Tryz.pinned (.plain (OpenSpec.upto walReadsSpec)) walReadsUptoCard
end Rows
end Go.Proofs.YtdlicndbdnfekaaGreatDoor
