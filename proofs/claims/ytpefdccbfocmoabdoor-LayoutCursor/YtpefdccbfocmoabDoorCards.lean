/-
  DERIVED. GIVEN WITH THE SEED: THE CARDS: each row of YtpefdccbfocmoabDoorRows.lean that lists a variable, with what it lists TIED to the program's text (the seventh form; the later family's looks); each row that meets fmt, with fmt's text TOLD by the authors' own Lean function (tested against real Go, not proved from fmt's source: count such statements apart). THE CARD IS WHAT COUNTS. Prove the row's statement (the work); the ties are given (YtpefdccbfocmoabDoorTie.lean); close each card by the builder's one call (the guide's Derived/Test/ToyasCard.lean, 'card_holds'). Laid BY PROGRAM, IN A SANDBOX (cutbox-door.mjs). By AI agents, Wed Nov 11 2026. No macro, syntax, notation, axiom, sorry.
-/
import Derived.Test.YtpefdccbfocmoabDoorRows
import GoSem.ClaimSeven
namespace Go.Proofs.YtpefdccbfocmoabDoor
namespace Rows

/-- THE TIED CARD OF 'skylarklaw07.LayoutNext'. -/
def layoutNextCard : Claim7 := { stood := { row := layoutNextRow, standIns := [], harness := (true, "e91447bd19e512c45afa480bdf6e24edc94e0b06f542126a282624588d02b4a9"), looks := false }, kinds := [], alts := [], laidByText := true, laidKinds := [.data, .data, .data], laidTests := true, laidLooks := .later }
def LayoutNextCardSaid : Prop := Claim7.holds Tryd.pinned (.plain (OpenSpec.ofChange layoutNextSpec)) layoutNextCard

/-- THE TIED CARD OF 'skylarklaw07.LayoutOnce'. -/
def layoutOnceCard : Claim7 := { stood := { row := layoutOnceRow, standIns := [], harness := (true, "e91447bd19e512c45afa480bdf6e24edc94e0b06f542126a282624588d02b4a9"), looks := false }, kinds := [], alts := [], laidByText := true, laidKinds := [.data, .data, .data], laidTests := true, laidLooks := .later }
def LayoutOnceCardSaid : Prop := Claim7.holds Tryd.pinned (.plain (OpenSpec.ofChange layoutOnceSpec)) layoutOnceCard

/-- THE TIED CARD OF 'skylarklaw07.LayoutCursor'. -/
def layoutCursorCard : Claim7 := { stood := { row := layoutCursorRow, standIns := [], harness := (true, "e91447bd19e512c45afa480bdf6e24edc94e0b06f542126a282624588d02b4a9"), looks := false }, kinds := [], alts := [], laidByText := true, laidKinds := [.data, .data, .data], laidTests := true, laidLooks := .later }
def LayoutCursorCardSaid : Prop := Claim7.holds Tryd.pinned (.plain (OpenSpec.ofChange layoutCursorSpec)) layoutCursorCard

/-- THE SECOND FORM's CARD OF 'skylarklaw07.LayoutNext'. -/
def layoutNextUptoCard : Claim7 := { stood := { row := layoutNextUptoRow, standIns := [], harness := (true, "e91447bd19e512c45afa480bdf6e24edc94e0b06f542126a282624588d02b4a9"), looks := false }, kinds := [], alts := [], laidByText := true, laidKinds := [.data, .data, .data], laidTests := true, laidLooks := .later }
def LayoutNextUptoCardSaid : Prop := Claim7.holds Tryd.pinned (.plain (OpenSpec.upto layoutNextSpec)) layoutNextUptoCard

/-- THE SECOND FORM's CARD OF 'skylarklaw07.LayoutOnce'. -/
def layoutOnceUptoCard : Claim7 := { stood := { row := layoutOnceUptoRow, standIns := [], harness := (true, "e91447bd19e512c45afa480bdf6e24edc94e0b06f542126a282624588d02b4a9"), looks := false }, kinds := [], alts := [], laidByText := true, laidKinds := [.data, .data, .data], laidTests := true, laidLooks := .later }
def LayoutOnceUptoCardSaid : Prop := Claim7.holds Tryd.pinned (.plain (OpenSpec.upto layoutOnceSpec)) layoutOnceUptoCard

/-- THE SECOND FORM's CARD OF 'skylarklaw07.LayoutCursor'. -/
def layoutCursorUptoCard : Claim7 := { stood := { row := layoutCursorUptoRow, standIns := [], harness := (true, "e91447bd19e512c45afa480bdf6e24edc94e0b06f542126a282624588d02b4a9"), looks := false }, kinds := [], alts := [], laidByText := true, laidKinds := [.data, .data, .data], laidTests := true, laidLooks := .later }
def LayoutCursorUptoCardSaid : Prop := Claim7.holds Tryd.pinned (.plain (OpenSpec.upto layoutCursorSpec)) layoutCursorUptoCard
end Rows
end Go.Proofs.YtpefdccbfocmoabDoor
