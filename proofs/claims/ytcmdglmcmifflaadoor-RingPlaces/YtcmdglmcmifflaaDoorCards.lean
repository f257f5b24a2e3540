/-
  DERIVED. GIVEN WITH THE SEED: THE CARDS: each row of YtcmdglmcmifflaaDoorRows.lean that lists a variable, with what it lists TIED to the program's text (the seventh form; the later family's looks); each row that meets fmt, with fmt's text TOLD by the authors' own Lean function (tested against real Go, not proved from fmt's source: count such statements apart). THE CARD IS WHAT COUNTS. Prove the row's statement (the work); the ties are given (YtcmdglmcmifflaaDoorTie.lean); close each card by the builder's one call (the guide's Derived/Test/ToyasCard.lean, 'card_holds'). Laid BY PROGRAM, IN A SANDBOX (cutbox-door.mjs). By AI agents, Wed Nov 11 2026. No macro, syntax, notation, axiom, sorry.
-/
import Derived.Test.YtcmdglmcmifflaaDoorRows
import GoSem.ClaimSeven
namespace Go.Proofs.YtcmdglmcmifflaaDoor
namespace Rows

/-- THE TIED CARD OF 'skylarklaw06.RingPlaces'. -/
def ringPlacesCard : Claim7 := { stood := { row := ringPlacesRow, standIns := [], harness := (true, "da0116917ce1f3911e7fb75714904853132256c0361ec9d9aa64638620f7a7bf"), looks := false }, kinds := [], alts := [], laidByText := true, laidKinds := [.data, .data, .data], laidTests := true, laidLooks := .later }
def RingPlacesCardSaid : Prop := Claim7.holds Tryd.pinned (.plain (OpenSpec.ofChange ringPlacesSpec)) ringPlacesCard

/-- THE TIED CARD OF 'skylarklaw07.LayoutChanges'. -/
def layoutChangesCard : Claim7 := { stood := { row := layoutChangesRow, standIns := [], harness := (true, "da0116917ce1f3911e7fb75714904853132256c0361ec9d9aa64638620f7a7bf"), looks := false }, kinds := [], alts := [], laidByText := true, laidKinds := [.data, .data, .data], laidTests := true, laidLooks := .later }
def LayoutChangesCardSaid : Prop := Claim7.holds Tryd.pinned (.plain (OpenSpec.ofChange layoutChangesSpec)) layoutChangesCard

/-- THE TIED CARD OF 'skylarklaw07.LayoutNext'. -/
def layoutNextCard : Claim7 := { stood := { row := layoutNextRow, standIns := [], harness := (true, "da0116917ce1f3911e7fb75714904853132256c0361ec9d9aa64638620f7a7bf"), looks := false }, kinds := [], alts := [], laidByText := true, laidKinds := [.data, .data, .data], laidTests := true, laidLooks := .later }
def LayoutNextCardSaid : Prop := Claim7.holds Tryd.pinned (.plain (OpenSpec.ofChange layoutNextSpec)) layoutNextCard

/-- THE TIED CARD OF 'skylarklaw07.LayoutOnce'. -/
def layoutOnceCard : Claim7 := { stood := { row := layoutOnceRow, standIns := [], harness := (true, "da0116917ce1f3911e7fb75714904853132256c0361ec9d9aa64638620f7a7bf"), looks := false }, kinds := [], alts := [], laidByText := true, laidKinds := [.data, .data, .data], laidTests := true, laidLooks := .later }
def LayoutOnceCardSaid : Prop := Claim7.holds Tryd.pinned (.plain (OpenSpec.ofChange layoutOnceSpec)) layoutOnceCard

/-- THE SECOND FORM's CARD OF 'skylarklaw06.RingPlaces'. -/
def ringPlacesUptoCard : Claim7 := { stood := { row := ringPlacesUptoRow, standIns := [], harness := (true, "da0116917ce1f3911e7fb75714904853132256c0361ec9d9aa64638620f7a7bf"), looks := false }, kinds := [], alts := [], laidByText := true, laidKinds := [.data, .data, .data], laidTests := true, laidLooks := .later }
def RingPlacesUptoCardSaid : Prop := Claim7.holds Tryd.pinned (.plain (OpenSpec.upto ringPlacesSpec)) ringPlacesUptoCard

/-- THE SECOND FORM's CARD OF 'skylarklaw07.LayoutChanges'. -/
def layoutChangesUptoCard : Claim7 := { stood := { row := layoutChangesUptoRow, standIns := [], harness := (true, "da0116917ce1f3911e7fb75714904853132256c0361ec9d9aa64638620f7a7bf"), looks := false }, kinds := [], alts := [], laidByText := true, laidKinds := [.data, .data, .data], laidTests := true, laidLooks := .later }
def LayoutChangesUptoCardSaid : Prop := Claim7.holds Tryd.pinned (.plain (OpenSpec.upto layoutChangesSpec)) layoutChangesUptoCard

/-- THE SECOND FORM's CARD OF 'skylarklaw07.LayoutNext'. -/
def layoutNextUptoCard : Claim7 := { stood := { row := layoutNextUptoRow, standIns := [], harness := (true, "da0116917ce1f3911e7fb75714904853132256c0361ec9d9aa64638620f7a7bf"), looks := false }, kinds := [], alts := [], laidByText := true, laidKinds := [.data, .data, .data], laidTests := true, laidLooks := .later }
def LayoutNextUptoCardSaid : Prop := Claim7.holds Tryd.pinned (.plain (OpenSpec.upto layoutNextSpec)) layoutNextUptoCard

/-- THE SECOND FORM's CARD OF 'skylarklaw07.LayoutOnce'. -/
def layoutOnceUptoCard : Claim7 := { stood := { row := layoutOnceUptoRow, standIns := [], harness := (true, "da0116917ce1f3911e7fb75714904853132256c0361ec9d9aa64638620f7a7bf"), looks := false }, kinds := [], alts := [], laidByText := true, laidKinds := [.data, .data, .data], laidTests := true, laidLooks := .later }
def LayoutOnceUptoCardSaid : Prop := Claim7.holds Tryd.pinned (.plain (OpenSpec.upto layoutOnceSpec)) layoutOnceUptoCard
end Rows
end Go.Proofs.YtcmdglmcmifflaaDoor
