/-
  DERIVED. GIVEN WITH THE SEED: THE CARDS: each row of YtpefdccbfocmoaaDoorRows.lean that lists a variable, with what it lists TIED to the program's text (the seventh form; the later family's looks); each row that meets fmt, with fmt's text TOLD by the authors' own Lean function (tested against real Go, not proved from fmt's source: count such statements apart). THE CARD IS WHAT COUNTS. Prove the row's statement (the work); the ties are given (YtpefdccbfocmoaaDoorTie.lean); close each card by the builder's one call (the guide's Derived/Test/ToyasCard.lean, 'card_holds'). Laid BY PROGRAM, IN A SANDBOX (cutbox-door.mjs). By AI agents, Wed Nov 11 2026. No macro, syntax, notation, axiom, sorry.
-/
import Derived.Test.YtpefdccbfocmoaaDoorRows
import GoSem.ClaimSeven
namespace Go.Proofs.YtpefdccbfocmoaaDoor
namespace Rows

/-- THE TIED CARD OF 'skylarklaw06.RingPoints'. -/
def ringPointsCard : Claim7 := { stood := { row := ringPointsRow, standIns := [], harness := (true, "de6a8be0c1279e6c7c8ff4c7855d7133a2c1d89bc484e5f9f01e51ae19946188"), looks := false }, kinds := [], alts := [], laidByText := true, laidKinds := [.data, .data, .data], laidTests := true, laidLooks := .later }
def RingPointsCardSaid : Prop := Claim7.holds Tryd.pinned (.plain (OpenSpec.ofChange ringPointsSpec)) ringPointsCard

/-- THE TIED CARD OF 'skylarklaw06.RingKeys'. -/
def ringKeysCard : Claim7 := { stood := { row := ringKeysRow, standIns := [], harness := (true, "de6a8be0c1279e6c7c8ff4c7855d7133a2c1d89bc484e5f9f01e51ae19946188"), looks := false }, kinds := [], alts := [], laidByText := true, laidKinds := [.data, .data, .data], laidTests := true, laidLooks := .later }
def RingKeysCardSaid : Prop := Claim7.holds Tryd.pinned (.plain (OpenSpec.ofChange ringKeysSpec)) ringKeysCard

/-- THE TIED CARD OF 'skylarklaw06.RingGrows'. -/
def ringGrowsCard : Claim7 := { stood := { row := ringGrowsRow, standIns := [], harness := (true, "de6a8be0c1279e6c7c8ff4c7855d7133a2c1d89bc484e5f9f01e51ae19946188"), looks := false }, kinds := [], alts := [], laidByText := true, laidKinds := [.data, .data, .data], laidTests := true, laidLooks := .later }
def RingGrowsCardSaid : Prop := Claim7.holds Tryd.pinned (.plain (OpenSpec.ofChange ringGrowsSpec)) ringGrowsCard

/-- THE TIED CARD OF 'skylarklaw06.RingPlaces'. -/
def ringPlacesCard : Claim7 := { stood := { row := ringPlacesRow, standIns := [], harness := (true, "de6a8be0c1279e6c7c8ff4c7855d7133a2c1d89bc484e5f9f01e51ae19946188"), looks := false }, kinds := [], alts := [], laidByText := true, laidKinds := [.data, .data, .data], laidTests := true, laidLooks := .later }
def RingPlacesCardSaid : Prop := Claim7.holds Tryd.pinned (.plain (OpenSpec.ofChange ringPlacesSpec)) ringPlacesCard

/-- THE TIED CARD OF 'skylarklaw06.RingSame'. -/
def ringSameCard : Claim7 := { stood := { row := ringSameRow, standIns := [], harness := (true, "de6a8be0c1279e6c7c8ff4c7855d7133a2c1d89bc484e5f9f01e51ae19946188"), looks := false }, kinds := [], alts := [], laidByText := true, laidKinds := [.data, .data, .data], laidTests := true, laidLooks := .later }
def RingSameCardSaid : Prop := Claim7.holds Tryd.pinned (.plain (OpenSpec.ofChange ringSameSpec)) ringSameCard

/-- THE TIED CARD OF 'skylarklaw07.LayoutChanges'. -/
def layoutChangesCard : Claim7 := { stood := { row := layoutChangesRow, standIns := [], harness := (true, "de6a8be0c1279e6c7c8ff4c7855d7133a2c1d89bc484e5f9f01e51ae19946188"), looks := false }, kinds := [], alts := [], laidByText := true, laidKinds := [.data, .data, .data], laidTests := true, laidLooks := .later }
def LayoutChangesCardSaid : Prop := Claim7.holds Tryd.pinned (.plain (OpenSpec.ofChange layoutChangesSpec)) layoutChangesCard

/-- THE SECOND FORM's CARD OF 'skylarklaw06.RingPoints'. -/
def ringPointsUptoCard : Claim7 := { stood := { row := ringPointsUptoRow, standIns := [], harness := (true, "de6a8be0c1279e6c7c8ff4c7855d7133a2c1d89bc484e5f9f01e51ae19946188"), looks := false }, kinds := [], alts := [], laidByText := true, laidKinds := [.data, .data, .data], laidTests := true, laidLooks := .later }
def RingPointsUptoCardSaid : Prop := Claim7.holds Tryd.pinned (.plain (OpenSpec.upto ringPointsSpec)) ringPointsUptoCard

/-- THE SECOND FORM's CARD OF 'skylarklaw06.RingKeys'. -/
def ringKeysUptoCard : Claim7 := { stood := { row := ringKeysUptoRow, standIns := [], harness := (true, "de6a8be0c1279e6c7c8ff4c7855d7133a2c1d89bc484e5f9f01e51ae19946188"), looks := false }, kinds := [], alts := [], laidByText := true, laidKinds := [.data, .data, .data], laidTests := true, laidLooks := .later }
def RingKeysUptoCardSaid : Prop := Claim7.holds Tryd.pinned (.plain (OpenSpec.upto ringKeysSpec)) ringKeysUptoCard

/-- THE SECOND FORM's CARD OF 'skylarklaw06.RingGrows'. -/
def ringGrowsUptoCard : Claim7 := { stood := { row := ringGrowsUptoRow, standIns := [], harness := (true, "de6a8be0c1279e6c7c8ff4c7855d7133a2c1d89bc484e5f9f01e51ae19946188"), looks := false }, kinds := [], alts := [], laidByText := true, laidKinds := [.data, .data, .data], laidTests := true, laidLooks := .later }
def RingGrowsUptoCardSaid : Prop := Claim7.holds Tryd.pinned (.plain (OpenSpec.upto ringGrowsSpec)) ringGrowsUptoCard

/-- THE SECOND FORM's CARD OF 'skylarklaw06.RingPlaces'. -/
def ringPlacesUptoCard : Claim7 := { stood := { row := ringPlacesUptoRow, standIns := [], harness := (true, "de6a8be0c1279e6c7c8ff4c7855d7133a2c1d89bc484e5f9f01e51ae19946188"), looks := false }, kinds := [], alts := [], laidByText := true, laidKinds := [.data, .data, .data], laidTests := true, laidLooks := .later }
def RingPlacesUptoCardSaid : Prop := Claim7.holds Tryd.pinned (.plain (OpenSpec.upto ringPlacesSpec)) ringPlacesUptoCard

/-- THE SECOND FORM's CARD OF 'skylarklaw06.RingSame'. -/
def ringSameUptoCard : Claim7 := { stood := { row := ringSameUptoRow, standIns := [], harness := (true, "de6a8be0c1279e6c7c8ff4c7855d7133a2c1d89bc484e5f9f01e51ae19946188"), looks := false }, kinds := [], alts := [], laidByText := true, laidKinds := [.data, .data, .data], laidTests := true, laidLooks := .later }
def RingSameUptoCardSaid : Prop := Claim7.holds Tryd.pinned (.plain (OpenSpec.upto ringSameSpec)) ringSameUptoCard

/-- THE SECOND FORM's CARD OF 'skylarklaw07.LayoutChanges'. -/
def layoutChangesUptoCard : Claim7 := { stood := { row := layoutChangesUptoRow, standIns := [], harness := (true, "de6a8be0c1279e6c7c8ff4c7855d7133a2c1d89bc484e5f9f01e51ae19946188"), looks := false }, kinds := [], alts := [], laidByText := true, laidKinds := [.data, .data, .data], laidTests := true, laidLooks := .later }
def LayoutChangesUptoCardSaid : Prop := Claim7.holds Tryd.pinned (.plain (OpenSpec.upto layoutChangesSpec)) layoutChangesUptoCard
end Rows
end Go.Proofs.YtpefdccbfocmoaaDoor
