/-
  DERIVED. GIVEN WITH THE SEED: THE CARDS: each row of YtlojajgehaiefaaGreatDoorRows.lean that lists a variable, with what it lists TIED to the program's text (the seventh form; the later family's looks); each row that meets fmt, with fmt's text TOLD by the authors' own Lean function (tested against real Go, not proved from fmt's source: count such statements apart). THE CARD IS WHAT COUNTS. Prove the row's statement (the work); the ties are given (YtlojajgehaiefaaGreatDoorTie.lean); close each card by the builder's one call (the guide's Derived/Test/ToyasCard.lean, 'card_holds'). Laid BY PROGRAM, IN A SANDBOX (cutbox-door.mjs). By AI agents, Wed Nov 11 2026. No macro, syntax, notation, axiom, sorry.
-/
import Derived.Test.YtlojajgehaiefaaGreatDoorRows
import GoSem.ClaimSeven
namespace Go.Proofs.YtlojajgehaiefaaGreatDoor
namespace Rows

/-- THE TIED CARD OF 'skylarklaw11.ValsPlays'. -/
def valsPlaysCard : Claim7 := { stood := { row := valsPlaysRow, standIns := [], harness := (true, "68eaf82514824399c9e31d6c9c62b62330340bfbcbd3771acaa261243c68d41a"), looks := true }, kinds := [], alts := [], laidByText := true, laidKinds := [.data, .data, .data, .sentinel, .sentinel], laidTests := true, laidLooks := .later }
def ValsPlaysCardSaid : Prop := Claim7.holds Tryz.pinned (.plain (OpenSpec.ofChange valsPlaysSpec)) valsPlaysCard

/-- THE TIED CARD OF 'skylarklaw11.ValsBack'. -/
def valsBackCard : Claim7 := { stood := { row := valsBackRow, standIns := [], harness := (true, "68eaf82514824399c9e31d6c9c62b62330340bfbcbd3771acaa261243c68d41a"), looks := true }, kinds := [], alts := [], laidByText := true, laidKinds := [.data, .data, .data, .sentinel, .sentinel], laidTests := true, laidLooks := .later }
def ValsBackCardSaid : Prop := Claim7.holds Tryz.pinned (.plain (OpenSpec.ofChange valsBackSpec)) valsBackCard

/-- THE TIED CARD OF 'skylarklaw11.ValsSafe'. -/
def valsSafeCard : Claim7 := { stood := { row := valsSafeRow, standIns := [], harness := (true, "68eaf82514824399c9e31d6c9c62b62330340bfbcbd3771acaa261243c68d41a"), looks := true }, kinds := [], alts := [], laidByText := true, laidKinds := [.data, .data, .data, .sentinel, .sentinel], laidTests := true, laidLooks := .later }
def ValsSafeCardSaid : Prop := Claim7.holds Tryz.pinned (.plain (OpenSpec.ofChange valsSafeSpec)) valsSafeCard

/-- THE TIED CARD OF 'skylarklaw11.ValsFresh'. -/
def valsFreshCard : Claim7 := { stood := { row := valsFreshRow, standIns := [], harness := (true, "68eaf82514824399c9e31d6c9c62b62330340bfbcbd3771acaa261243c68d41a"), looks := true }, kinds := [], alts := [], laidByText := true, laidKinds := [.data, .data, .data, .sentinel, .sentinel], laidTests := true, laidLooks := .later }
def ValsFreshCardSaid : Prop := Claim7.holds Tryz.pinned (.plain (OpenSpec.ofChange valsFreshSpec)) valsFreshCard

/-- THE SECOND FORM's CARD OF 'skylarklaw11.ValsPlays'. -/
def valsPlaysUptoCard : Claim7 := { stood := { row := valsPlaysUptoRow, standIns := [], harness := (true, "68eaf82514824399c9e31d6c9c62b62330340bfbcbd3771acaa261243c68d41a"), looks := true }, kinds := [], alts := [], laidByText := true, laidKinds := [.data, .data, .data, .sentinel, .sentinel], laidTests := true, laidLooks := .later }
def ValsPlaysUptoCardSaid : Prop := Claim7.holds Tryz.pinned (.plain (OpenSpec.upto valsPlaysSpec)) valsPlaysUptoCard

/-- THE SECOND FORM's CARD OF 'skylarklaw11.ValsBack'. -/
def valsBackUptoCard : Claim7 := { stood := { row := valsBackUptoRow, standIns := [], harness := (true, "68eaf82514824399c9e31d6c9c62b62330340bfbcbd3771acaa261243c68d41a"), looks := true }, kinds := [], alts := [], laidByText := true, laidKinds := [.data, .data, .data, .sentinel, .sentinel], laidTests := true, laidLooks := .later }
def ValsBackUptoCardSaid : Prop := Claim7.holds Tryz.pinned (.plain (OpenSpec.upto valsBackSpec)) valsBackUptoCard

/-- THE SECOND FORM's CARD OF 'skylarklaw11.ValsSafe'. -/
def valsSafeUptoCard : Claim7 := { stood := { row := valsSafeUptoRow, standIns := [], harness := (true, "68eaf82514824399c9e31d6c9c62b62330340bfbcbd3771acaa261243c68d41a"), looks := true }, kinds := [], alts := [], laidByText := true, laidKinds := [.data, .data, .data, .sentinel, .sentinel], laidTests := true, laidLooks := .later }
def ValsSafeUptoCardSaid : Prop := Claim7.holds Tryz.pinned (.plain (OpenSpec.upto valsSafeSpec)) valsSafeUptoCard

/-- THE SECOND FORM's CARD OF 'skylarklaw11.ValsFresh'. -/
def valsFreshUptoCard : Claim7 := { stood := { row := valsFreshUptoRow, standIns := [], harness := (true, "68eaf82514824399c9e31d6c9c62b62330340bfbcbd3771acaa261243c68d41a"), looks := true }, kinds := [], alts := [], laidByText := true, laidKinds := [.data, .data, .data, .sentinel, .sentinel], laidTests := true, laidLooks := .later }
def ValsFreshUptoCardSaid : Prop := Claim7.holds Tryz.pinned (.plain (OpenSpec.upto valsFreshSpec)) valsFreshUptoCard
end Rows
end Go.Proofs.YtlojajgehaiefaaGreatDoor
