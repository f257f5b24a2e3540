/-
  No cell of these rows narrows 'for every input' (looked for: loops, veiled, ifaces, maps, wideKeys, modest, calm, conditions, laid).
  DERIVED. THE GIVEN ROWS OF THIS SEAT. 4 by the template 'for every input the law returns true; each argument reads behind the call as it read before'; 0 by the template 'total and deterministic' (their statements: YtnmgiiiafefgdaaGreatTotals.lean).
  GIVEN WITH THE SEED: the statements are not yours to turn. If you find one false, say at which input.
  Laid BY PROGRAM, IN A SANDBOX (cutbox-rows.mjs): the forced cells as the released guide's own fill.sh prints them over the translation c6c9c74a5090a90c… (all of the seat's roots in one cut). By AI agents, Wed Nov 11 2026. No macro, syntax, notation, axiom, sorry.
-/
import Derived.Test.YtnmgiiiafefgdaaGreatChecked
import GoSem.Claim
import GoSem.ClaimJoined
import GoSem.ClaimMapViews
import Derived.JoinedTies
import Derived.KernelRfl
namespace Go.Proofs.YtnmgiiiafefgdaaGreat
/- THE CELL 'sum', in the pinned program and in every row, IS THE sha256 OF THE DUMP (.gsa) THAT YtnmgiiiafefgdaaGreatProg.lean LOADS. Nothing in Lean hashes anything: it is a label: what it is worth is what the hold of that sum in a sandbox is worth. -/
noncomputable def Tryz.pinned : Pinned := { name := "ytnmgiiiafefgdaagreat", sum := "c6c9c74a5090a90c465645fcf9b5b7a73529bd3af9d0f75110695076af7b1c96", checked := Tryz.checked }
namespace Rows
def none {H : Type} : Left H := { results := [], args := [] }

/-- 'skylarklaw15.BallotPlays': WHATEVER THE INPUT: true; the input reads as it did. -/
def ballotPlaysSpec : ChangeSpec := { name := "ballotPlays", fn := fun _ => fun
  | [d1, d2, d3] => { results := [.lit (.bool true)], args := [d1, d2, d3] }
  | _ => none }
def ballotPlaysRow : OpenClaim := { program := "ytnmgiiiafefgdaagreat", sum := "c6c9c74a5090a90c465645fcf9b5b7a73529bd3af9d0f75110695076af7b1c96", func := "skylark/skylarklaw15.BallotPlays", spec := "ballotPlays", inPlace := ["internal/abi.NoEscape"], unfollowed := true, recurses := true, apart := false }
def BallotPlaysSaid : Prop := ballotPlaysRow.holds Tryz.pinned (OpenSpec.ofChange ballotPlaysSpec)

/-- ITS FALSE NEIGHBOUR: 'it returns false'. Refute it at one input. -/
def ballotPlaysWrong : ChangeSpec := { name := "ballotPlays", fn := fun _ => fun
  | [d1, d2, d3] => { results := [.lit (.bool false)], args := [d1, d2, d3] }
  | _ => none }
def BallotPlaysWrongFalsely : Prop := ballotPlaysRow.holds Tryz.pinned (OpenSpec.ofChange ballotPlaysWrong)

/-- 'skylarklaw15.BallotLasts': WHATEVER THE INPUT: true; the input reads as it did. -/
def ballotLastsSpec : ChangeSpec := { name := "ballotLasts", fn := fun _ => fun
  | [d] => { results := [.lit (.bool true)], args := [d] }
  | _ => none }
def ballotLastsRow : OpenClaim := { program := "ytnmgiiiafefgdaagreat", sum := "c6c9c74a5090a90c465645fcf9b5b7a73529bd3af9d0f75110695076af7b1c96", func := "skylark/skylarklaw15.BallotLasts", spec := "ballotLasts", inPlace := ["internal/abi.NoEscape"], unfollowed := true, recurses := true, apart := false }
def BallotLastsSaid : Prop := ballotLastsRow.holds Tryz.pinned (OpenSpec.ofChange ballotLastsSpec)

/-- ITS FALSE NEIGHBOUR: 'it returns false'. Refute it at one input. -/
def ballotLastsWrong : ChangeSpec := { name := "ballotLasts", fn := fun _ => fun
  | [d] => { results := [.lit (.bool false)], args := [d] }
  | _ => none }
def BallotLastsWrongFalsely : Prop := ballotLastsRow.holds Tryz.pinned (OpenSpec.ofChange ballotLastsWrong)

/-- 'skylarklaw15.BallotVotes': WHATEVER THE INPUT: true; the input reads as it did. -/
def ballotVotesSpec : ChangeSpec := { name := "ballotVotes", fn := fun _ => fun
  | [d] => { results := [.lit (.bool true)], args := [d] }
  | _ => none }
def ballotVotesRow : OpenClaim := { program := "ytnmgiiiafefgdaagreat", sum := "c6c9c74a5090a90c465645fcf9b5b7a73529bd3af9d0f75110695076af7b1c96", func := "skylark/skylarklaw15.BallotVotes", spec := "ballotVotes", inPlace := ["internal/abi.NoEscape"], unfollowed := true, recurses := true, apart := false }
def BallotVotesSaid : Prop := ballotVotesRow.holds Tryz.pinned (OpenSpec.ofChange ballotVotesSpec)

/-- ITS FALSE NEIGHBOUR: 'it returns false'. Refute it at one input. -/
def ballotVotesWrong : ChangeSpec := { name := "ballotVotes", fn := fun _ => fun
  | [d] => { results := [.lit (.bool false)], args := [d] }
  | _ => none }
def BallotVotesWrongFalsely : Prop := ballotVotesRow.holds Tryz.pinned (OpenSpec.ofChange ballotVotesWrong)

/-- 'skylarklaw15.BallotLog': WHATEVER THE INPUT: true; the input reads as it did. -/
def ballotLogSpec : ChangeSpec := { name := "ballotLog", fn := fun _ => fun
  | [d] => { results := [.lit (.bool true)], args := [d] }
  | _ => none }
def ballotLogRow : OpenClaim := { program := "ytnmgiiiafefgdaagreat", sum := "c6c9c74a5090a90c465645fcf9b5b7a73529bd3af9d0f75110695076af7b1c96", func := "skylark/skylarklaw15.BallotLog", spec := "ballotLog", inPlace := ["internal/abi.NoEscape"], unfollowed := true, recurses := true, apart := false }
def BallotLogSaid : Prop := ballotLogRow.holds Tryz.pinned (OpenSpec.ofChange ballotLogSpec)

/-- ITS FALSE NEIGHBOUR: 'it returns false'. Refute it at one input. -/
def ballotLogWrong : ChangeSpec := { name := "ballotLog", fn := fun _ => fun
  | [d] => { results := [.lit (.bool false)], args := [d] }
  | _ => none }
def BallotLogWrongFalsely : Prop := ballotLogRow.holds Tryz.pinned (OpenSpec.ofChange ballotLogWrong)

/- THE SECOND FORM. 'bulk': how many values and letters a reading holds, each counted each time it is reached (what is shared counts as often as it is met; a slice's spare places count too). A statement '..UptoSaid' is the law's where the arguments, and the package variables that the reading takes, are together of bulk at most 1048576: NARROWER than '..Said'. Prove '..Said' where nothing that the law and all that it calls make is longer than what came in: it says more and counts as full. Else prove '..UptoSaid'. A law counts once. -/
mutual
def uptoBulk {H : Type} : DataW H → Nat
  | .lit (.string bytes) => bytes.length + 1
  | .lit _ => 1
  | .nil => 1
  | .ptr d => uptoBulk d + 1
  | .slice elems spare => uptoBulkAll elems + uptoBulkAll spare + 1
  | .agg parts => uptoBulkAll parts + 1
  | .iface _ d => uptoBulk d + 1
  | .map entries => uptoBulkEntries entries + 1
  | .held _ => 1
def uptoBulkAll {H : Type} : List (DataW H) → Nat
  | [] => 0
  | d :: r => uptoBulk d + uptoBulkAll r
def uptoBulkEntries {H : Type} : List (Lit × DataW H) → Nat
  | [] => 0
  | x :: r => uptoBulkEntry x + uptoBulkEntries r
def uptoBulkEntry {H : Type} : Lit × DataW H → Nat
  | (.string bytes, d) => bytes.length + uptoBulk d + 1
  | (_, d) => uptoBulk d + 1
 end
def uptoSmall : (H : Type) → List (DataW H) → Bool := fun _ ds => decide (uptoBulkAll ds ≤ 1048576)
def OpenSpec.upto (s : _root_.Go.ChangeSpec) : _root_.Go.OpenSpec := { _root_.Go.OpenSpec.ofChange s with cond := some uptoSmall }

/-- 'skylarklaw15.BallotPlays', WHERE WHAT IT READS IS OF BULK AT MOST 1048576: true; the input reads as it did. -/
def ballotPlaysUptoRow : OpenClaim := { program := "ytnmgiiiafefgdaagreat", sum := "c6c9c74a5090a90c465645fcf9b5b7a73529bd3af9d0f75110695076af7b1c96", func := "skylark/skylarklaw15.BallotPlays", spec := "ballotPlays", inPlace := ["internal/abi.NoEscape"], unfollowed := true, recurses := true, apart := false, narrowed := true }
def BallotPlaysUptoSaid : Prop := ballotPlaysUptoRow.holds Tryz.pinned (OpenSpec.upto ballotPlaysSpec)

/-- 'skylarklaw15.BallotLasts', WHERE WHAT IT READS IS OF BULK AT MOST 1048576: true; the input reads as it did. -/
def ballotLastsUptoRow : OpenClaim := { program := "ytnmgiiiafefgdaagreat", sum := "c6c9c74a5090a90c465645fcf9b5b7a73529bd3af9d0f75110695076af7b1c96", func := "skylark/skylarklaw15.BallotLasts", spec := "ballotLasts", inPlace := ["internal/abi.NoEscape"], unfollowed := true, recurses := true, apart := false, narrowed := true }
def BallotLastsUptoSaid : Prop := ballotLastsUptoRow.holds Tryz.pinned (OpenSpec.upto ballotLastsSpec)

/-- 'skylarklaw15.BallotVotes', WHERE WHAT IT READS IS OF BULK AT MOST 1048576: true; the input reads as it did. -/
def ballotVotesUptoRow : OpenClaim := { program := "ytnmgiiiafefgdaagreat", sum := "c6c9c74a5090a90c465645fcf9b5b7a73529bd3af9d0f75110695076af7b1c96", func := "skylark/skylarklaw15.BallotVotes", spec := "ballotVotes", inPlace := ["internal/abi.NoEscape"], unfollowed := true, recurses := true, apart := false, narrowed := true }
def BallotVotesUptoSaid : Prop := ballotVotesUptoRow.holds Tryz.pinned (OpenSpec.upto ballotVotesSpec)

/-- 'skylarklaw15.BallotLog', WHERE WHAT IT READS IS OF BULK AT MOST 1048576: true; the input reads as it did. -/
def ballotLogUptoRow : OpenClaim := { program := "ytnmgiiiafefgdaagreat", sum := "c6c9c74a5090a90c465645fcf9b5b7a73529bd3af9d0f75110695076af7b1c96", func := "skylark/skylarklaw15.BallotLog", spec := "ballotLog", inPlace := ["internal/abi.NoEscape"], unfollowed := true, recurses := true, apart := false, narrowed := true }
def BallotLogUptoSaid : Prop := ballotLogUptoRow.holds Tryz.pinned (OpenSpec.upto ballotLogSpec)

end Rows
end Go.Proofs.YtnmgiiiafefgdaaGreat
