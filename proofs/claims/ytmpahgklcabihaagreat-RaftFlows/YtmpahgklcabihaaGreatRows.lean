/-
  No cell of these rows narrows 'for every input' (looked for: loops, veiled, ifaces, maps, wideKeys, modest, calm, conditions, laid).
  DERIVED. THE GIVEN ROWS OF THIS SEAT. 4 by the template 'for every input the law returns true; each argument reads behind the call as it read before'; 0 by the template 'total and deterministic' (their statements: YtmpahgklcabihaaGreatTotals.lean).
  GIVEN WITH THE SEED: the statements are not yours to turn. If you find one false, say at which input.
  Laid BY PROGRAM, IN A SANDBOX (cutbox-rows.mjs): the forced cells as the released guide's own fill.sh prints them over the translation df4047c9bc9d2088… (all of the seat's roots in one cut). By AI agents, Wed Nov 11 2026. No macro, syntax, notation, axiom, sorry.
-/
import Derived.Test.YtmpahgklcabihaaGreatChecked
import GoSem.Claim
import GoSem.ClaimJoined
import GoSem.ClaimMapViews
import Derived.JoinedTies
import Derived.KernelRfl
namespace Go.Proofs.YtmpahgklcabihaaGreat
/- THE CELL 'sum', in the pinned program and in every row, IS THE sha256 OF THE DUMP (.gsa) THAT YtmpahgklcabihaaGreatProg.lean LOADS. Nothing in Lean hashes anything: it is a label: what it is worth is what the hold of that sum in a sandbox is worth. -/
noncomputable def Tryz.pinned : Pinned := { name := "ytmpahgklcabihaagreat", sum := "df4047c9bc9d2088702d80195c1dd1881c3c68a4cec06eebcc6566a65fe2da82", checked := Tryz.checked }
namespace Rows
def none {H : Type} : Left H := { results := [], args := [] }

/-- 'skylarklaw16.RaftPlays': WHATEVER THE INPUT: true; the input reads as it did. -/
def raftPlaysSpec : ChangeSpec := { name := "raftPlays", fn := fun _ => fun
  | [d1, d2] => { results := [.lit (.bool true)], args := [d1, d2] }
  | _ => none }
def raftPlaysRow : OpenClaim := { program := "ytmpahgklcabihaagreat", sum := "df4047c9bc9d2088702d80195c1dd1881c3c68a4cec06eebcc6566a65fe2da82", func := "skylark/skylarklaw16.RaftPlays", spec := "raftPlays", inPlace := ["internal/abi.NoEscape"], unfollowed := true, recurses := true, apart := false }
def RaftPlaysSaid : Prop := raftPlaysRow.holds Tryz.pinned (OpenSpec.ofChange raftPlaysSpec)

/-- ITS FALSE NEIGHBOUR: 'it returns false'. Refute it at one input. -/
def raftPlaysWrong : ChangeSpec := { name := "raftPlays", fn := fun _ => fun
  | [d1, d2] => { results := [.lit (.bool false)], args := [d1, d2] }
  | _ => none }
def RaftPlaysWrongFalsely : Prop := raftPlaysRow.holds Tryz.pinned (OpenSpec.ofChange raftPlaysWrong)

/-- 'skylarklaw16.RaftAlone': WHATEVER THE INPUT: true; the input reads as it did. -/
def raftAloneSpec : ChangeSpec := { name := "raftAlone", fn := fun _ => fun
  | [d1, d2] => { results := [.lit (.bool true)], args := [d1, d2] }
  | _ => none }
def raftAloneRow : OpenClaim := { program := "ytmpahgklcabihaagreat", sum := "df4047c9bc9d2088702d80195c1dd1881c3c68a4cec06eebcc6566a65fe2da82", func := "skylark/skylarklaw16.RaftAlone", spec := "raftAlone", inPlace := ["internal/abi.NoEscape"], unfollowed := true, recurses := true, apart := false }
def RaftAloneSaid : Prop := raftAloneRow.holds Tryz.pinned (OpenSpec.ofChange raftAloneSpec)

/-- ITS FALSE NEIGHBOUR: 'it returns false'. Refute it at one input. -/
def raftAloneWrong : ChangeSpec := { name := "raftAlone", fn := fun _ => fun
  | [d1, d2] => { results := [.lit (.bool false)], args := [d1, d2] }
  | _ => none }
def RaftAloneWrongFalsely : Prop := raftAloneRow.holds Tryz.pinned (OpenSpec.ofChange raftAloneWrong)

/-- 'skylarklaw16.RaftFlows': WHATEVER THE INPUT: true; the input reads as it did. -/
def raftFlowsSpec : ChangeSpec := { name := "raftFlows", fn := fun _ => fun
  | [d1, d2, d3] => { results := [.lit (.bool true)], args := [d1, d2, d3] }
  | _ => none }
def raftFlowsRow : OpenClaim := { program := "ytmpahgklcabihaagreat", sum := "df4047c9bc9d2088702d80195c1dd1881c3c68a4cec06eebcc6566a65fe2da82", func := "skylark/skylarklaw16.RaftFlows", spec := "raftFlows", inPlace := ["internal/abi.NoEscape"], unfollowed := true, recurses := true, apart := false }
def RaftFlowsSaid : Prop := raftFlowsRow.holds Tryz.pinned (OpenSpec.ofChange raftFlowsSpec)

/-- ITS FALSE NEIGHBOUR: 'it returns false'. Refute it at one input. -/
def raftFlowsWrong : ChangeSpec := { name := "raftFlows", fn := fun _ => fun
  | [d1, d2, d3] => { results := [.lit (.bool false)], args := [d1, d2, d3] }
  | _ => none }
def RaftFlowsWrongFalsely : Prop := raftFlowsRow.holds Tryz.pinned (OpenSpec.ofChange raftFlowsWrong)

/-- 'skylarklaw16.RaftRefuses': WHATEVER THE INPUT: true; the input reads as it did. -/
def raftRefusesSpec : ChangeSpec := { name := "raftRefuses", fn := fun _ => fun
  | [d1, d2] => { results := [.lit (.bool true)], args := [d1, d2] }
  | _ => none }
def raftRefusesRow : OpenClaim := { program := "ytmpahgklcabihaagreat", sum := "df4047c9bc9d2088702d80195c1dd1881c3c68a4cec06eebcc6566a65fe2da82", func := "skylark/skylarklaw16.RaftRefuses", spec := "raftRefuses", inPlace := ["internal/abi.NoEscape"], unfollowed := true, recurses := true, apart := false }
def RaftRefusesSaid : Prop := raftRefusesRow.holds Tryz.pinned (OpenSpec.ofChange raftRefusesSpec)

/-- ITS FALSE NEIGHBOUR: 'it returns false'. Refute it at one input. -/
def raftRefusesWrong : ChangeSpec := { name := "raftRefuses", fn := fun _ => fun
  | [d1, d2] => { results := [.lit (.bool false)], args := [d1, d2] }
  | _ => none }
def RaftRefusesWrongFalsely : Prop := raftRefusesRow.holds Tryz.pinned (OpenSpec.ofChange raftRefusesWrong)

/- THE SECOND FORM. 'bulk': how many values and letters a reading holds, each counted each time it is reached (what is shared counts as often as it is met; a slice's spare places count too). A statement '..UptoSaid' is the law's where the arguments, and the package variables that the reading takes, are together of bulk at most 1048576: NARROWER than '..Said'. Prove '..Said' where nothing that the law and all that it calls make is longer than what came in: it says more and counts as full. Else prove '..UptoSaid'. A law counts once. -/
mutual
def uptoBulk {H : Type} : DataW H → Nat
  | .lit (.string bytes) => bytes.length + 1
  | .lit _ => 1
  | .nil => 1
  | .ptr d => uptoBulk d + 1
  | .slice elems spare => uptoBulkAll elems + uptoBulkAll spare + 1
  | .agg parts => uptoBulkAll parts + 1
  | .iface _ d => uptoBulk d + 1
  | .map entries => uptoBulkEntries entries + 1
  | .held _ => 1
def uptoBulkAll {H : Type} : List (DataW H) → Nat
  | [] => 0
  | d :: r => uptoBulk d + uptoBulkAll r
def uptoBulkEntries {H : Type} : List (Lit × DataW H) → Nat
  | [] => 0
  | x :: r => uptoBulkEntry x + uptoBulkEntries r
def uptoBulkEntry {H : Type} : Lit × DataW H → Nat
  | (.string bytes, d) => bytes.length + uptoBulk d + 1
  | (_, d) => uptoBulk d + 1
 end
def uptoSmall : (H : Type) → List (DataW H) → Bool := fun _ ds => decide (uptoBulkAll ds ≤ 1048576)
def OpenSpec.upto (s : _root_.Go.ChangeSpec) : _root_.Go.OpenSpec := { _root_.Go.OpenSpec.ofChange s with cond := some uptoSmall }

/-- 'skylarklaw16.RaftPlays', WHERE WHAT IT READS IS OF BULK AT MOST 1048576: true; the input reads as it did. -/
def raftPlaysUptoRow : OpenClaim := { program := "ytmpahgklcabihaagreat", sum := "df4047c9bc9d2088702d80195c1dd1881c3c68a4cec06eebcc6566a65fe2da82", func := "skylark/skylarklaw16.RaftPlays", spec := "raftPlays", inPlace := ["internal/abi.NoEscape"], unfollowed := true, recurses := true, apart := false, narrowed := true }
def RaftPlaysUptoSaid : Prop := raftPlaysUptoRow.holds Tryz.pinned (OpenSpec.upto raftPlaysSpec)

/-- 'skylarklaw16.RaftAlone', WHERE WHAT IT READS IS OF BULK AT MOST 1048576: true; the input reads as it did. -/
def raftAloneUptoRow : OpenClaim := { program := "ytmpahgklcabihaagreat", sum := "df4047c9bc9d2088702d80195c1dd1881c3c68a4cec06eebcc6566a65fe2da82", func := "skylark/skylarklaw16.RaftAlone", spec := "raftAlone", inPlace := ["internal/abi.NoEscape"], unfollowed := true, recurses := true, apart := false, narrowed := true }
def RaftAloneUptoSaid : Prop := raftAloneUptoRow.holds Tryz.pinned (OpenSpec.upto raftAloneSpec)

/-- 'skylarklaw16.RaftFlows', WHERE WHAT IT READS IS OF BULK AT MOST 1048576: true; the input reads as it did. -/
def raftFlowsUptoRow : OpenClaim := { program := "ytmpahgklcabihaagreat", sum := "df4047c9bc9d2088702d80195c1dd1881c3c68a4cec06eebcc6566a65fe2da82", func := "skylark/skylarklaw16.RaftFlows", spec := "raftFlows", inPlace := ["internal/abi.NoEscape"], unfollowed := true, recurses := true, apart := false, narrowed := true }
def RaftFlowsUptoSaid : Prop := raftFlowsUptoRow.holds Tryz.pinned (OpenSpec.upto raftFlowsSpec)

/-- 'skylarklaw16.RaftRefuses', WHERE WHAT IT READS IS OF BULK AT MOST 1048576: true; the input reads as it did. -/
def raftRefusesUptoRow : OpenClaim := { program := "ytmpahgklcabihaagreat", sum := "df4047c9bc9d2088702d80195c1dd1881c3c68a4cec06eebcc6566a65fe2da82", func := "skylark/skylarklaw16.RaftRefuses", spec := "raftRefuses", inPlace := ["internal/abi.NoEscape"], unfollowed := true, recurses := true, apart := false, narrowed := true }
def RaftRefusesUptoSaid : Prop := raftRefusesUptoRow.holds Tryz.pinned (OpenSpec.upto raftRefusesSpec)

end Rows
end Go.Proofs.YtmpahgklcabihaaGreat
