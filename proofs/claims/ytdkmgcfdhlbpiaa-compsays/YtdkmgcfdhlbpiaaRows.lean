/-
  No cell of these rows narrows 'for every input' (looked for: loops, veiled, ifaces, maps, wideKeys, modest, calm, conditions, laid).
  DERIVED. THE GIVEN ROWS OF THIS SEAT. 6 by the template 'for every input the law returns true; each argument reads behind the call as it read before'; 0 by the template 'total and deterministic' (their statements: YtdkmgcfdhlbpiaaTotals.lean).
  GIVEN WITH THE SEED: the statements are not yours to turn. If you find one false, say at which input.
  Laid BY PROGRAM, IN A SANDBOX (cutbox-rows.mjs): the forced cells as the released guide's own fill.sh prints them over the translation 29a873626d1b825c… (all of the seat's roots in one cut). By AI agents, Wed Nov 11 2026. No macro, syntax, notation, axiom, sorry.
-/
import Derived.Test.YtdkmgcfdhlbpiaaChecked
import GoSem.Claim
import GoSem.ClaimJoined
import GoSem.ClaimMapViews
import Derived.JoinedTies
import Derived.KernelRfl
namespace Go.Proofs.Ytdkmgcfdhlbpiaa
/- THE CELL 'sum', in the pinned program and in every row, IS THE sha256 OF THE DUMP (.gsa) THAT YtdkmgcfdhlbpiaaProg.lean LOADS. Nothing in Lean hashes anything: it is a label: what it is worth is what the hold of that sum in a sandbox is worth. -/
noncomputable def Try.pinned : Pinned := { name := "ytdkmgcfdhlbpiaa", sum := "29a873626d1b825ca4d245e37c9e10d5095506ff45bf9d7b22b2088ed6d54b57", checked := Try.checked }
namespace Rows
def none {H : Type} : Left H := { results := [], args := [] }

/-- 'scrivlaw.CompSays': WHATEVER THE INPUT: true; the input reads as it did. -/
def compSaysSpec : ChangeSpec := { name := "compSays", fn := fun _ => fun
  | [d1, d2] => { results := [.lit (.bool true)], args := [d1, d2] }
  | _ => none }
def compSaysRow : OpenClaim := { program := "ytdkmgcfdhlbpiaa", sum := "29a873626d1b825ca4d245e37c9e10d5095506ff45bf9d7b22b2088ed6d54b57", func := "scrivenry/scrivlaw.CompSays", spec := "compSays", inPlace := ["internal/abi.NoEscape", "internal/bytealg.MakeNoZero"], unfollowed := true, recurses := true, apart := false }
def CompSaysSaid : Prop := compSaysRow.holds Try.pinned (OpenSpec.ofChange compSaysSpec)

/-- ITS FALSE NEIGHBOUR: 'it returns false'. Refute it at one input. -/
def compSaysWrong : ChangeSpec := { name := "compSays", fn := fun _ => fun
  | [d1, d2] => { results := [.lit (.bool false)], args := [d1, d2] }
  | _ => none }
def CompSaysWrongFalsely : Prop := compSaysRow.holds Try.pinned (OpenSpec.ofChange compSaysWrong)

/-- 'scrivlaw.TurnSays': WHATEVER THE INPUT: true; the input reads as it did. -/
def turnSaysSpec : ChangeSpec := { name := "turnSays", fn := fun _ => fun
  | [d1, d2] => { results := [.lit (.bool true)], args := [d1, d2] }
  | _ => none }
def turnSaysRow : OpenClaim := { program := "ytdkmgcfdhlbpiaa", sum := "29a873626d1b825ca4d245e37c9e10d5095506ff45bf9d7b22b2088ed6d54b57", func := "scrivenry/scrivlaw.TurnSays", spec := "turnSays", unfollowed := true, recurses := true, apart := false }
def TurnSaysSaid : Prop := turnSaysRow.holds Try.pinned (OpenSpec.ofChange turnSaysSpec)

/-- ITS FALSE NEIGHBOUR: 'it returns false'. Refute it at one input. -/
def turnSaysWrong : ChangeSpec := { name := "turnSays", fn := fun _ => fun
  | [d1, d2] => { results := [.lit (.bool false)], args := [d1, d2] }
  | _ => none }
def TurnSaysWrongFalsely : Prop := turnSaysRow.holds Try.pinned (OpenSpec.ofChange turnSaysWrong)

/-- 'scrivkeep.CompDoes': WHATEVER THE INPUT: true; the input reads as it did. -/
def compDoesSpec : ChangeSpec := { name := "compDoes", fn := fun _ => fun
  | [d1, d2, d3] => { results := [.lit (.bool true)], args := [d1, d2, d3] }
  | _ => none }
def compDoesRow : OpenClaim := { program := "ytdkmgcfdhlbpiaa", sum := "29a873626d1b825ca4d245e37c9e10d5095506ff45bf9d7b22b2088ed6d54b57", func := "scrivenry/scrivkeep.CompDoes", spec := "compDoes", inPlace := ["internal/abi.NoEscape"], apart := false }
def CompDoesSaid : Prop := compDoesRow.holds Try.pinned (OpenSpec.ofChange compDoesSpec)

/-- ITS FALSE NEIGHBOUR: 'it returns false'. Refute it at one input. -/
def compDoesWrong : ChangeSpec := { name := "compDoes", fn := fun _ => fun
  | [d1, d2, d3] => { results := [.lit (.bool false)], args := [d1, d2, d3] }
  | _ => none }
def CompDoesWrongFalsely : Prop := compDoesRow.holds Try.pinned (OpenSpec.ofChange compDoesWrong)

/-- 'scrivkeep.CompJoins': WHATEVER THE INPUT: true; the input reads as it did. -/
def compJoinsSpec : ChangeSpec := { name := "compJoins", fn := fun _ => fun
  | [d1, d2, d3] => { results := [.lit (.bool true)], args := [d1, d2, d3] }
  | _ => none }
def compJoinsRow : OpenClaim := { program := "ytdkmgcfdhlbpiaa", sum := "29a873626d1b825ca4d245e37c9e10d5095506ff45bf9d7b22b2088ed6d54b57", func := "scrivenry/scrivkeep.CompJoins", spec := "compJoins", apart := false }
def CompJoinsSaid : Prop := compJoinsRow.holds Try.pinned (OpenSpec.ofChange compJoinsSpec)

/-- ITS FALSE NEIGHBOUR: 'it returns false'. Refute it at one input. -/
def compJoinsWrong : ChangeSpec := { name := "compJoins", fn := fun _ => fun
  | [d1, d2, d3] => { results := [.lit (.bool false)], args := [d1, d2, d3] }
  | _ => none }
def CompJoinsWrongFalsely : Prop := compJoinsRow.holds Try.pinned (OpenSpec.ofChange compJoinsWrong)

/-- 'scrivkeep.TurnBack': WHATEVER THE INPUT: true; the input reads as it did. -/
def turnBackSpec : ChangeSpec := { name := "turnBack", fn := fun _ => fun
  | [d1, d2] => { results := [.lit (.bool true)], args := [d1, d2] }
  | _ => none }
def turnBackRow : OpenClaim := { program := "ytdkmgcfdhlbpiaa", sum := "29a873626d1b825ca4d245e37c9e10d5095506ff45bf9d7b22b2088ed6d54b57", func := "scrivenry/scrivkeep.TurnBack", spec := "turnBack", inPlace := ["internal/abi.NoEscape"], apart := false }
def TurnBackSaid : Prop := turnBackRow.holds Try.pinned (OpenSpec.ofChange turnBackSpec)

/-- ITS FALSE NEIGHBOUR: 'it returns false'. Refute it at one input. -/
def turnBackWrong : ChangeSpec := { name := "turnBack", fn := fun _ => fun
  | [d1, d2] => { results := [.lit (.bool false)], args := [d1, d2] }
  | _ => none }
def TurnBackWrongFalsely : Prop := turnBackRow.holds Try.pinned (OpenSpec.ofChange turnBackWrong)

/-- 'scrivkeep.TurnParts': WHATEVER THE INPUT: true; the input reads as it did. -/
def turnPartsSpec : ChangeSpec := { name := "turnParts", fn := fun _ => fun
  | [d1, d2, d3] => { results := [.lit (.bool true)], args := [d1, d2, d3] }
  | _ => none }
def turnPartsRow : OpenClaim := { program := "ytdkmgcfdhlbpiaa", sum := "29a873626d1b825ca4d245e37c9e10d5095506ff45bf9d7b22b2088ed6d54b57", func := "scrivenry/scrivkeep.TurnParts", spec := "turnParts", inPlace := ["internal/abi.NoEscape"], apart := false }
def TurnPartsSaid : Prop := turnPartsRow.holds Try.pinned (OpenSpec.ofChange turnPartsSpec)

/-- ITS FALSE NEIGHBOUR: 'it returns false'. Refute it at one input. -/
def turnPartsWrong : ChangeSpec := { name := "turnParts", fn := fun _ => fun
  | [d1, d2, d3] => { results := [.lit (.bool false)], args := [d1, d2, d3] }
  | _ => none }
def TurnPartsWrongFalsely : Prop := turnPartsRow.holds Try.pinned (OpenSpec.ofChange turnPartsWrong)

/- THE SECOND FORM. 'bulk': how many values and letters a reading holds, each counted each time it is reached (what is shared counts as often as it is met; a slice's spare places count too). A statement '..UptoSaid' is the law's where the arguments, and the package variables that the reading takes, are together of bulk at most 1048576: NARROWER than '..Said'. Prove '..Said' where nothing that the law and all that it calls make is longer than what came in: it says more and counts as full. Else prove '..UptoSaid'. A law counts once. -/
mutual
def uptoBulk {H : Type} : DataW H → Nat
  | .lit (.string bytes) => bytes.length + 1
  | .lit _ => 1
  | .nil => 1
  | .ptr d => uptoBulk d + 1
  | .slice elems spare => uptoBulkAll elems + uptoBulkAll spare + 1
  | .agg parts => uptoBulkAll parts + 1
  | .iface _ d => uptoBulk d + 1
  | .map entries => uptoBulkEntries entries + 1
  | .held _ => 1
def uptoBulkAll {H : Type} : List (DataW H) → Nat
  | [] => 0
  | d :: r => uptoBulk d + uptoBulkAll r
def uptoBulkEntries {H : Type} : List (Lit × DataW H) → Nat
  | [] => 0
  | x :: r => uptoBulkEntry x + uptoBulkEntries r
def uptoBulkEntry {H : Type} : Lit × DataW H → Nat
  | (.string bytes, d) => bytes.length + uptoBulk d + 1
  | (_, d) => uptoBulk d + 1
 end
def uptoSmall : (H : Type) → List (DataW H) → Bool := fun _ ds => decide (uptoBulkAll ds ≤ 1048576)
def OpenSpec.upto (s : _root_.Go.ChangeSpec) : _root_.Go.OpenSpec := { _root_.Go.OpenSpec.ofChange s with cond := some uptoSmall }

/-- 'scrivlaw.CompSays', WHERE WHAT IT READS IS OF BULK AT MOST 1048576: true; the input reads as it did. -/
def compSaysUptoRow : OpenClaim := { program := "ytdkmgcfdhlbpiaa", sum := "29a873626d1b825ca4d245e37c9e10d5095506ff45bf9d7b22b2088ed6d54b57", func := "scrivenry/scrivlaw.CompSays", spec := "compSays", inPlace := ["internal/abi.NoEscape", "internal/bytealg.MakeNoZero"], unfollowed := true, recurses := true, apart := false, narrowed := true }
def CompSaysUptoSaid : Prop := compSaysUptoRow.holds Try.pinned (OpenSpec.upto compSaysSpec)

/-- 'scrivlaw.TurnSays', WHERE WHAT IT READS IS OF BULK AT MOST 1048576: true; the input reads as it did. -/
def turnSaysUptoRow : OpenClaim := { program := "ytdkmgcfdhlbpiaa", sum := "29a873626d1b825ca4d245e37c9e10d5095506ff45bf9d7b22b2088ed6d54b57", func := "scrivenry/scrivlaw.TurnSays", spec := "turnSays", unfollowed := true, recurses := true, apart := false, narrowed := true }
def TurnSaysUptoSaid : Prop := turnSaysUptoRow.holds Try.pinned (OpenSpec.upto turnSaysSpec)

/-- 'scrivkeep.CompDoes', WHERE WHAT IT READS IS OF BULK AT MOST 1048576: true; the input reads as it did. -/
def compDoesUptoRow : OpenClaim := { program := "ytdkmgcfdhlbpiaa", sum := "29a873626d1b825ca4d245e37c9e10d5095506ff45bf9d7b22b2088ed6d54b57", func := "scrivenry/scrivkeep.CompDoes", spec := "compDoes", inPlace := ["internal/abi.NoEscape"], apart := false, narrowed := true }
def CompDoesUptoSaid : Prop := compDoesUptoRow.holds Try.pinned (OpenSpec.upto compDoesSpec)

/-- 'scrivkeep.CompJoins', WHERE WHAT IT READS IS OF BULK AT MOST 1048576: true; the input reads as it did. -/
def compJoinsUptoRow : OpenClaim := { program := "ytdkmgcfdhlbpiaa", sum := "29a873626d1b825ca4d245e37c9e10d5095506ff45bf9d7b22b2088ed6d54b57", func := "scrivenry/scrivkeep.CompJoins", spec := "compJoins", apart := false, narrowed := true }
def CompJoinsUptoSaid : Prop := compJoinsUptoRow.holds Try.pinned (OpenSpec.upto compJoinsSpec)

/-- 'scrivkeep.TurnBack', WHERE WHAT IT READS IS OF BULK AT MOST 1048576: true; the input reads as it did. -/
def turnBackUptoRow : OpenClaim := { program := "ytdkmgcfdhlbpiaa", sum := "29a873626d1b825ca4d245e37c9e10d5095506ff45bf9d7b22b2088ed6d54b57", func := "scrivenry/scrivkeep.TurnBack", spec := "turnBack", inPlace := ["internal/abi.NoEscape"], apart := false, narrowed := true }
def TurnBackUptoSaid : Prop := turnBackUptoRow.holds Try.pinned (OpenSpec.upto turnBackSpec)

/-- 'scrivkeep.TurnParts', WHERE WHAT IT READS IS OF BULK AT MOST 1048576: true; the input reads as it did. -/
def turnPartsUptoRow : OpenClaim := { program := "ytdkmgcfdhlbpiaa", sum := "29a873626d1b825ca4d245e37c9e10d5095506ff45bf9d7b22b2088ed6d54b57", func := "scrivenry/scrivkeep.TurnParts", spec := "turnParts", inPlace := ["internal/abi.NoEscape"], apart := false, narrowed := true }
def TurnPartsUptoSaid : Prop := turnPartsUptoRow.holds Try.pinned (OpenSpec.upto turnPartsSpec)

end Rows
end Go.Proofs.Ytdkmgcfdhlbpiaa
