/-
  No cell of these rows narrows 'for every input' (looked for: loops, veiled, ifaces, maps, wideKeys, modest, calm, conditions, laid).
  DERIVED. THE GIVEN ROWS OF THIS SEAT. 3 by the template 'for every input the law returns true; each argument reads behind the call as it read before'; 0 by the template 'total and deterministic' (their statements: YtdkmgcfdhlbpiabTotals.lean).
  GIVEN WITH THE SEED: the statements are not yours to turn. If you find one false, say at which input.
  Laid BY PROGRAM, IN A SANDBOX (cutbox-rows.mjs): the forced cells as the released guide's own fill.sh prints them over the translation 301b0da61d9ace76… (all of the seat's roots in one cut). By AI agents, Wed Nov 11 2026. No macro, syntax, notation, axiom, sorry.
-/
import Derived.Test.YtdkmgcfdhlbpiabChecked
import GoSem.Claim
import GoSem.ClaimJoined
import GoSem.ClaimMapViews
import Derived.JoinedTies
import Derived.KernelRfl
namespace Go.Proofs.Ytdkmgcfdhlbpiab
/- THE CELL 'sum', in the pinned program and in every row, IS THE sha256 OF THE DUMP (.gsa) THAT YtdkmgcfdhlbpiabProg.lean LOADS. Nothing in Lean hashes anything: it is a label: what it is worth is what the hold of that sum in a sandbox is worth. -/
noncomputable def Try.pinned : Pinned := { name := "ytdkmgcfdhlbpiab", sum := "301b0da61d9ace76149f579ff1b1f01aa525b0b8521ed2a9a19584e04bf1c049", checked := Try.checked }
namespace Rows
def none {H : Type} : Left H := { results := [], args := [] }

/-- 'scrivkeep.CompBeside': WHATEVER THE INPUT: true; the input reads as it did. -/
def compBesideSpec : ChangeSpec := { name := "compBeside", fn := fun _ => fun
  | [d1, d2, d3, d4] => { results := [.lit (.bool true)], args := [d1, d2, d3, d4] }
  | _ => none }
def compBesideRow : OpenClaim := { program := "ytdkmgcfdhlbpiab", sum := "301b0da61d9ace76149f579ff1b1f01aa525b0b8521ed2a9a19584e04bf1c049", func := "scrivenry/scrivkeep.CompBeside", spec := "compBeside", apart := false }
def CompBesideSaid : Prop := compBesideRow.holds Try.pinned (OpenSpec.ofChange compBesideSpec)

/-- ITS FALSE NEIGHBOUR: 'it returns false'. Refute it at one input. -/
def compBesideWrong : ChangeSpec := { name := "compBeside", fn := fun _ => fun
  | [d1, d2, d3, d4] => { results := [.lit (.bool false)], args := [d1, d2, d3, d4] }
  | _ => none }
def CompBesideWrongFalsely : Prop := compBesideRow.holds Try.pinned (OpenSpec.ofChange compBesideWrong)

/-- 'scrivkeep.TurnBeside': WHATEVER THE INPUT: true; the input reads as it did. -/
def turnBesideSpec : ChangeSpec := { name := "turnBeside", fn := fun _ => fun
  | [d1, d2, d3, d4] => { results := [.lit (.bool true)], args := [d1, d2, d3, d4] }
  | _ => none }
def turnBesideRow : OpenClaim := { program := "ytdkmgcfdhlbpiab", sum := "301b0da61d9ace76149f579ff1b1f01aa525b0b8521ed2a9a19584e04bf1c049", func := "scrivenry/scrivkeep.TurnBeside", spec := "turnBeside", apart := false }
def TurnBesideSaid : Prop := turnBesideRow.holds Try.pinned (OpenSpec.ofChange turnBesideSpec)

/-- ITS FALSE NEIGHBOUR: 'it returns false'. Refute it at one input. -/
def turnBesideWrong : ChangeSpec := { name := "turnBeside", fn := fun _ => fun
  | [d1, d2, d3, d4] => { results := [.lit (.bool false)], args := [d1, d2, d3, d4] }
  | _ => none }
def TurnBesideWrongFalsely : Prop := turnBesideRow.holds Try.pinned (OpenSpec.ofChange turnBesideWrong)

/-- 'scrivkeep.CompEdges': WHATEVER THE INPUT: true; the input reads as it did. -/
def compEdgesSpec : ChangeSpec := { name := "compEdges", fn := fun _ => fun
  | [d1, d2, d3] => { results := [.lit (.bool true)], args := [d1, d2, d3] }
  | _ => none }
def compEdgesRow : OpenClaim := { program := "ytdkmgcfdhlbpiab", sum := "301b0da61d9ace76149f579ff1b1f01aa525b0b8521ed2a9a19584e04bf1c049", func := "scrivenry/scrivkeep.CompEdges", spec := "compEdges", apart := false }
def CompEdgesSaid : Prop := compEdgesRow.holds Try.pinned (OpenSpec.ofChange compEdgesSpec)

/-- ITS FALSE NEIGHBOUR: 'it returns false'. Refute it at one input. -/
def compEdgesWrong : ChangeSpec := { name := "compEdges", fn := fun _ => fun
  | [d1, d2, d3] => { results := [.lit (.bool false)], args := [d1, d2, d3] }
  | _ => none }
def CompEdgesWrongFalsely : Prop := compEdgesRow.holds Try.pinned (OpenSpec.ofChange compEdgesWrong)

/- THE SECOND FORM. 'bulk': how many values and letters a reading holds, each counted each time it is reached (what is shared counts as often as it is met; a slice's spare places count too). A statement '..UptoSaid' is the law's where the arguments, and the package variables that the reading takes, are together of bulk at most 1048576: NARROWER than '..Said'. Prove '..Said' where nothing that the law and all that it calls make is longer than what came in: it says more and counts as full. Else prove '..UptoSaid'. A law counts once. -/
mutual
def uptoBulk {H : Type} : DataW H → Nat
  | .lit (.string bytes) => bytes.length + 1
  | .lit _ => 1
  | .nil => 1
  | .ptr d => uptoBulk d + 1
  | .slice elems spare => uptoBulkAll elems + uptoBulkAll spare + 1
  | .agg parts => uptoBulkAll parts + 1
  | .iface _ d => uptoBulk d + 1
  | .map entries => uptoBulkEntries entries + 1
  | .held _ => 1
def uptoBulkAll {H : Type} : List (DataW H) → Nat
  | [] => 0
  | d :: r => uptoBulk d + uptoBulkAll r
def uptoBulkEntries {H : Type} : List (Lit × DataW H) → Nat
  | [] => 0
  | x :: r => uptoBulkEntry x + uptoBulkEntries r
def uptoBulkEntry {H : Type} : Lit × DataW H → Nat
  | (.string bytes, d) => bytes.length + uptoBulk d + 1
  | (_, d) => uptoBulk d + 1
 end
def uptoSmall : (H : Type) → List (DataW H) → Bool := fun _ ds => decide (uptoBulkAll ds ≤ 1048576)
def OpenSpec.upto (s : _root_.Go.ChangeSpec) : _root_.Go.OpenSpec := { _root_.Go.OpenSpec.ofChange s with cond := some uptoSmall }

/-- 'scrivkeep.CompBeside', WHERE WHAT IT READS IS OF BULK AT MOST 1048576: true; the input reads as it did. -/
def compBesideUptoRow : OpenClaim := { program := "ytdkmgcfdhlbpiab", sum := "301b0da61d9ace76149f579ff1b1f01aa525b0b8521ed2a9a19584e04bf1c049", func := "scrivenry/scrivkeep.CompBeside", spec := "compBeside", apart := false, narrowed := true }
def CompBesideUptoSaid : Prop := compBesideUptoRow.holds Try.pinned (OpenSpec.upto compBesideSpec)

/-- 'scrivkeep.TurnBeside', WHERE WHAT IT READS IS OF BULK AT MOST 1048576: true; the input reads as it did. -/
def turnBesideUptoRow : OpenClaim := { program := "ytdkmgcfdhlbpiab", sum := "301b0da61d9ace76149f579ff1b1f01aa525b0b8521ed2a9a19584e04bf1c049", func := "scrivenry/scrivkeep.TurnBeside", spec := "turnBeside", apart := false, narrowed := true }
def TurnBesideUptoSaid : Prop := turnBesideUptoRow.holds Try.pinned (OpenSpec.upto turnBesideSpec)

/-- 'scrivkeep.CompEdges', WHERE WHAT IT READS IS OF BULK AT MOST 1048576: true; the input reads as it did. -/
def compEdgesUptoRow : OpenClaim := { program := "ytdkmgcfdhlbpiab", sum := "301b0da61d9ace76149f579ff1b1f01aa525b0b8521ed2a9a19584e04bf1c049", func := "scrivenry/scrivkeep.CompEdges", spec := "compEdges", apart := false, narrowed := true }
def CompEdgesUptoSaid : Prop := compEdgesUptoRow.holds Try.pinned (OpenSpec.upto compEdgesSpec)

end Rows
end Go.Proofs.Ytdkmgcfdhlbpiab
