/-
  No cell of these rows narrows 'for every input' (looked for: loops, veiled, ifaces, maps, wideKeys, modest, calm, conditions, laid).
  DERIVED. THE GIVEN ROWS OF THIS SEAT. 5 by the template 'for every input the law returns true; each argument reads behind the call as it read before'; 0 by the template 'total and deterministic' (their statements: YtilcmbophfjjbabTotals.lean).
  GIVEN WITH THE SEED: the statements are not yours to turn. If you find one false, say at which input.
  Laid BY PROGRAM, IN A SANDBOX (cutbox-rows.mjs): the forced cells as the released guide's own fill.sh prints them over the translation e0d04e1b40b8a49d… (all of the seat's roots in one cut). By AI agents, Wed Nov 11 2026. No macro, syntax, notation, axiom, sorry.
-/
import Derived.Test.YtilcmbophfjjbabChecked
import GoSem.Claim
import GoSem.ClaimJoined
import GoSem.ClaimMapViews
import Derived.JoinedTies
import Derived.KernelRfl
namespace Go.Proofs.Ytilcmbophfjjbab
/- THE CELL 'sum', in the pinned program and in every row, IS THE sha256 OF THE DUMP (.gsa) THAT YtilcmbophfjjbabProg.lean LOADS. Nothing in Lean hashes anything: it is a label: what it is worth is what the hold of that sum in a sandbox is worth. -/
noncomputable def Try.pinned : Pinned := { name := "ytilcmbophfjjbab", sum := "e0d04e1b40b8a49d3ffc2cabb97cac7eb8c8bcaa2c87b222fcbb3dd3d81abc3f", checked := Try.checked }
namespace Rows
def none {H : Type} : Left H := { results := [], args := [] }

/-- 'scrivkeep.SpotKept': WHATEVER THE INPUT: true; the input reads as it did. -/
def spotKeptSpec : ChangeSpec := { name := "spotKept", fn := fun _ => fun
  | [d1, d2, d3] => { results := [.lit (.bool true)], args := [d1, d2, d3] }
  | _ => none }
def spotKeptRow : OpenClaim := { program := "ytilcmbophfjjbab", sum := "e0d04e1b40b8a49d3ffc2cabb97cac7eb8c8bcaa2c87b222fcbb3dd3d81abc3f", func := "scrivenry/scrivkeep.SpotKept", spec := "spotKept", inPlace := ["internal/abi.NoEscape"], apart := false }
def SpotKeptSaid : Prop := spotKeptRow.holds Try.pinned (OpenSpec.ofChange spotKeptSpec)

/-- ITS FALSE NEIGHBOUR: 'it returns false'. Refute it at one input. -/
def spotKeptWrong : ChangeSpec := { name := "spotKept", fn := fun _ => fun
  | [d1, d2, d3] => { results := [.lit (.bool false)], args := [d1, d2, d3] }
  | _ => none }
def SpotKeptWrongFalsely : Prop := spotKeptRow.holds Try.pinned (OpenSpec.ofChange spotKeptWrong)

/-- 'scrivkeep.MeetApart': WHATEVER THE INPUT: true; the input reads as it did. -/
def meetApartSpec : ChangeSpec := { name := "meetApart", fn := fun _ => fun
  | [d1, d2] => { results := [.lit (.bool true)], args := [d1, d2] }
  | _ => none }
def meetApartRow : OpenClaim := { program := "ytilcmbophfjjbab", sum := "e0d04e1b40b8a49d3ffc2cabb97cac7eb8c8bcaa2c87b222fcbb3dd3d81abc3f", func := "scrivenry/scrivkeep.MeetApart", spec := "meetApart", unfollowed := true, recurses := true, apart := false }
def MeetApartSaid : Prop := meetApartRow.holds Try.pinned (OpenSpec.ofChange meetApartSpec)

/-- ITS FALSE NEIGHBOUR: 'it returns false'. Refute it at one input. -/
def meetApartWrong : ChangeSpec := { name := "meetApart", fn := fun _ => fun
  | [d1, d2] => { results := [.lit (.bool false)], args := [d1, d2] }
  | _ => none }
def MeetApartWrongFalsely : Prop := meetApartRow.holds Try.pinned (OpenSpec.ofChange meetApartWrong)

/-- 'scrivkeep.MeetSizes': WHATEVER THE INPUT: true; the input reads as it did. -/
def meetSizesSpec : ChangeSpec := { name := "meetSizes", fn := fun _ => fun
  | [d1, d2] => { results := [.lit (.bool true)], args := [d1, d2] }
  | _ => none }
def meetSizesRow : OpenClaim := { program := "ytilcmbophfjjbab", sum := "e0d04e1b40b8a49d3ffc2cabb97cac7eb8c8bcaa2c87b222fcbb3dd3d81abc3f", func := "scrivenry/scrivkeep.MeetSizes", spec := "meetSizes", unfollowed := true, recurses := true, apart := false }
def MeetSizesSaid : Prop := meetSizesRow.holds Try.pinned (OpenSpec.ofChange meetSizesSpec)

/-- ITS FALSE NEIGHBOUR: 'it returns false'. Refute it at one input. -/
def meetSizesWrong : ChangeSpec := { name := "meetSizes", fn := fun _ => fun
  | [d1, d2] => { results := [.lit (.bool false)], args := [d1, d2] }
  | _ => none }
def MeetSizesWrongFalsely : Prop := meetSizesRow.holds Try.pinned (OpenSpec.ofChange meetSizesWrong)

/-- 'scrivkeep.SpotTurns': WHATEVER THE INPUT: true; the input reads as it did. -/
def spotTurnsSpec : ChangeSpec := { name := "spotTurns", fn := fun _ => fun
  | [d1, d2, d3] => { results := [.lit (.bool true)], args := [d1, d2, d3] }
  | _ => none }
def spotTurnsRow : OpenClaim := { program := "ytilcmbophfjjbab", sum := "e0d04e1b40b8a49d3ffc2cabb97cac7eb8c8bcaa2c87b222fcbb3dd3d81abc3f", func := "scrivenry/scrivkeep.SpotTurns", spec := "spotTurns", apart := false }
def SpotTurnsSaid : Prop := spotTurnsRow.holds Try.pinned (OpenSpec.ofChange spotTurnsSpec)

/-- ITS FALSE NEIGHBOUR: 'it returns false'. Refute it at one input. -/
def spotTurnsWrong : ChangeSpec := { name := "spotTurns", fn := fun _ => fun
  | [d1, d2, d3] => { results := [.lit (.bool false)], args := [d1, d2, d3] }
  | _ => none }
def SpotTurnsWrongFalsely : Prop := spotTurnsRow.holds Try.pinned (OpenSpec.ofChange spotTurnsWrong)

/-- 'scrivkeep.PartOwn': WHATEVER THE INPUT: true; the input reads as it did. -/
def partOwnSpec : ChangeSpec := { name := "partOwn", fn := fun _ => fun
  | [d1, d2] => { results := [.lit (.bool true)], args := [d1, d2] }
  | _ => none }
def partOwnRow : OpenClaim := { program := "ytilcmbophfjjbab", sum := "e0d04e1b40b8a49d3ffc2cabb97cac7eb8c8bcaa2c87b222fcbb3dd3d81abc3f", func := "scrivenry/scrivkeep.PartOwn", spec := "partOwn", apart := false }
def PartOwnSaid : Prop := partOwnRow.holds Try.pinned (OpenSpec.ofChange partOwnSpec)

/-- ITS FALSE NEIGHBOUR: 'it returns false'. Refute it at one input. -/
def partOwnWrong : ChangeSpec := { name := "partOwn", fn := fun _ => fun
  | [d1, d2] => { results := [.lit (.bool false)], args := [d1, d2] }
  | _ => none }
def PartOwnWrongFalsely : Prop := partOwnRow.holds Try.pinned (OpenSpec.ofChange partOwnWrong)

/- THE SECOND FORM. 'bulk': how many values and letters a reading holds, each counted each time it is reached (what is shared counts as often as it is met; a slice's spare places count too). A statement '..UptoSaid' is the law's where the arguments, and the package variables that the reading takes, are together of bulk at most 1048576: NARROWER than '..Said'. Prove '..Said' where nothing that the law and all that it calls make is longer than what came in: it says more and counts as full. Else prove '..UptoSaid'. A law counts once. -/
mutual
def uptoBulk {H : Type} : DataW H → Nat
  | .lit (.string bytes) => bytes.length + 1
  | .lit _ => 1
  | .nil => 1
  | .ptr d => uptoBulk d + 1
  | .slice elems spare => uptoBulkAll elems + uptoBulkAll spare + 1
  | .agg parts => uptoBulkAll parts + 1
  | .iface _ d => uptoBulk d + 1
  | .map entries => uptoBulkEntries entries + 1
  | .held _ => 1
def uptoBulkAll {H : Type} : List (DataW H) → Nat
  | [] => 0
  | d :: r => uptoBulk d + uptoBulkAll r
def uptoBulkEntries {H : Type} : List (Lit × DataW H) → Nat
  | [] => 0
  | x :: r => uptoBulkEntry x + uptoBulkEntries r
def uptoBulkEntry {H : Type} : Lit × DataW H → Nat
  | (.string bytes, d) => bytes.length + uptoBulk d + 1
  | (_, d) => uptoBulk d + 1
 end
def uptoSmall : (H : Type) → List (DataW H) → Bool := fun _ ds => decide (uptoBulkAll ds ≤ 1048576)
def OpenSpec.upto (s : _root_.Go.ChangeSpec) : _root_.Go.OpenSpec := { _root_.Go.OpenSpec.ofChange s with cond := some uptoSmall }

/-- 'scrivkeep.SpotKept', WHERE WHAT IT READS IS OF BULK AT MOST 1048576: true; the input reads as it did. -/
def spotKeptUptoRow : OpenClaim := { program := "ytilcmbophfjjbab", sum := "e0d04e1b40b8a49d3ffc2cabb97cac7eb8c8bcaa2c87b222fcbb3dd3d81abc3f", func := "scrivenry/scrivkeep.SpotKept", spec := "spotKept", inPlace := ["internal/abi.NoEscape"], apart := false, narrowed := true }
def SpotKeptUptoSaid : Prop := spotKeptUptoRow.holds Try.pinned (OpenSpec.upto spotKeptSpec)

/-- 'scrivkeep.MeetApart', WHERE WHAT IT READS IS OF BULK AT MOST 1048576: true; the input reads as it did. -/
def meetApartUptoRow : OpenClaim := { program := "ytilcmbophfjjbab", sum := "e0d04e1b40b8a49d3ffc2cabb97cac7eb8c8bcaa2c87b222fcbb3dd3d81abc3f", func := "scrivenry/scrivkeep.MeetApart", spec := "meetApart", unfollowed := true, recurses := true, apart := false, narrowed := true }
def MeetApartUptoSaid : Prop := meetApartUptoRow.holds Try.pinned (OpenSpec.upto meetApartSpec)

/-- 'scrivkeep.MeetSizes', WHERE WHAT IT READS IS OF BULK AT MOST 1048576: true; the input reads as it did. -/
def meetSizesUptoRow : OpenClaim := { program := "ytilcmbophfjjbab", sum := "e0d04e1b40b8a49d3ffc2cabb97cac7eb8c8bcaa2c87b222fcbb3dd3d81abc3f", func := "scrivenry/scrivkeep.MeetSizes", spec := "meetSizes", unfollowed := true, recurses := true, apart := false, narrowed := true }
def MeetSizesUptoSaid : Prop := meetSizesUptoRow.holds Try.pinned (OpenSpec.upto meetSizesSpec)

/-- 'scrivkeep.SpotTurns', WHERE WHAT IT READS IS OF BULK AT MOST 1048576: true; the input reads as it did. -/
def spotTurnsUptoRow : OpenClaim := { program := "ytilcmbophfjjbab", sum := "e0d04e1b40b8a49d3ffc2cabb97cac7eb8c8bcaa2c87b222fcbb3dd3d81abc3f", func := "scrivenry/scrivkeep.SpotTurns", spec := "spotTurns", apart := false, narrowed := true }
def SpotTurnsUptoSaid : Prop := spotTurnsUptoRow.holds Try.pinned (OpenSpec.upto spotTurnsSpec)

/-- 'scrivkeep.PartOwn', WHERE WHAT IT READS IS OF BULK AT MOST 1048576: true; the input reads as it did. -/
def partOwnUptoRow : OpenClaim := { program := "ytilcmbophfjjbab", sum := "e0d04e1b40b8a49d3ffc2cabb97cac7eb8c8bcaa2c87b222fcbb3dd3d81abc3f", func := "scrivenry/scrivkeep.PartOwn", spec := "partOwn", apart := false, narrowed := true }
def PartOwnUptoSaid : Prop := partOwnUptoRow.holds Try.pinned (OpenSpec.upto partOwnSpec)

end Rows
end Go.Proofs.Ytilcmbophfjjbab
