/-
  No cell of these rows narrows 'for every input' (looked for: loops, veiled, ifaces, maps, wideKeys, modest, calm, conditions, laid).
  DERIVED. THE GIVEN ROWS OF THIS SEAT. 6 by the template 'for every input the law returns true; each argument reads behind the call as it read before'; 0 by the template 'total and deterministic' (their statements: YtjnjmphmhhandaaTotals.lean).
  GIVEN WITH THE SEED: the statements are not yours to turn. If you find one false, say at which input.
  Laid BY PROGRAM, IN A SANDBOX (cutbox-rows.mjs): the forced cells as the released guide's own fill.sh prints them over the translation 59cbb2cae3a87414… (all of the seat's roots in one cut). By AI agents, Wed Nov 11 2026. No macro, syntax, notation, axiom, sorry.
-/
import Derived.Test.YtjnjmphmhhandaaChecked
import GoSem.Claim
import GoSem.ClaimJoined
import GoSem.ClaimMapViews
import Derived.JoinedTies
import Derived.KernelRfl
namespace Go.Proofs.Ytjnjmphmhhandaa
/- THE CELL 'sum', in the pinned program and in every row, IS THE sha256 OF THE DUMP (.gsa) THAT YtjnjmphmhhandaaProg.lean LOADS. Nothing in Lean hashes anything: it is a label: what it is worth is what the hold of that sum in a sandbox is worth. -/
noncomputable def Try.pinned : Pinned := { name := "ytjnjmphmhhandaa", sum := "59cbb2cae3a87414f3c1effd14336616a1d28d4eb619d9c68d0a98131e8077f4", checked := Try.checked }
namespace Rows
def none {H : Type} : Left H := { results := [], args := [] }

/-- 'scrivlaw.PartChecks': WHATEVER THE INPUT: true; the input reads as it did. -/
def partChecksSpec : ChangeSpec := { name := "partChecks", fn := fun _ => fun
  | [d] => { results := [.lit (.bool true)], args := [d] }
  | _ => none }
def partChecksRow : OpenClaim := { program := "ytjnjmphmhhandaa", sum := "59cbb2cae3a87414f3c1effd14336616a1d28d4eb619d9c68d0a98131e8077f4", func := "scrivenry/scrivlaw.PartChecks", spec := "partChecks", apart := false }
def PartChecksSaid : Prop := partChecksRow.holds Try.pinned (OpenSpec.ofChange partChecksSpec)

/-- ITS FALSE NEIGHBOUR: 'it returns false'. Refute it at one input. -/
def partChecksWrong : ChangeSpec := { name := "partChecks", fn := fun _ => fun
  | [d] => { results := [.lit (.bool false)], args := [d] }
  | _ => none }
def PartChecksWrongFalsely : Prop := partChecksRow.holds Try.pinned (OpenSpec.ofChange partChecksWrong)

/-- 'scrivlaw.PartNorms': WHATEVER THE INPUT: true; the input reads as it did. -/
def partNormsSpec : ChangeSpec := { name := "partNorms", fn := fun _ => fun
  | [d] => { results := [.lit (.bool true)], args := [d] }
  | _ => none }
def partNormsRow : OpenClaim := { program := "ytjnjmphmhhandaa", sum := "59cbb2cae3a87414f3c1effd14336616a1d28d4eb619d9c68d0a98131e8077f4", func := "scrivenry/scrivlaw.PartNorms", spec := "partNorms", unfollowed := true, recurses := true, apart := false }
def PartNormsSaid : Prop := partNormsRow.holds Try.pinned (OpenSpec.ofChange partNormsSpec)

/-- ITS FALSE NEIGHBOUR: 'it returns false'. Refute it at one input. -/
def partNormsWrong : ChangeSpec := { name := "partNorms", fn := fun _ => fun
  | [d] => { results := [.lit (.bool false)], args := [d] }
  | _ => none }
def PartNormsWrongFalsely : Prop := partNormsRow.holds Try.pinned (OpenSpec.ofChange partNormsWrong)

/-- 'scrivlaw.ApplyDoes': WHATEVER THE INPUT: true; the input reads as it did. -/
def applyDoesSpec : ChangeSpec := { name := "applyDoes", fn := fun _ => fun
  | [d1, d2, d3] => { results := [.lit (.bool true)], args := [d1, d2, d3] }
  | _ => none }
def applyDoesRow : OpenClaim := { program := "ytjnjmphmhhandaa", sum := "59cbb2cae3a87414f3c1effd14336616a1d28d4eb619d9c68d0a98131e8077f4", func := "scrivenry/scrivlaw.ApplyDoes", spec := "applyDoes", inPlace := ["internal/abi.NoEscape"], apart := false }
def ApplyDoesSaid : Prop := applyDoesRow.holds Try.pinned (OpenSpec.ofChange applyDoesSpec)

/-- ITS FALSE NEIGHBOUR: 'it returns false'. Refute it at one input. -/
def applyDoesWrong : ChangeSpec := { name := "applyDoes", fn := fun _ => fun
  | [d1, d2, d3] => { results := [.lit (.bool false)], args := [d1, d2, d3] }
  | _ => none }
def ApplyDoesWrongFalsely : Prop := applyDoesRow.holds Try.pinned (OpenSpec.ofChange applyDoesWrong)

/-- 'scrivkeep.PartOnce': WHATEVER THE INPUT: true; the input reads as it did. -/
def partOnceSpec : ChangeSpec := { name := "partOnce", fn := fun _ => fun
  | [d] => { results := [.lit (.bool true)], args := [d] }
  | _ => none }
def partOnceRow : OpenClaim := { program := "ytjnjmphmhhandaa", sum := "59cbb2cae3a87414f3c1effd14336616a1d28d4eb619d9c68d0a98131e8077f4", func := "scrivenry/scrivkeep.PartOnce", spec := "partOnce", apart := false }
def PartOnceSaid : Prop := partOnceRow.holds Try.pinned (OpenSpec.ofChange partOnceSpec)

/-- ITS FALSE NEIGHBOUR: 'it returns false'. Refute it at one input. -/
def partOnceWrong : ChangeSpec := { name := "partOnce", fn := fun _ => fun
  | [d] => { results := [.lit (.bool false)], args := [d] }
  | _ => none }
def PartOnceWrongFalsely : Prop := partOnceRow.holds Try.pinned (OpenSpec.ofChange partOnceWrong)

/-- 'scrivkeep.ApplySizes': WHATEVER THE INPUT: true; the input reads as it did. -/
def applySizesSpec : ChangeSpec := { name := "applySizes", fn := fun _ => fun
  | [d1, d2] => { results := [.lit (.bool true)], args := [d1, d2] }
  | _ => none }
def applySizesRow : OpenClaim := { program := "ytjnjmphmhhandaa", sum := "59cbb2cae3a87414f3c1effd14336616a1d28d4eb619d9c68d0a98131e8077f4", func := "scrivenry/scrivkeep.ApplySizes", spec := "applySizes", inPlace := ["internal/abi.NoEscape"], apart := false }
def ApplySizesSaid : Prop := applySizesRow.holds Try.pinned (OpenSpec.ofChange applySizesSpec)

/-- ITS FALSE NEIGHBOUR: 'it returns false'. Refute it at one input. -/
def applySizesWrong : ChangeSpec := { name := "applySizes", fn := fun _ => fun
  | [d1, d2] => { results := [.lit (.bool false)], args := [d1, d2] }
  | _ => none }
def ApplySizesWrongFalsely : Prop := applySizesRow.holds Try.pinned (OpenSpec.ofChange applySizesWrong)

/-- 'scrivkeep.ApplyBeside': WHATEVER THE INPUT: true; the input reads as it did. -/
def applyBesideSpec : ChangeSpec := { name := "applyBeside", fn := fun _ => fun
  | [d1, d2, d3, d4] => { results := [.lit (.bool true)], args := [d1, d2, d3, d4] }
  | _ => none }
def applyBesideRow : OpenClaim := { program := "ytjnjmphmhhandaa", sum := "59cbb2cae3a87414f3c1effd14336616a1d28d4eb619d9c68d0a98131e8077f4", func := "scrivenry/scrivkeep.ApplyBeside", spec := "applyBeside", inPlace := ["internal/abi.NoEscape"], apart := false }
def ApplyBesideSaid : Prop := applyBesideRow.holds Try.pinned (OpenSpec.ofChange applyBesideSpec)

/-- ITS FALSE NEIGHBOUR: 'it returns false'. Refute it at one input. -/
def applyBesideWrong : ChangeSpec := { name := "applyBeside", fn := fun _ => fun
  | [d1, d2, d3, d4] => { results := [.lit (.bool false)], args := [d1, d2, d3, d4] }
  | _ => none }
def ApplyBesideWrongFalsely : Prop := applyBesideRow.holds Try.pinned (OpenSpec.ofChange applyBesideWrong)

/- THE SECOND FORM. 'bulk': how many values and letters a reading holds, each counted each time it is reached (what is shared counts as often as it is met; a slice's spare places count too). A statement '..UptoSaid' is the law's where the arguments, and the package variables that the reading takes, are together of bulk at most 1048576: NARROWER than '..Said'. Prove '..Said' where nothing that the law and all that it calls make is longer than what came in: it says more and counts as full. Else prove '..UptoSaid'. A law counts once. -/
mutual
def uptoBulk {H : Type} : DataW H → Nat
  | .lit (.string bytes) => bytes.length + 1
  | .lit _ => 1
  | .nil => 1
  | .ptr d => uptoBulk d + 1
  | .slice elems spare => uptoBulkAll elems + uptoBulkAll spare + 1
  | .agg parts => uptoBulkAll parts + 1
  | .iface _ d => uptoBulk d + 1
  | .map entries => uptoBulkEntries entries + 1
  | .held _ => 1
def uptoBulkAll {H : Type} : List (DataW H) → Nat
  | [] => 0
  | d :: r => uptoBulk d + uptoBulkAll r
def uptoBulkEntries {H : Type} : List (Lit × DataW H) → Nat
  | [] => 0
  | x :: r => uptoBulkEntry x + uptoBulkEntries r
def uptoBulkEntry {H : Type} : Lit × DataW H → Nat
  | (.string bytes, d) => bytes.length + uptoBulk d + 1
  | (_, d) => uptoBulk d + 1
 end
def uptoSmall : (H : Type) → List (DataW H) → Bool := fun _ ds => decide (uptoBulkAll ds ≤ 1048576)
def OpenSpec.upto (s : _root_.Go.ChangeSpec) : _root_.Go.OpenSpec := { _root_.Go.OpenSpec.ofChange s with cond := some uptoSmall }

/-- 'scrivlaw.PartChecks', WHERE WHAT IT READS IS OF BULK AT MOST 1048576: true; the input reads as it did. -/
def partChecksUptoRow : OpenClaim := { program := "ytjnjmphmhhandaa", sum := "59cbb2cae3a87414f3c1effd14336616a1d28d4eb619d9c68d0a98131e8077f4", func := "scrivenry/scrivlaw.PartChecks", spec := "partChecks", apart := false, narrowed := true }
def PartChecksUptoSaid : Prop := partChecksUptoRow.holds Try.pinned (OpenSpec.upto partChecksSpec)

/-- 'scrivlaw.PartNorms', WHERE WHAT IT READS IS OF BULK AT MOST 1048576: true; the input reads as it did. -/
def partNormsUptoRow : OpenClaim := { program := "ytjnjmphmhhandaa", sum := "59cbb2cae3a87414f3c1effd14336616a1d28d4eb619d9c68d0a98131e8077f4", func := "scrivenry/scrivlaw.PartNorms", spec := "partNorms", unfollowed := true, recurses := true, apart := false, narrowed := true }
def PartNormsUptoSaid : Prop := partNormsUptoRow.holds Try.pinned (OpenSpec.upto partNormsSpec)

/-- 'scrivlaw.ApplyDoes', WHERE WHAT IT READS IS OF BULK AT MOST 1048576: true; the input reads as it did. -/
def applyDoesUptoRow : OpenClaim := { program := "ytjnjmphmhhandaa", sum := "59cbb2cae3a87414f3c1effd14336616a1d28d4eb619d9c68d0a98131e8077f4", func := "scrivenry/scrivlaw.ApplyDoes", spec := "applyDoes", inPlace := ["internal/abi.NoEscape"], apart := false, narrowed := true }
def ApplyDoesUptoSaid : Prop := applyDoesUptoRow.holds Try.pinned (OpenSpec.upto applyDoesSpec)

/-- 'scrivkeep.PartOnce', WHERE WHAT IT READS IS OF BULK AT MOST 1048576: true; the input reads as it did. -/
def partOnceUptoRow : OpenClaim := { program := "ytjnjmphmhhandaa", sum := "59cbb2cae3a87414f3c1effd14336616a1d28d4eb619d9c68d0a98131e8077f4", func := "scrivenry/scrivkeep.PartOnce", spec := "partOnce", apart := false, narrowed := true }
def PartOnceUptoSaid : Prop := partOnceUptoRow.holds Try.pinned (OpenSpec.upto partOnceSpec)

/-- 'scrivkeep.ApplySizes', WHERE WHAT IT READS IS OF BULK AT MOST 1048576: true; the input reads as it did. -/
def applySizesUptoRow : OpenClaim := { program := "ytjnjmphmhhandaa", sum := "59cbb2cae3a87414f3c1effd14336616a1d28d4eb619d9c68d0a98131e8077f4", func := "scrivenry/scrivkeep.ApplySizes", spec := "applySizes", inPlace := ["internal/abi.NoEscape"], apart := false, narrowed := true }
def ApplySizesUptoSaid : Prop := applySizesUptoRow.holds Try.pinned (OpenSpec.upto applySizesSpec)

/-- 'scrivkeep.ApplyBeside', WHERE WHAT IT READS IS OF BULK AT MOST 1048576: true; the input reads as it did. -/
def applyBesideUptoRow : OpenClaim := { program := "ytjnjmphmhhandaa", sum := "59cbb2cae3a87414f3c1effd14336616a1d28d4eb619d9c68d0a98131e8077f4", func := "scrivenry/scrivkeep.ApplyBeside", spec := "applyBeside", inPlace := ["internal/abi.NoEscape"], apart := false, narrowed := true }
def ApplyBesideUptoSaid : Prop := applyBesideUptoRow.holds Try.pinned (OpenSpec.upto applyBesideSpec)

end Rows
end Go.Proofs.Ytjnjmphmhhandaa
