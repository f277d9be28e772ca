/-
  No cell of these rows narrows 'for every input' (looked for: loops, veiled, ifaces, maps, wideKeys, modest, calm, conditions, laid).
  DERIVED. THE GIVEN ROWS OF THIS SEAT. 6 by the template 'for every input the law returns true; each argument reads behind the call as it read before'; 0 by the template 'total and deterministic' (their statements: YtjfeaedjifpahaaTotals.lean).
  GIVEN WITH THE SEED: the statements are not yours to turn. If you find one false, say at which input.
  Laid BY PROGRAM, IN A SANDBOX (cutbox-rows.mjs): the forced cells as the released guide's own fill.sh prints them over the translation f8b8b66f18fb26ba… (all of the seat's roots in one cut). By AI agents, Wed Nov 11 2026. No macro, syntax, notation, axiom, sorry.
-/
import Derived.Test.YtjfeaedjifpahaaChecked
import GoSem.Claim
import GoSem.ClaimJoined
import GoSem.ClaimMapViews
import Derived.JoinedTies
import Derived.KernelRfl
namespace Go.Proofs.Ytjfeaedjifpahaa
/- THE CELL 'sum', in the pinned program and in every row, IS THE sha256 OF THE DUMP (.gsa) THAT YtjfeaedjifpahaaProg.lean LOADS. Nothing in Lean hashes anything: it is a label: what it is worth is what the hold of that sum in a sandbox is worth. -/
noncomputable def Try.pinned : Pinned := { name := "ytjfeaedjifpahaa", sum := "f8b8b66f18fb26ba2e374742abb6506910c2b971c2ce77a2157f1cdb612da531", checked := Try.checked }
namespace Rows
def none {H : Type} : Left H := { results := [], args := [] }

/-- 'scrivlaw.RevsChecks': WHATEVER THE INPUT: true; the input reads as it did. -/
def revsChecksSpec : ChangeSpec := { name := "revsChecks", fn := fun _ => fun
  | [d1, d2, d3] => { results := [.lit (.bool true)], args := [d1, d2, d3] }
  | _ => none }
def revsChecksRow : OpenClaim := { program := "ytjfeaedjifpahaa", sum := "f8b8b66f18fb26ba2e374742abb6506910c2b971c2ce77a2157f1cdb612da531", func := "scrivenry/scrivlaw.RevsChecks", spec := "revsChecks", inPlace := ["internal/abi.NoEscape"], apart := false }
def RevsChecksSaid : Prop := revsChecksRow.holds Try.pinned (OpenSpec.ofChange revsChecksSpec)

/-- ITS FALSE NEIGHBOUR: 'it returns false'. Refute it at one input. -/
def revsChecksWrong : ChangeSpec := { name := "revsChecks", fn := fun _ => fun
  | [d1, d2, d3] => { results := [.lit (.bool false)], args := [d1, d2, d3] }
  | _ => none }
def RevsChecksWrongFalsely : Prop := revsChecksRow.holds Try.pinned (OpenSpec.ofChange revsChecksWrong)

/-- 'scrivlaw.RevsBetweens': WHATEVER THE INPUT: true; the input reads as it did. -/
def revsBetweensSpec : ChangeSpec := { name := "revsBetweens", fn := fun _ => fun
  | [d1, d2, d3, d4] => { results := [.lit (.bool true)], args := [d1, d2, d3, d4] }
  | _ => none }
def revsBetweensRow : OpenClaim := { program := "ytjfeaedjifpahaa", sum := "f8b8b66f18fb26ba2e374742abb6506910c2b971c2ce77a2157f1cdb612da531", func := "scrivenry/scrivlaw.RevsBetweens", spec := "revsBetweens", inPlace := ["internal/abi.NoEscape", "internal/bytealg.MakeNoZero"], unfollowed := true, recurses := true, apart := false }
def RevsBetweensSaid : Prop := revsBetweensRow.holds Try.pinned (OpenSpec.ofChange revsBetweensSpec)

/-- ITS FALSE NEIGHBOUR: 'it returns false'. Refute it at one input. -/
def revsBetweensWrong : ChangeSpec := { name := "revsBetweens", fn := fun _ => fun
  | [d1, d2, d3, d4] => { results := [.lit (.bool false)], args := [d1, d2, d3, d4] }
  | _ => none }
def RevsBetweensWrongFalsely : Prop := revsBetweensRow.holds Try.pinned (OpenSpec.ofChange revsBetweensWrong)

/-- 'scrivlaw.BlameSays': WHATEVER THE INPUT: true; the input reads as it did. -/
def blameSaysSpec : ChangeSpec := { name := "blameSays", fn := fun _ => fun
  | [d1, d2] => { results := [.lit (.bool true)], args := [d1, d2] }
  | _ => none }
def blameSaysRow : OpenClaim := { program := "ytjfeaedjifpahaa", sum := "f8b8b66f18fb26ba2e374742abb6506910c2b971c2ce77a2157f1cdb612da531", func := "scrivenry/scrivlaw.BlameSays", spec := "blameSays", apart := false }
def BlameSaysSaid : Prop := blameSaysRow.holds Try.pinned (OpenSpec.ofChange blameSaysSpec)

/-- ITS FALSE NEIGHBOUR: 'it returns false'. Refute it at one input. -/
def blameSaysWrong : ChangeSpec := { name := "blameSays", fn := fun _ => fun
  | [d1, d2] => { results := [.lit (.bool false)], args := [d1, d2] }
  | _ => none }
def BlameSaysWrongFalsely : Prop := blameSaysRow.holds Try.pinned (OpenSpec.ofChange blameSaysWrong)

/-- 'scrivkeep.RevsParts': WHATEVER THE INPUT: true; the input reads as it did. -/
def revsPartsSpec : ChangeSpec := { name := "revsParts", fn := fun _ => fun
  | [d1, d2, d3, d4, d5] => { results := [.lit (.bool true)], args := [d1, d2, d3, d4, d5] }
  | _ => none }
def revsPartsRow : OpenClaim := { program := "ytjfeaedjifpahaa", sum := "f8b8b66f18fb26ba2e374742abb6506910c2b971c2ce77a2157f1cdb612da531", func := "scrivenry/scrivkeep.RevsParts", spec := "revsParts", inPlace := ["internal/abi.NoEscape"], recurses := true, apart := false }
def RevsPartsSaid : Prop := revsPartsRow.holds Try.pinned (OpenSpec.ofChange revsPartsSpec)

/-- ITS FALSE NEIGHBOUR: 'it returns false'. Refute it at one input. -/
def revsPartsWrong : ChangeSpec := { name := "revsParts", fn := fun _ => fun
  | [d1, d2, d3, d4, d5] => { results := [.lit (.bool false)], args := [d1, d2, d3, d4, d5] }
  | _ => none }
def RevsPartsWrongFalsely : Prop := revsPartsRow.holds Try.pinned (OpenSpec.ofChange revsPartsWrong)

/-- 'scrivkeep.BlameEach': WHATEVER THE INPUT: true; the input reads as it did. -/
def blameEachSpec : ChangeSpec := { name := "blameEach", fn := fun _ => fun
  | [d1, d2] => { results := [.lit (.bool true)], args := [d1, d2] }
  | _ => none }
def blameEachRow : OpenClaim := { program := "ytjfeaedjifpahaa", sum := "f8b8b66f18fb26ba2e374742abb6506910c2b971c2ce77a2157f1cdb612da531", func := "scrivenry/scrivkeep.BlameEach", spec := "blameEach", inPlace := ["internal/abi.NoEscape"], apart := false }
def BlameEachSaid : Prop := blameEachRow.holds Try.pinned (OpenSpec.ofChange blameEachSpec)

/-- ITS FALSE NEIGHBOUR: 'it returns false'. Refute it at one input. -/
def blameEachWrong : ChangeSpec := { name := "blameEach", fn := fun _ => fun
  | [d1, d2] => { results := [.lit (.bool false)], args := [d1, d2] }
  | _ => none }
def BlameEachWrongFalsely : Prop := blameEachRow.holds Try.pinned (OpenSpec.ofChange blameEachWrong)

/-- 'scrivkeep.RevsCut': WHATEVER THE INPUT: true; the input reads as it did. -/
def revsCutSpec : ChangeSpec := { name := "revsCut", fn := fun _ => fun
  | [d1, d2, d3, d4] => { results := [.lit (.bool true)], args := [d1, d2, d3, d4] }
  | _ => none }
def revsCutRow : OpenClaim := { program := "ytjfeaedjifpahaa", sum := "f8b8b66f18fb26ba2e374742abb6506910c2b971c2ce77a2157f1cdb612da531", func := "scrivenry/scrivkeep.RevsCut", spec := "revsCut", inPlace := ["internal/abi.NoEscape"], apart := false }
def RevsCutSaid : Prop := revsCutRow.holds Try.pinned (OpenSpec.ofChange revsCutSpec)

/-- ITS FALSE NEIGHBOUR: 'it returns false'. Refute it at one input. -/
def revsCutWrong : ChangeSpec := { name := "revsCut", fn := fun _ => fun
  | [d1, d2, d3, d4] => { results := [.lit (.bool false)], args := [d1, d2, d3, d4] }
  | _ => none }
def RevsCutWrongFalsely : Prop := revsCutRow.holds Try.pinned (OpenSpec.ofChange revsCutWrong)

/- THE SECOND FORM. 'bulk': how many values and letters a reading holds, each counted each time it is reached (what is shared counts as often as it is met; a slice's spare places count too). A statement '..UptoSaid' is the law's where the arguments, and the package variables that the reading takes, are together of bulk at most 1048576: NARROWER than '..Said'. Prove '..Said' where nothing that the law and all that it calls make is longer than what came in: it says more and counts as full. Else prove '..UptoSaid'. A law counts once. -/
mutual
def uptoBulk {H : Type} : DataW H → Nat
  | .lit (.string bytes) => bytes.length + 1
  | .lit _ => 1
  | .nil => 1
  | .ptr d => uptoBulk d + 1
  | .slice elems spare => uptoBulkAll elems + uptoBulkAll spare + 1
  | .agg parts => uptoBulkAll parts + 1
  | .iface _ d => uptoBulk d + 1
  | .map entries => uptoBulkEntries entries + 1
  | .held _ => 1
def uptoBulkAll {H : Type} : List (DataW H) → Nat
  | [] => 0
  | d :: r => uptoBulk d + uptoBulkAll r
def uptoBulkEntries {H : Type} : List (Lit × DataW H) → Nat
  | [] => 0
  | x :: r => uptoBulkEntry x + uptoBulkEntries r
def uptoBulkEntry {H : Type} : Lit × DataW H → Nat
  | (.string bytes, d) => bytes.length + uptoBulk d + 1
  | (_, d) => uptoBulk d + 1
 end
def uptoSmall : (H : Type) → List (DataW H) → Bool := fun _ ds => decide (uptoBulkAll ds ≤ 1048576)
def OpenSpec.upto (s : _root_.Go.ChangeSpec) : _root_.Go.OpenSpec := { _root_.Go.OpenSpec.ofChange s with cond := some uptoSmall }

/-- 'scrivlaw.RevsChecks', WHERE WHAT IT READS IS OF BULK AT MOST 1048576: true; the input reads as it did. -/
def revsChecksUptoRow : OpenClaim := { program := "ytjfeaedjifpahaa", sum := "f8b8b66f18fb26ba2e374742abb6506910c2b971c2ce77a2157f1cdb612da531", func := "scrivenry/scrivlaw.RevsChecks", spec := "revsChecks", inPlace := ["internal/abi.NoEscape"], apart := false, narrowed := true }
def RevsChecksUptoSaid : Prop := revsChecksUptoRow.holds Try.pinned (OpenSpec.upto revsChecksSpec)

/-- 'scrivlaw.RevsBetweens', WHERE WHAT IT READS IS OF BULK AT MOST 1048576: true; the input reads as it did. -/
def revsBetweensUptoRow : OpenClaim := { program := "ytjfeaedjifpahaa", sum := "f8b8b66f18fb26ba2e374742abb6506910c2b971c2ce77a2157f1cdb612da531", func := "scrivenry/scrivlaw.RevsBetweens", spec := "revsBetweens", inPlace := ["internal/abi.NoEscape", "internal/bytealg.MakeNoZero"], unfollowed := true, recurses := true, apart := false, narrowed := true }
def RevsBetweensUptoSaid : Prop := revsBetweensUptoRow.holds Try.pinned (OpenSpec.upto revsBetweensSpec)

/-- 'scrivlaw.BlameSays', WHERE WHAT IT READS IS OF BULK AT MOST 1048576: true; the input reads as it did. -/
def blameSaysUptoRow : OpenClaim := { program := "ytjfeaedjifpahaa", sum := "f8b8b66f18fb26ba2e374742abb6506910c2b971c2ce77a2157f1cdb612da531", func := "scrivenry/scrivlaw.BlameSays", spec := "blameSays", apart := false, narrowed := true }
def BlameSaysUptoSaid : Prop := blameSaysUptoRow.holds Try.pinned (OpenSpec.upto blameSaysSpec)

/-- 'scrivkeep.RevsParts', WHERE WHAT IT READS IS OF BULK AT MOST 1048576: true; the input reads as it did. -/
def revsPartsUptoRow : OpenClaim := { program := "ytjfeaedjifpahaa", sum := "f8b8b66f18fb26ba2e374742abb6506910c2b971c2ce77a2157f1cdb612da531", func := "scrivenry/scrivkeep.RevsParts", spec := "revsParts", inPlace := ["internal/abi.NoEscape"], recurses := true, apart := false, narrowed := true }
def RevsPartsUptoSaid : Prop := revsPartsUptoRow.holds Try.pinned (OpenSpec.upto revsPartsSpec)

/-- 'scrivkeep.BlameEach', WHERE WHAT IT READS IS OF BULK AT MOST 1048576: true; the input reads as it did. -/
def blameEachUptoRow : OpenClaim := { program := "ytjfeaedjifpahaa", sum := "f8b8b66f18fb26ba2e374742abb6506910c2b971c2ce77a2157f1cdb612da531", func := "scrivenry/scrivkeep.BlameEach", spec := "blameEach", inPlace := ["internal/abi.NoEscape"], apart := false, narrowed := true }
def BlameEachUptoSaid : Prop := blameEachUptoRow.holds Try.pinned (OpenSpec.upto blameEachSpec)

/-- 'scrivkeep.RevsCut', WHERE WHAT IT READS IS OF BULK AT MOST 1048576: true; the input reads as it did. -/
def revsCutUptoRow : OpenClaim := { program := "ytjfeaedjifpahaa", sum := "f8b8b66f18fb26ba2e374742abb6506910c2b971c2ce77a2157f1cdb612da531", func := "scrivenry/scrivkeep.RevsCut", spec := "revsCut", inPlace := ["internal/abi.NoEscape"], apart := false, narrowed := true }
def RevsCutUptoSaid : Prop := revsCutUptoRow.holds Try.pinned (OpenSpec.upto revsCutSpec)

end Rows
end Go.Proofs.Ytjfeaedjifpahaa
