/-
  No cell of these rows narrows 'for every input' (looked for: loops, veiled, ifaces, maps, wideKeys, modest, calm, conditions, laid).
  DERIVED. THE GIVEN ROWS OF THIS SEAT. 6 by the template 'for every input the law returns true; each argument reads behind the call as it read before'; 0 by the template 'total and deterministic' (their statements: YtcghojnmnmmpoaaTotals.lean).
  GIVEN WITH THE SEED: the statements are not yours to turn. If you find one false, say at which input.
  Laid BY PROGRAM, IN A SANDBOX (cutbox-rows.mjs): the forced cells as the released guide's own fill.sh prints them over the translation f120a95b264b76a7… (all of the seat's roots in one cut). By AI agents, Wed Nov 11 2026. No macro, syntax, notation, axiom, sorry.
-/
import Derived.Test.YtcghojnmnmmpoaaChecked
import GoSem.Claim
import GoSem.ClaimJoined
import GoSem.ClaimMapViews
import Derived.JoinedTies
import Derived.KernelRfl
namespace Go.Proofs.Ytcghojnmnmmpoaa
/- THE CELL 'sum', in the pinned program and in every row, IS THE sha256 OF THE DUMP (.gsa) THAT YtcghojnmnmmpoaaProg.lean LOADS. Nothing in Lean hashes anything: it is a label: what it is worth is what the hold of that sum in a sandbox is worth. -/
noncomputable def Try.pinned : Pinned := { name := "ytcghojnmnmmpoaa", sum := "f120a95b264b76a73e68afb65426ff4b8c678e351c2e0985fb88d0ec6d8b403e", checked := Try.checked }
namespace Rows
def none {H : Type} : Left H := { results := [], args := [] }

/-- 'scrivkeep.ShopHands': WHATEVER THE INPUT: true; the input reads as it did. -/
def shopHandsSpec : ChangeSpec := { name := "shopHands", fn := fun _ => fun
  | [d1, d2] => { results := [.lit (.bool true)], args := [d1, d2] }
  | _ => none }
def shopHandsRow : OpenClaim := { program := "ytcghojnmnmmpoaa", sum := "f120a95b264b76a73e68afb65426ff4b8c678e351c2e0985fb88d0ec6d8b403e", func := "scrivenry/scrivkeep.ShopHands", spec := "shopHands", inPlace := ["internal/abi.NoEscape"], apart := false }
def ShopHandsSaid : Prop := shopHandsRow.holds Try.pinned (OpenSpec.ofChange shopHandsSpec)

/-- ITS FALSE NEIGHBOUR: 'it returns false'. Refute it at one input. -/
def shopHandsWrong : ChangeSpec := { name := "shopHands", fn := fun _ => fun
  | [d1, d2] => { results := [.lit (.bool false)], args := [d1, d2] }
  | _ => none }
def ShopHandsWrongFalsely : Prop := shopHandsRow.holds Try.pinned (OpenSpec.ofChange shopHandsWrong)

/-- 'scrivkeep.ShopOwn': WHATEVER THE INPUT: true; the input reads as it did. -/
def shopOwnSpec : ChangeSpec := { name := "shopOwn", fn := fun _ => fun
  | [d] => { results := [.lit (.bool true)], args := [d] }
  | _ => none }
def shopOwnRow : OpenClaim := { program := "ytcghojnmnmmpoaa", sum := "f120a95b264b76a73e68afb65426ff4b8c678e351c2e0985fb88d0ec6d8b403e", func := "scrivenry/scrivkeep.ShopOwn", spec := "shopOwn", inPlace := ["internal/abi.NoEscape"], unfollowed := true, recurses := true, apart := false }
def ShopOwnSaid : Prop := shopOwnRow.holds Try.pinned (OpenSpec.ofChange shopOwnSpec)

/-- ITS FALSE NEIGHBOUR: 'it returns false'. Refute it at one input. -/
def shopOwnWrong : ChangeSpec := { name := "shopOwn", fn := fun _ => fun
  | [d] => { results := [.lit (.bool false)], args := [d] }
  | _ => none }
def ShopOwnWrongFalsely : Prop := shopOwnRow.holds Try.pinned (OpenSpec.ofChange shopOwnWrong)

/-- 'scrivtop.TopKeep': WHATEVER THE INPUT: true; the input reads as it did. -/
def topKeepSpec : ChangeSpec := { name := "topKeep", fn := fun _ => fun
  | [d1, d2] => { results := [.lit (.bool true)], args := [d1, d2] }
  | _ => none }
def topKeepRow : OpenClaim := { program := "ytcghojnmnmmpoaa", sum := "f120a95b264b76a73e68afb65426ff4b8c678e351c2e0985fb88d0ec6d8b403e", func := "scrivenry/scrivtop.TopKeep", spec := "topKeep", inPlace := ["internal/abi.NoEscape"], apart := false }
def TopKeepSaid : Prop := topKeepRow.holds Try.pinned (OpenSpec.ofChange topKeepSpec)

/-- ITS FALSE NEIGHBOUR: 'it returns false'. Refute it at one input. -/
def topKeepWrong : ChangeSpec := { name := "topKeep", fn := fun _ => fun
  | [d1, d2] => { results := [.lit (.bool false)], args := [d1, d2] }
  | _ => none }
def TopKeepWrongFalsely : Prop := topKeepRow.holds Try.pinned (OpenSpec.ofChange topKeepWrong)

/-- 'scrivtop.TopUndo': WHATEVER THE INPUT: true; the input reads as it did. -/
def topUndoSpec : ChangeSpec := { name := "topUndo", fn := fun _ => fun
  | [d1, d2, d3] => { results := [.lit (.bool true)], args := [d1, d2, d3] }
  | _ => none }
def topUndoRow : OpenClaim := { program := "ytcghojnmnmmpoaa", sum := "f120a95b264b76a73e68afb65426ff4b8c678e351c2e0985fb88d0ec6d8b403e", func := "scrivenry/scrivtop.TopUndo", spec := "topUndo", inPlace := ["internal/abi.NoEscape"], apart := false }
def TopUndoSaid : Prop := topUndoRow.holds Try.pinned (OpenSpec.ofChange topUndoSpec)

/-- ITS FALSE NEIGHBOUR: 'it returns false'. Refute it at one input. -/
def topUndoWrong : ChangeSpec := { name := "topUndo", fn := fun _ => fun
  | [d1, d2, d3] => { results := [.lit (.bool false)], args := [d1, d2, d3] }
  | _ => none }
def TopUndoWrongFalsely : Prop := topUndoRow.holds Try.pinned (OpenSpec.ofChange topUndoWrong)

/-- 'scrivtop.TopDiff': WHATEVER THE INPUT: true; the input reads as it did. -/
def topDiffSpec : ChangeSpec := { name := "topDiff", fn := fun _ => fun
  | [d] => { results := [.lit (.bool true)], args := [d] }
  | _ => none }
def topDiffRow : OpenClaim := { program := "ytcghojnmnmmpoaa", sum := "f120a95b264b76a73e68afb65426ff4b8c678e351c2e0985fb88d0ec6d8b403e", func := "scrivenry/scrivtop.TopDiff", spec := "topDiff", inPlace := ["internal/abi.NoEscape"], apart := false }
def TopDiffSaid : Prop := topDiffRow.holds Try.pinned (OpenSpec.ofChange topDiffSpec)

/-- ITS FALSE NEIGHBOUR: 'it returns false'. Refute it at one input. -/
def topDiffWrong : ChangeSpec := { name := "topDiff", fn := fun _ => fun
  | [d] => { results := [.lit (.bool false)], args := [d] }
  | _ => none }
def TopDiffWrongFalsely : Prop := topDiffRow.holds Try.pinned (OpenSpec.ofChange topDiffWrong)

/-- 'scrivkeep.RevsParts': WHATEVER THE INPUT: true; the input reads as it did. -/
def revsPartsSpec : ChangeSpec := { name := "revsParts", fn := fun _ => fun
  | [d1, d2, d3, d4, d5] => { results := [.lit (.bool true)], args := [d1, d2, d3, d4, d5] }
  | _ => none }
def revsPartsRow : OpenClaim := { program := "ytcghojnmnmmpoaa", sum := "f120a95b264b76a73e68afb65426ff4b8c678e351c2e0985fb88d0ec6d8b403e", func := "scrivenry/scrivkeep.RevsParts", spec := "revsParts", inPlace := ["internal/abi.NoEscape"], recurses := true, apart := false }
def RevsPartsSaid : Prop := revsPartsRow.holds Try.pinned (OpenSpec.ofChange revsPartsSpec)

/-- ITS FALSE NEIGHBOUR: 'it returns false'. Refute it at one input. -/
def revsPartsWrong : ChangeSpec := { name := "revsParts", fn := fun _ => fun
  | [d1, d2, d3, d4, d5] => { results := [.lit (.bool false)], args := [d1, d2, d3, d4, d5] }
  | _ => none }
def RevsPartsWrongFalsely : Prop := revsPartsRow.holds Try.pinned (OpenSpec.ofChange revsPartsWrong)

/- THE SECOND FORM. 'bulk': how many values and letters a reading holds, each counted each time it is reached (what is shared counts as often as it is met; a slice's spare places count too). A statement '..UptoSaid' is the law's where the arguments, and the package variables that the reading takes, are together of bulk at most 1048576: NARROWER than '..Said'. Prove '..Said' where nothing that the law and all that it calls make is longer than what came in: it says more and counts as full. Else prove '..UptoSaid'. A law counts once. -/
mutual
def uptoBulk {H : Type} : DataW H → Nat
  | .lit (.string bytes) => bytes.length + 1
  | .lit _ => 1
  | .nil => 1
  | .ptr d => uptoBulk d + 1
  | .slice elems spare => uptoBulkAll elems + uptoBulkAll spare + 1
  | .agg parts => uptoBulkAll parts + 1
  | .iface _ d => uptoBulk d + 1
  | .map entries => uptoBulkEntries entries + 1
  | .held _ => 1
def uptoBulkAll {H : Type} : List (DataW H) → Nat
  | [] => 0
  | d :: r => uptoBulk d + uptoBulkAll r
def uptoBulkEntries {H : Type} : List (Lit × DataW H) → Nat
  | [] => 0
  | x :: r => uptoBulkEntry x + uptoBulkEntries r
def uptoBulkEntry {H : Type} : Lit × DataW H → Nat
  | (.string bytes, d) => bytes.length + uptoBulk d + 1
  | (_, d) => uptoBulk d + 1
 end
def uptoSmall : (H : Type) → List (DataW H) → Bool := fun _ ds => decide (uptoBulkAll ds ≤ 1048576)
def OpenSpec.upto (s : _root_.Go.ChangeSpec) : _root_.Go.OpenSpec := { _root_.Go.OpenSpec.ofChange s with cond := some uptoSmall }

/-- 'scrivkeep.ShopHands', WHERE WHAT IT READS IS OF BULK AT MOST 1048576: true; the input reads as it did. -/
def shopHandsUptoRow : OpenClaim := { program := "ytcghojnmnmmpoaa", sum := "f120a95b264b76a73e68afb65426ff4b8c678e351c2e0985fb88d0ec6d8b403e", func := "scrivenry/scrivkeep.ShopHands", spec := "shopHands", inPlace := ["internal/abi.NoEscape"], apart := false, narrowed := true }
def ShopHandsUptoSaid : Prop := shopHandsUptoRow.holds Try.pinned (OpenSpec.upto shopHandsSpec)

/-- 'scrivkeep.ShopOwn', WHERE WHAT IT READS IS OF BULK AT MOST 1048576: true; the input reads as it did. -/
def shopOwnUptoRow : OpenClaim := { program := "ytcghojnmnmmpoaa", sum := "f120a95b264b76a73e68afb65426ff4b8c678e351c2e0985fb88d0ec6d8b403e", func := "scrivenry/scrivkeep.ShopOwn", spec := "shopOwn", inPlace := ["internal/abi.NoEscape"], unfollowed := true, recurses := true, apart := false, narrowed := true }
def ShopOwnUptoSaid : Prop := shopOwnUptoRow.holds Try.pinned (OpenSpec.upto shopOwnSpec)

/-- 'scrivtop.TopKeep', WHERE WHAT IT READS IS OF BULK AT MOST 1048576: true; the input reads as it did. -/
def topKeepUptoRow : OpenClaim := { program := "ytcghojnmnmmpoaa", sum := "f120a95b264b76a73e68afb65426ff4b8c678e351c2e0985fb88d0ec6d8b403e", func := "scrivenry/scrivtop.TopKeep", spec := "topKeep", inPlace := ["internal/abi.NoEscape"], apart := false, narrowed := true }
def TopKeepUptoSaid : Prop := topKeepUptoRow.holds Try.pinned (OpenSpec.upto topKeepSpec)

/-- 'scrivtop.TopUndo', WHERE WHAT IT READS IS OF BULK AT MOST 1048576: true; the input reads as it did. -/
def topUndoUptoRow : OpenClaim := { program := "ytcghojnmnmmpoaa", sum := "f120a95b264b76a73e68afb65426ff4b8c678e351c2e0985fb88d0ec6d8b403e", func := "scrivenry/scrivtop.TopUndo", spec := "topUndo", inPlace := ["internal/abi.NoEscape"], apart := false, narrowed := true }
def TopUndoUptoSaid : Prop := topUndoUptoRow.holds Try.pinned (OpenSpec.upto topUndoSpec)

/-- 'scrivtop.TopDiff', WHERE WHAT IT READS IS OF BULK AT MOST 1048576: true; the input reads as it did. -/
def topDiffUptoRow : OpenClaim := { program := "ytcghojnmnmmpoaa", sum := "f120a95b264b76a73e68afb65426ff4b8c678e351c2e0985fb88d0ec6d8b403e", func := "scrivenry/scrivtop.TopDiff", spec := "topDiff", inPlace := ["internal/abi.NoEscape"], apart := false, narrowed := true }
def TopDiffUptoSaid : Prop := topDiffUptoRow.holds Try.pinned (OpenSpec.upto topDiffSpec)

/-- 'scrivkeep.RevsParts', WHERE WHAT IT READS IS OF BULK AT MOST 1048576: true; the input reads as it did. -/
def revsPartsUptoRow : OpenClaim := { program := "ytcghojnmnmmpoaa", sum := "f120a95b264b76a73e68afb65426ff4b8c678e351c2e0985fb88d0ec6d8b403e", func := "scrivenry/scrivkeep.RevsParts", spec := "revsParts", inPlace := ["internal/abi.NoEscape"], recurses := true, apart := false, narrowed := true }
def RevsPartsUptoSaid : Prop := revsPartsUptoRow.holds Try.pinned (OpenSpec.upto revsPartsSpec)

end Rows
end Go.Proofs.Ytcghojnmnmmpoaa
