/-
  No cell of these rows narrows 'for every input' (looked for: loops, veiled, ifaces, maps, wideKeys, modest, calm, conditions, laid).
  DERIVED. THE GIVEN ROWS OF THIS SEAT. 6 by the template 'for every input the law returns true; each argument reads behind the call as it read before'; 0 by the template 'total and deterministic' (their statements: YtkihanmodfnpcabTotals.lean).
  GIVEN WITH THE SEED: the statements are not yours to turn. If you find one false, say at which input.
  Laid BY PROGRAM, IN A SANDBOX (cutbox-rows.mjs): the forced cells as the released guide's own fill.sh prints them over the translation 2b45b6b1efc48949… (all of the seat's roots in one cut). By AI agents, Wed Nov 11 2026. No macro, syntax, notation, axiom, sorry.
-/
import Derived.Test.YtkihanmodfnpcabChecked
import GoSem.Claim
import GoSem.ClaimJoined
import GoSem.ClaimMapViews
import Derived.JoinedTies
import Derived.KernelRfl
namespace Go.Proofs.Ytkihanmodfnpcab
/- THE CELL 'sum', in the pinned program and in every row, IS THE sha256 OF THE DUMP (.gsa) THAT YtkihanmodfnpcabProg.lean LOADS. Nothing in Lean hashes anything: it is a label: what it is worth is what the hold of that sum in a sandbox is worth. -/
noncomputable def Try.pinned : Pinned := { name := "ytkihanmodfnpcab", sum := "2b45b6b1efc48949855bd5de031c039c97ecb413149644b11b4513da36d61eda", checked := Try.checked }
namespace Rows
def none {H : Type} : Left H := { results := [], args := [] }

/-- 'scrivlaw.HotWrites': WHATEVER THE INPUT: true; the input reads as it did. -/
def hotWritesSpec : ChangeSpec := { name := "hotWrites", fn := fun _ => fun
  | [d1, d2, d3, d4, d5] => { results := [.lit (.bool true)], args := [d1, d2, d3, d4, d5] }
  | _ => none }
def hotWritesRow : OpenClaim := { program := "ytkihanmodfnpcab", sum := "2b45b6b1efc48949855bd5de031c039c97ecb413149644b11b4513da36d61eda", func := "scrivenry/scrivlaw.HotWrites", spec := "hotWrites", inPlace := ["internal/abi.NoEscape"], recurses := true, apart := false }
def HotWritesSaid : Prop := hotWritesRow.holds Try.pinned (OpenSpec.ofChange hotWritesSpec)

/-- ITS FALSE NEIGHBOUR: 'it returns false'. Refute it at one input. -/
def hotWritesWrong : ChangeSpec := { name := "hotWrites", fn := fun _ => fun
  | [d1, d2, d3, d4, d5] => { results := [.lit (.bool false)], args := [d1, d2, d3, d4, d5] }
  | _ => none }
def HotWritesWrongFalsely : Prop := hotWritesRow.holds Try.pinned (OpenSpec.ofChange hotWritesWrong)

/-- 'scrivlaw.HotReads': WHATEVER THE INPUT: true; the input reads as it did. -/
def hotReadsSpec : ChangeSpec := { name := "hotReads", fn := fun _ => fun
  | [d] => { results := [.lit (.bool true)], args := [d] }
  | _ => none }
def hotReadsRow : OpenClaim := { program := "ytkihanmodfnpcab", sum := "2b45b6b1efc48949855bd5de031c039c97ecb413149644b11b4513da36d61eda", func := "scrivenry/scrivlaw.HotReads", spec := "hotReads", unfollowed := true, recurses := true, apart := false }
def HotReadsSaid : Prop := hotReadsRow.holds Try.pinned (OpenSpec.ofChange hotReadsSpec)

/-- ITS FALSE NEIGHBOUR: 'it returns false'. Refute it at one input. -/
def hotReadsWrong : ChangeSpec := { name := "hotReads", fn := fun _ => fun
  | [d] => { results := [.lit (.bool false)], args := [d] }
  | _ => none }
def HotReadsWrongFalsely : Prop := hotReadsRow.holds Try.pinned (OpenSpec.ofChange hotReadsWrong)

/-- 'scrivkeep.HotBack': WHATEVER THE INPUT: true; the input reads as it did. -/
def hotBackSpec : ChangeSpec := { name := "hotBack", fn := fun _ => fun
  | [d1, d2, d3, d4] => { results := [.lit (.bool true)], args := [d1, d2, d3, d4] }
  | _ => none }
def hotBackRow : OpenClaim := { program := "ytkihanmodfnpcab", sum := "2b45b6b1efc48949855bd5de031c039c97ecb413149644b11b4513da36d61eda", func := "scrivenry/scrivkeep.HotBack", spec := "hotBack", inPlace := ["internal/abi.NoEscape"], unfollowed := true, recurses := true, apart := false }
def HotBackSaid : Prop := hotBackRow.holds Try.pinned (OpenSpec.ofChange hotBackSpec)

/-- ITS FALSE NEIGHBOUR: 'it returns false'. Refute it at one input. -/
def hotBackWrong : ChangeSpec := { name := "hotBack", fn := fun _ => fun
  | [d1, d2, d3, d4] => { results := [.lit (.bool false)], args := [d1, d2, d3, d4] }
  | _ => none }
def HotBackWrongFalsely : Prop := hotBackRow.holds Try.pinned (OpenSpec.ofChange hotBackWrong)

/-- 'scrivkeep.HotTorn': WHATEVER THE INPUT: true; the input reads as it did. -/
def hotTornSpec : ChangeSpec := { name := "hotTorn", fn := fun _ => fun
  | [d1, d2] => { results := [.lit (.bool true)], args := [d1, d2] }
  | _ => none }
def hotTornRow : OpenClaim := { program := "ytkihanmodfnpcab", sum := "2b45b6b1efc48949855bd5de031c039c97ecb413149644b11b4513da36d61eda", func := "scrivenry/scrivkeep.HotTorn", spec := "hotTorn", unfollowed := true, recurses := true, apart := false }
def HotTornSaid : Prop := hotTornRow.holds Try.pinned (OpenSpec.ofChange hotTornSpec)

/-- ITS FALSE NEIGHBOUR: 'it returns false'. Refute it at one input. -/
def hotTornWrong : ChangeSpec := { name := "hotTorn", fn := fun _ => fun
  | [d1, d2] => { results := [.lit (.bool false)], args := [d1, d2] }
  | _ => none }
def HotTornWrongFalsely : Prop := hotTornRow.holds Try.pinned (OpenSpec.ofChange hotTornWrong)

/-- 'scrivkeep.HotMore': WHATEVER THE INPUT: true; the input reads as it did. -/
def hotMoreSpec : ChangeSpec := { name := "hotMore", fn := fun _ => fun
  | [d1, d2] => { results := [.lit (.bool true)], args := [d1, d2] }
  | _ => none }
def hotMoreRow : OpenClaim := { program := "ytkihanmodfnpcab", sum := "2b45b6b1efc48949855bd5de031c039c97ecb413149644b11b4513da36d61eda", func := "scrivenry/scrivkeep.HotMore", spec := "hotMore", inPlace := ["internal/abi.NoEscape"], unfollowed := true, recurses := true, apart := false }
def HotMoreSaid : Prop := hotMoreRow.holds Try.pinned (OpenSpec.ofChange hotMoreSpec)

/-- ITS FALSE NEIGHBOUR: 'it returns false'. Refute it at one input. -/
def hotMoreWrong : ChangeSpec := { name := "hotMore", fn := fun _ => fun
  | [d1, d2] => { results := [.lit (.bool false)], args := [d1, d2] }
  | _ => none }
def HotMoreWrongFalsely : Prop := hotMoreRow.holds Try.pinned (OpenSpec.ofChange hotMoreWrong)

/-- 'scrivkeep.RevsParts': WHATEVER THE INPUT: true; the input reads as it did. -/
def revsPartsSpec : ChangeSpec := { name := "revsParts", fn := fun _ => fun
  | [d1, d2, d3, d4, d5] => { results := [.lit (.bool true)], args := [d1, d2, d3, d4, d5] }
  | _ => none }
def revsPartsRow : OpenClaim := { program := "ytkihanmodfnpcab", sum := "2b45b6b1efc48949855bd5de031c039c97ecb413149644b11b4513da36d61eda", func := "scrivenry/scrivkeep.RevsParts", spec := "revsParts", inPlace := ["internal/abi.NoEscape"], recurses := true, apart := false }
def RevsPartsSaid : Prop := revsPartsRow.holds Try.pinned (OpenSpec.ofChange revsPartsSpec)

/-- ITS FALSE NEIGHBOUR: 'it returns false'. Refute it at one input. -/
def revsPartsWrong : ChangeSpec := { name := "revsParts", fn := fun _ => fun
  | [d1, d2, d3, d4, d5] => { results := [.lit (.bool false)], args := [d1, d2, d3, d4, d5] }
  | _ => none }
def RevsPartsWrongFalsely : Prop := revsPartsRow.holds Try.pinned (OpenSpec.ofChange revsPartsWrong)

/- THE SECOND FORM. 'bulk': how many values and letters a reading holds, each counted each time it is reached (what is shared counts as often as it is met; a slice's spare places count too). A statement '..UptoSaid' is the law's where the arguments, and the package variables that the reading takes, are together of bulk at most 1048576: NARROWER than '..Said'. Prove '..Said' where nothing that the law and all that it calls make is longer than what came in: it says more and counts as full. Else prove '..UptoSaid'. A law counts once. -/
mutual
def uptoBulk {H : Type} : DataW H → Nat
  | .lit (.string bytes) => bytes.length + 1
  | .lit _ => 1
  | .nil => 1
  | .ptr d => uptoBulk d + 1
  | .slice elems spare => uptoBulkAll elems + uptoBulkAll spare + 1
  | .agg parts => uptoBulkAll parts + 1
  | .iface _ d => uptoBulk d + 1
  | .map entries => uptoBulkEntries entries + 1
  | .held _ => 1
def uptoBulkAll {H : Type} : List (DataW H) → Nat
  | [] => 0
  | d :: r => uptoBulk d + uptoBulkAll r
def uptoBulkEntries {H : Type} : List (Lit × DataW H) → Nat
  | [] => 0
  | x :: r => uptoBulkEntry x + uptoBulkEntries r
def uptoBulkEntry {H : Type} : Lit × DataW H → Nat
  | (.string bytes, d) => bytes.length + uptoBulk d + 1
  | (_, d) => uptoBulk d + 1
 end
def uptoSmall : (H : Type) → List (DataW H) → Bool := fun _ ds => decide (uptoBulkAll ds ≤ 1048576)
def OpenSpec.upto (s : _root_.Go.ChangeSpec) : _root_.Go.OpenSpec := { _root_.Go.OpenSpec.ofChange s with cond := some uptoSmall }

/-- 'scrivlaw.HotWrites', WHERE WHAT IT READS IS OF BULK AT MOST 1048576: true; the input reads as it did. -/
def hotWritesUptoRow : OpenClaim := { program := "ytkihanmodfnpcab", sum := "2b45b6b1efc48949855bd5de031c039c97ecb413149644b11b4513da36d61eda", func := "scrivenry/scrivlaw.HotWrites", spec := "hotWrites", inPlace := ["internal/abi.NoEscape"], recurses := true, apart := false, narrowed := true }
def HotWritesUptoSaid : Prop := hotWritesUptoRow.holds Try.pinned (OpenSpec.upto hotWritesSpec)

/-- 'scrivlaw.HotReads', WHERE WHAT IT READS IS OF BULK AT MOST 1048576: true; the input reads as it did. -/
def hotReadsUptoRow : OpenClaim := { program := "ytkihanmodfnpcab", sum := "2b45b6b1efc48949855bd5de031c039c97ecb413149644b11b4513da36d61eda", func := "scrivenry/scrivlaw.HotReads", spec := "hotReads", unfollowed := true, recurses := true, apart := false, narrowed := true }
def HotReadsUptoSaid : Prop := hotReadsUptoRow.holds Try.pinned (OpenSpec.upto hotReadsSpec)

/-- 'scrivkeep.HotBack', WHERE WHAT IT READS IS OF BULK AT MOST 1048576: true; the input reads as it did. -/
def hotBackUptoRow : OpenClaim := { program := "ytkihanmodfnpcab", sum := "2b45b6b1efc48949855bd5de031c039c97ecb413149644b11b4513da36d61eda", func := "scrivenry/scrivkeep.HotBack", spec := "hotBack", inPlace := ["internal/abi.NoEscape"], unfollowed := true, recurses := true, apart := false, narrowed := true }
def HotBackUptoSaid : Prop := hotBackUptoRow.holds Try.pinned (OpenSpec.upto hotBackSpec)

/-- 'scrivkeep.HotTorn', WHERE WHAT IT READS IS OF BULK AT MOST 1048576: true; the input reads as it did. -/
def hotTornUptoRow : OpenClaim := { program := "ytkihanmodfnpcab", sum := "2b45b6b1efc48949855bd5de031c039c97ecb413149644b11b4513da36d61eda", func := "scrivenry/scrivkeep.HotTorn", spec := "hotTorn", unfollowed := true, recurses := true, apart := false, narrowed := true }
def HotTornUptoSaid : Prop := hotTornUptoRow.holds Try.pinned (OpenSpec.upto hotTornSpec)

/-- 'scrivkeep.HotMore', WHERE WHAT IT READS IS OF BULK AT MOST 1048576: true; the input reads as it did. -/
def hotMoreUptoRow : OpenClaim := { program := "ytkihanmodfnpcab", sum := "2b45b6b1efc48949855bd5de031c039c97ecb413149644b11b4513da36d61eda", func := "scrivenry/scrivkeep.HotMore", spec := "hotMore", inPlace := ["internal/abi.NoEscape"], unfollowed := true, recurses := true, apart := false, narrowed := true }
def HotMoreUptoSaid : Prop := hotMoreUptoRow.holds Try.pinned (OpenSpec.upto hotMoreSpec)

/-- 'scrivkeep.RevsParts', WHERE WHAT IT READS IS OF BULK AT MOST 1048576: true; the input reads as it did. -/
def revsPartsUptoRow : OpenClaim := { program := "ytkihanmodfnpcab", sum := "2b45b6b1efc48949855bd5de031c039c97ecb413149644b11b4513da36d61eda", func := "scrivenry/scrivkeep.RevsParts", spec := "revsParts", inPlace := ["internal/abi.NoEscape"], recurses := true, apart := false, narrowed := true }
def RevsPartsUptoSaid : Prop := revsPartsUptoRow.holds Try.pinned (OpenSpec.upto revsPartsSpec)

end Rows
end Go.Proofs.Ytkihanmodfnpcab
