/-
  No cell of these rows narrows 'for every input' (looked for: loops, veiled, ifaces, maps, wideKeys, modest, calm, conditions, laid).
  DERIVED. THE GIVEN ROWS OF THIS SEAT. 6 by the template 'for every input the law returns true; each argument reads behind the call as it read before'; 0 by the template 'total and deterministic' (their statements: YtndhamcipbecfaaTotals.lean).
  GIVEN WITH THE SEED: the statements are not yours to turn. If you find one false, say at which input.
  Laid BY PROGRAM, IN A SANDBOX (cutbox-rows.mjs): the forced cells as the released guide's own fill.sh prints them over the translation de51666eaacdd8fe… (all of the seat's roots in one cut). By AI agents, Wed Nov 11 2026. No macro, syntax, notation, axiom, sorry.
-/
import Derived.Test.YtndhamcipbecfaaChecked
import GoSem.Claim
import GoSem.ClaimJoined
import GoSem.ClaimMapViews
import Derived.JoinedTies
import Derived.KernelRfl
namespace Go.Proofs.Ytndhamcipbecfaa
/- THE CELL 'sum', in the pinned program and in every row, IS THE sha256 OF THE DUMP (.gsa) THAT YtndhamcipbecfaaProg.lean LOADS. Nothing in Lean hashes anything: it is a label: what it is worth is what the hold of that sum in a sandbox is worth. -/
noncomputable def Try.pinned : Pinned := { name := "ytndhamcipbecfaa", sum := "de51666eaacdd8fe11a79ee263bc203a4303582e2241a892426cf254a55ba6c0", checked := Try.checked }
namespace Rows
def none {H : Type} : Left H := { results := [], args := [] }

/-- 'scrivlaw.UndoSays': WHATEVER THE INPUT: true; the input reads as it did. -/
def undoSaysSpec : ChangeSpec := { name := "undoSays", fn := fun _ => fun
  | [d1, d2, d3] => { results := [.lit (.bool true)], args := [d1, d2, d3] }
  | _ => none }
def undoSaysRow : OpenClaim := { program := "ytndhamcipbecfaa", sum := "de51666eaacdd8fe11a79ee263bc203a4303582e2241a892426cf254a55ba6c0", func := "scrivenry/scrivlaw.UndoSays", spec := "undoSays", inPlace := ["internal/abi.NoEscape"], unfollowed := true, recurses := true, apart := false }
def UndoSaysSaid : Prop := undoSaysRow.holds Try.pinned (OpenSpec.ofChange undoSaysSpec)

/-- ITS FALSE NEIGHBOUR: 'it returns false'. Refute it at one input. -/
def undoSaysWrong : ChangeSpec := { name := "undoSays", fn := fun _ => fun
  | [d1, d2, d3] => { results := [.lit (.bool false)], args := [d1, d2, d3] }
  | _ => none }
def UndoSaysWrongFalsely : Prop := undoSaysRow.holds Try.pinned (OpenSpec.ofChange undoSaysWrong)

/-- 'scrivlaw.CatchSays': WHATEVER THE INPUT: true; the input reads as it did. -/
def catchSaysSpec : ChangeSpec := { name := "catchSays", fn := fun _ => fun
  | [d1, d2, d3, d4] => { results := [.lit (.bool true)], args := [d1, d2, d3, d4] }
  | _ => none }
def catchSaysRow : OpenClaim := { program := "ytndhamcipbecfaa", sum := "de51666eaacdd8fe11a79ee263bc203a4303582e2241a892426cf254a55ba6c0", func := "scrivenry/scrivlaw.CatchSays", spec := "catchSays", inPlace := ["internal/abi.NoEscape", "internal/bytealg.MakeNoZero"], unfollowed := true, recurses := true, apart := false }
def CatchSaysSaid : Prop := catchSaysRow.holds Try.pinned (OpenSpec.ofChange catchSaysSpec)

/-- ITS FALSE NEIGHBOUR: 'it returns false'. Refute it at one input. -/
def catchSaysWrong : ChangeSpec := { name := "catchSays", fn := fun _ => fun
  | [d1, d2, d3, d4] => { results := [.lit (.bool false)], args := [d1, d2, d3, d4] }
  | _ => none }
def CatchSaysWrongFalsely : Prop := catchSaysRow.holds Try.pinned (OpenSpec.ofChange catchSaysWrong)

/-- 'scrivkeep.UndoLast': WHATEVER THE INPUT: true; the input reads as it did. -/
def undoLastSpec : ChangeSpec := { name := "undoLast", fn := fun _ => fun
  | [d1, d2] => { results := [.lit (.bool true)], args := [d1, d2] }
  | _ => none }
def undoLastRow : OpenClaim := { program := "ytndhamcipbecfaa", sum := "de51666eaacdd8fe11a79ee263bc203a4303582e2241a892426cf254a55ba6c0", func := "scrivenry/scrivkeep.UndoLast", spec := "undoLast", inPlace := ["internal/abi.NoEscape"], apart := false }
def UndoLastSaid : Prop := undoLastRow.holds Try.pinned (OpenSpec.ofChange undoLastSpec)

/-- ITS FALSE NEIGHBOUR: 'it returns false'. Refute it at one input. -/
def undoLastWrong : ChangeSpec := { name := "undoLast", fn := fun _ => fun
  | [d1, d2] => { results := [.lit (.bool false)], args := [d1, d2] }
  | _ => none }
def UndoLastWrongFalsely : Prop := undoLastRow.holds Try.pinned (OpenSpec.ofChange undoLastWrong)

/-- 'scrivkeep.UndoOwn': WHATEVER THE INPUT: true; the input reads as it did. -/
def undoOwnSpec : ChangeSpec := { name := "undoOwn", fn := fun _ => fun
  | [d1, d2, d3] => { results := [.lit (.bool true)], args := [d1, d2, d3] }
  | _ => none }
def undoOwnRow : OpenClaim := { program := "ytndhamcipbecfaa", sum := "de51666eaacdd8fe11a79ee263bc203a4303582e2241a892426cf254a55ba6c0", func := "scrivenry/scrivkeep.UndoOwn", spec := "undoOwn", inPlace := ["internal/abi.NoEscape"], apart := false }
def UndoOwnSaid : Prop := undoOwnRow.holds Try.pinned (OpenSpec.ofChange undoOwnSpec)

/-- ITS FALSE NEIGHBOUR: 'it returns false'. Refute it at one input. -/
def undoOwnWrong : ChangeSpec := { name := "undoOwn", fn := fun _ => fun
  | [d1, d2, d3] => { results := [.lit (.bool false)], args := [d1, d2, d3] }
  | _ => none }
def UndoOwnWrongFalsely : Prop := undoOwnRow.holds Try.pinned (OpenSpec.ofChange undoOwnWrong)

/-- 'scrivkeep.CatchMeets': WHATEVER THE INPUT: true; the input reads as it did. -/
def catchMeetsSpec : ChangeSpec := { name := "catchMeets", fn := fun _ => fun
  | [d1, d2, d3, d4] => { results := [.lit (.bool true)], args := [d1, d2, d3, d4] }
  | _ => none }
def catchMeetsRow : OpenClaim := { program := "ytndhamcipbecfaa", sum := "de51666eaacdd8fe11a79ee263bc203a4303582e2241a892426cf254a55ba6c0", func := "scrivenry/scrivkeep.CatchMeets", spec := "catchMeets", inPlace := ["internal/abi.NoEscape"], apart := false }
def CatchMeetsSaid : Prop := catchMeetsRow.holds Try.pinned (OpenSpec.ofChange catchMeetsSpec)

/-- ITS FALSE NEIGHBOUR: 'it returns false'. Refute it at one input. -/
def catchMeetsWrong : ChangeSpec := { name := "catchMeets", fn := fun _ => fun
  | [d1, d2, d3, d4] => { results := [.lit (.bool false)], args := [d1, d2, d3, d4] }
  | _ => none }
def CatchMeetsWrongFalsely : Prop := catchMeetsRow.holds Try.pinned (OpenSpec.ofChange catchMeetsWrong)

/-- 'scrivkeep.CatchEach': WHATEVER THE INPUT: true; the input reads as it did. -/
def catchEachSpec : ChangeSpec := { name := "catchEach", fn := fun _ => fun
  | [d1, d2, d3, d4] => { results := [.lit (.bool true)], args := [d1, d2, d3, d4] }
  | _ => none }
def catchEachRow : OpenClaim := { program := "ytndhamcipbecfaa", sum := "de51666eaacdd8fe11a79ee263bc203a4303582e2241a892426cf254a55ba6c0", func := "scrivenry/scrivkeep.CatchEach", spec := "catchEach", unfollowed := true, recurses := true, apart := false }
def CatchEachSaid : Prop := catchEachRow.holds Try.pinned (OpenSpec.ofChange catchEachSpec)

/-- ITS FALSE NEIGHBOUR: 'it returns false'. Refute it at one input. -/
def catchEachWrong : ChangeSpec := { name := "catchEach", fn := fun _ => fun
  | [d1, d2, d3, d4] => { results := [.lit (.bool false)], args := [d1, d2, d3, d4] }
  | _ => none }
def CatchEachWrongFalsely : Prop := catchEachRow.holds Try.pinned (OpenSpec.ofChange catchEachWrong)

/- THE SECOND FORM. 'bulk': how many values and letters a reading holds, each counted each time it is reached (what is shared counts as often as it is met; a slice's spare places count too). A statement '..UptoSaid' is the law's where the arguments, and the package variables that the reading takes, are together of bulk at most 1048576: NARROWER than '..Said'. Prove '..Said' where nothing that the law and all that it calls make is longer than what came in: it says more and counts as full. Else prove '..UptoSaid'. A law counts once. -/
mutual
def uptoBulk {H : Type} : DataW H → Nat
  | .lit (.string bytes) => bytes.length + 1
  | .lit _ => 1
  | .nil => 1
  | .ptr d => uptoBulk d + 1
  | .slice elems spare => uptoBulkAll elems + uptoBulkAll spare + 1
  | .agg parts => uptoBulkAll parts + 1
  | .iface _ d => uptoBulk d + 1
  | .map entries => uptoBulkEntries entries + 1
  | .held _ => 1
def uptoBulkAll {H : Type} : List (DataW H) → Nat
  | [] => 0
  | d :: r => uptoBulk d + uptoBulkAll r
def uptoBulkEntries {H : Type} : List (Lit × DataW H) → Nat
  | [] => 0
  | x :: r => uptoBulkEntry x + uptoBulkEntries r
def uptoBulkEntry {H : Type} : Lit × DataW H → Nat
  | (.string bytes, d) => bytes.length + uptoBulk d + 1
  | (_, d) => uptoBulk d + 1
 end
def uptoSmall : (H : Type) → List (DataW H) → Bool := fun _ ds => decide (uptoBulkAll ds ≤ 1048576)
def OpenSpec.upto (s : _root_.Go.ChangeSpec) : _root_.Go.OpenSpec := { _root_.Go.OpenSpec.ofChange s with cond := some uptoSmall }

/-- 'scrivlaw.UndoSays', WHERE WHAT IT READS IS OF BULK AT MOST 1048576: true; the input reads as it did. -/
def undoSaysUptoRow : OpenClaim := { program := "ytndhamcipbecfaa", sum := "de51666eaacdd8fe11a79ee263bc203a4303582e2241a892426cf254a55ba6c0", func := "scrivenry/scrivlaw.UndoSays", spec := "undoSays", inPlace := ["internal/abi.NoEscape"], unfollowed := true, recurses := true, apart := false, narrowed := true }
def UndoSaysUptoSaid : Prop := undoSaysUptoRow.holds Try.pinned (OpenSpec.upto undoSaysSpec)

/-- 'scrivlaw.CatchSays', WHERE WHAT IT READS IS OF BULK AT MOST 1048576: true; the input reads as it did. -/
def catchSaysUptoRow : OpenClaim := { program := "ytndhamcipbecfaa", sum := "de51666eaacdd8fe11a79ee263bc203a4303582e2241a892426cf254a55ba6c0", func := "scrivenry/scrivlaw.CatchSays", spec := "catchSays", inPlace := ["internal/abi.NoEscape", "internal/bytealg.MakeNoZero"], unfollowed := true, recurses := true, apart := false, narrowed := true }
def CatchSaysUptoSaid : Prop := catchSaysUptoRow.holds Try.pinned (OpenSpec.upto catchSaysSpec)

/-- 'scrivkeep.UndoLast', WHERE WHAT IT READS IS OF BULK AT MOST 1048576: true; the input reads as it did. -/
def undoLastUptoRow : OpenClaim := { program := "ytndhamcipbecfaa", sum := "de51666eaacdd8fe11a79ee263bc203a4303582e2241a892426cf254a55ba6c0", func := "scrivenry/scrivkeep.UndoLast", spec := "undoLast", inPlace := ["internal/abi.NoEscape"], apart := false, narrowed := true }
def UndoLastUptoSaid : Prop := undoLastUptoRow.holds Try.pinned (OpenSpec.upto undoLastSpec)

/-- 'scrivkeep.UndoOwn', WHERE WHAT IT READS IS OF BULK AT MOST 1048576: true; the input reads as it did. -/
def undoOwnUptoRow : OpenClaim := { program := "ytndhamcipbecfaa", sum := "de51666eaacdd8fe11a79ee263bc203a4303582e2241a892426cf254a55ba6c0", func := "scrivenry/scrivkeep.UndoOwn", spec := "undoOwn", inPlace := ["internal/abi.NoEscape"], apart := false, narrowed := true }
def UndoOwnUptoSaid : Prop := undoOwnUptoRow.holds Try.pinned (OpenSpec.upto undoOwnSpec)

/-- 'scrivkeep.CatchMeets', WHERE WHAT IT READS IS OF BULK AT MOST 1048576: true; the input reads as it did. -/
def catchMeetsUptoRow : OpenClaim := { program := "ytndhamcipbecfaa", sum := "de51666eaacdd8fe11a79ee263bc203a4303582e2241a892426cf254a55ba6c0", func := "scrivenry/scrivkeep.CatchMeets", spec := "catchMeets", inPlace := ["internal/abi.NoEscape"], apart := false, narrowed := true }
def CatchMeetsUptoSaid : Prop := catchMeetsUptoRow.holds Try.pinned (OpenSpec.upto catchMeetsSpec)

/-- 'scrivkeep.CatchEach', WHERE WHAT IT READS IS OF BULK AT MOST 1048576: true; the input reads as it did. -/
def catchEachUptoRow : OpenClaim := { program := "ytndhamcipbecfaa", sum := "de51666eaacdd8fe11a79ee263bc203a4303582e2241a892426cf254a55ba6c0", func := "scrivenry/scrivkeep.CatchEach", spec := "catchEach", unfollowed := true, recurses := true, apart := false, narrowed := true }
def CatchEachUptoSaid : Prop := catchEachUptoRow.holds Try.pinned (OpenSpec.upto catchEachSpec)

end Rows
end Go.Proofs.Ytndhamcipbecfaa
