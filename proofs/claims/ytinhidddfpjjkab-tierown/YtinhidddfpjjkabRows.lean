/-
  No cell of these rows narrows 'for every input' (looked for: loops, veiled, ifaces, maps, wideKeys, modest, calm, conditions, laid).
  DERIVED. THE GIVEN ROWS OF THIS SEAT. 5 by the template 'for every input the law returns true; each argument reads behind the call as it read before'; 0 by the template 'total and deterministic' (their statements: YtinhidddfpjjkabTotals.lean).
  GIVEN WITH THE SEED: the statements are not yours to turn. If you find one false, say at which input.
  Laid BY PROGRAM, IN A SANDBOX (cutbox-rows.mjs): the forced cells as the released guide's own fill.sh prints them over the translation bfa110b079cac4ab… (all of the seat's roots in one cut). By AI agents, Wed Nov 11 2026. No macro, syntax, notation, axiom, sorry.
-/
import Derived.Test.YtinhidddfpjjkabChecked
import GoSem.Claim
import GoSem.ClaimJoined
import GoSem.ClaimMapViews
import Derived.JoinedTies
import Derived.KernelRfl
namespace Go.Proofs.Ytinhidddfpjjkab
/- THE CELL 'sum', in the pinned program and in every row, IS THE sha256 OF THE DUMP (.gsa) THAT YtinhidddfpjjkabProg.lean LOADS. Nothing in Lean hashes anything: it is a label: what it is worth is what the hold of that sum in a sandbox is worth. -/
noncomputable def Try.pinned : Pinned := { name := "ytinhidddfpjjkab", sum := "bfa110b079cac4ab224bb53179fbcb52330c282f151d5961212cd48d23970e7d", checked := Try.checked }
namespace Rows
def none {H : Type} : Left H := { results := [], args := [] }

/-- 'scrivlaw.TierBuilds': WHATEVER THE INPUT: true; the input reads as it did. -/
def tierBuildsSpec : ChangeSpec := { name := "tierBuilds", fn := fun _ => fun
  | [d1, d2] => { results := [.lit (.bool true)], args := [d1, d2] }
  | _ => none }
def tierBuildsRow : OpenClaim := { program := "ytinhidddfpjjkab", sum := "bfa110b079cac4ab224bb53179fbcb52330c282f151d5961212cd48d23970e7d", func := "scrivenry/scrivlaw.TierBuilds", spec := "tierBuilds", inPlace := ["internal/abi.NoEscape", "internal/bytealg.MakeNoZero"], unfollowed := true, recurses := true, apart := false }
def TierBuildsSaid : Prop := tierBuildsRow.holds Try.pinned (OpenSpec.ofChange tierBuildsSpec)

/-- ITS FALSE NEIGHBOUR: 'it returns false'. Refute it at one input. -/
def tierBuildsWrong : ChangeSpec := { name := "tierBuilds", fn := fun _ => fun
  | [d1, d2] => { results := [.lit (.bool false)], args := [d1, d2] }
  | _ => none }
def TierBuildsWrongFalsely : Prop := tierBuildsRow.holds Try.pinned (OpenSpec.ofChange tierBuildsWrong)

/-- 'scrivlaw.TierBetweens': WHATEVER THE INPUT: true; the input reads as it did. -/
def tierBetweensSpec : ChangeSpec := { name := "tierBetweens", fn := fun _ => fun
  | [d1, d2, d3] => { results := [.lit (.bool true)], args := [d1, d2, d3] }
  | _ => none }
def tierBetweensRow : OpenClaim := { program := "ytinhidddfpjjkab", sum := "bfa110b079cac4ab224bb53179fbcb52330c282f151d5961212cd48d23970e7d", func := "scrivenry/scrivlaw.TierBetweens", spec := "tierBetweens", inPlace := ["internal/abi.NoEscape", "internal/bytealg.MakeNoZero"], unfollowed := true, recurses := true, apart := false }
def TierBetweensSaid : Prop := tierBetweensRow.holds Try.pinned (OpenSpec.ofChange tierBetweensSpec)

/-- ITS FALSE NEIGHBOUR: 'it returns false'. Refute it at one input. -/
def tierBetweensWrong : ChangeSpec := { name := "tierBetweens", fn := fun _ => fun
  | [d1, d2, d3] => { results := [.lit (.bool false)], args := [d1, d2, d3] }
  | _ => none }
def TierBetweensWrongFalsely : Prop := tierBetweensRow.holds Try.pinned (OpenSpec.ofChange tierBetweensWrong)

/-- 'scrivkeep.TierSame': WHATEVER THE INPUT: true; the input reads as it did. -/
def tierSameSpec : ChangeSpec := { name := "tierSame", fn := fun _ => fun
  | [d1, d2, d3, d4] => { results := [.lit (.bool true)], args := [d1, d2, d3, d4] }
  | _ => none }
def tierSameRow : OpenClaim := { program := "ytinhidddfpjjkab", sum := "bfa110b079cac4ab224bb53179fbcb52330c282f151d5961212cd48d23970e7d", func := "scrivenry/scrivkeep.TierSame", spec := "tierSame", apart := false }
def TierSameSaid : Prop := tierSameRow.holds Try.pinned (OpenSpec.ofChange tierSameSpec)

/-- ITS FALSE NEIGHBOUR: 'it returns false'. Refute it at one input. -/
def tierSameWrong : ChangeSpec := { name := "tierSame", fn := fun _ => fun
  | [d1, d2, d3, d4] => { results := [.lit (.bool false)], args := [d1, d2, d3, d4] }
  | _ => none }
def TierSameWrongFalsely : Prop := tierSameRow.holds Try.pinned (OpenSpec.ofChange tierSameWrong)

/-- 'scrivkeep.TierRows': WHATEVER THE INPUT: true; the input reads as it did. -/
def tierRowsSpec : ChangeSpec := { name := "tierRows", fn := fun _ => fun
  | [d1, d2, d3, d4] => { results := [.lit (.bool true)], args := [d1, d2, d3, d4] }
  | _ => none }
def tierRowsRow : OpenClaim := { program := "ytinhidddfpjjkab", sum := "bfa110b079cac4ab224bb53179fbcb52330c282f151d5961212cd48d23970e7d", func := "scrivenry/scrivkeep.TierRows", spec := "tierRows", inPlace := ["internal/abi.NoEscape"], apart := false }
def TierRowsSaid : Prop := tierRowsRow.holds Try.pinned (OpenSpec.ofChange tierRowsSpec)

/-- ITS FALSE NEIGHBOUR: 'it returns false'. Refute it at one input. -/
def tierRowsWrong : ChangeSpec := { name := "tierRows", fn := fun _ => fun
  | [d1, d2, d3, d4] => { results := [.lit (.bool false)], args := [d1, d2, d3, d4] }
  | _ => none }
def TierRowsWrongFalsely : Prop := tierRowsRow.holds Try.pinned (OpenSpec.ofChange tierRowsWrong)

/-- 'scrivkeep.TierOwn': WHATEVER THE INPUT: true; the input reads as it did. -/
def tierOwnSpec : ChangeSpec := { name := "tierOwn", fn := fun _ => fun
  | [d1, d2, d3, d4] => { results := [.lit (.bool true)], args := [d1, d2, d3, d4] }
  | _ => none }
def tierOwnRow : OpenClaim := { program := "ytinhidddfpjjkab", sum := "bfa110b079cac4ab224bb53179fbcb52330c282f151d5961212cd48d23970e7d", func := "scrivenry/scrivkeep.TierOwn", spec := "tierOwn", unfollowed := true, recurses := true, apart := false }
def TierOwnSaid : Prop := tierOwnRow.holds Try.pinned (OpenSpec.ofChange tierOwnSpec)

/-- ITS FALSE NEIGHBOUR: 'it returns false'. Refute it at one input. -/
def tierOwnWrong : ChangeSpec := { name := "tierOwn", fn := fun _ => fun
  | [d1, d2, d3, d4] => { results := [.lit (.bool false)], args := [d1, d2, d3, d4] }
  | _ => none }
def TierOwnWrongFalsely : Prop := tierOwnRow.holds Try.pinned (OpenSpec.ofChange tierOwnWrong)

/- THE SECOND FORM. 'bulk': how many values and letters a reading holds, each counted each time it is reached (what is shared counts as often as it is met; a slice's spare places count too). A statement '..UptoSaid' is the law's where the arguments, and the package variables that the reading takes, are together of bulk at most 1048576: NARROWER than '..Said'. Prove '..Said' where nothing that the law and all that it calls make is longer than what came in: it says more and counts as full. Else prove '..UptoSaid'. A law counts once. -/
mutual
def uptoBulk {H : Type} : DataW H → Nat
  | .lit (.string bytes) => bytes.length + 1
  | .lit _ => 1
  | .nil => 1
  | .ptr d => uptoBulk d + 1
  | .slice elems spare => uptoBulkAll elems + uptoBulkAll spare + 1
  | .agg parts => uptoBulkAll parts + 1
  | .iface _ d => uptoBulk d + 1
  | .map entries => uptoBulkEntries entries + 1
  | .held _ => 1
def uptoBulkAll {H : Type} : List (DataW H) → Nat
  | [] => 0
  | d :: r => uptoBulk d + uptoBulkAll r
def uptoBulkEntries {H : Type} : List (Lit × DataW H) → Nat
  | [] => 0
  | x :: r => uptoBulkEntry x + uptoBulkEntries r
def uptoBulkEntry {H : Type} : Lit × DataW H → Nat
  | (.string bytes, d) => bytes.length + uptoBulk d + 1
  | (_, d) => uptoBulk d + 1
 end
def uptoSmall : (H : Type) → List (DataW H) → Bool := fun _ ds => decide (uptoBulkAll ds ≤ 1048576)
def OpenSpec.upto (s : _root_.Go.ChangeSpec) : _root_.Go.OpenSpec := { _root_.Go.OpenSpec.ofChange s with cond := some uptoSmall }

/-- 'scrivlaw.TierBuilds', WHERE WHAT IT READS IS OF BULK AT MOST 1048576: true; the input reads as it did. -/
def tierBuildsUptoRow : OpenClaim := { program := "ytinhidddfpjjkab", sum := "bfa110b079cac4ab224bb53179fbcb52330c282f151d5961212cd48d23970e7d", func := "scrivenry/scrivlaw.TierBuilds", spec := "tierBuilds", inPlace := ["internal/abi.NoEscape", "internal/bytealg.MakeNoZero"], unfollowed := true, recurses := true, apart := false, narrowed := true }
def TierBuildsUptoSaid : Prop := tierBuildsUptoRow.holds Try.pinned (OpenSpec.upto tierBuildsSpec)

/-- 'scrivlaw.TierBetweens', WHERE WHAT IT READS IS OF BULK AT MOST 1048576: true; the input reads as it did. -/
def tierBetweensUptoRow : OpenClaim := { program := "ytinhidddfpjjkab", sum := "bfa110b079cac4ab224bb53179fbcb52330c282f151d5961212cd48d23970e7d", func := "scrivenry/scrivlaw.TierBetweens", spec := "tierBetweens", inPlace := ["internal/abi.NoEscape", "internal/bytealg.MakeNoZero"], unfollowed := true, recurses := true, apart := false, narrowed := true }
def TierBetweensUptoSaid : Prop := tierBetweensUptoRow.holds Try.pinned (OpenSpec.upto tierBetweensSpec)

/-- 'scrivkeep.TierSame', WHERE WHAT IT READS IS OF BULK AT MOST 1048576: true; the input reads as it did. -/
def tierSameUptoRow : OpenClaim := { program := "ytinhidddfpjjkab", sum := "bfa110b079cac4ab224bb53179fbcb52330c282f151d5961212cd48d23970e7d", func := "scrivenry/scrivkeep.TierSame", spec := "tierSame", apart := false, narrowed := true }
def TierSameUptoSaid : Prop := tierSameUptoRow.holds Try.pinned (OpenSpec.upto tierSameSpec)

/-- 'scrivkeep.TierRows', WHERE WHAT IT READS IS OF BULK AT MOST 1048576: true; the input reads as it did. -/
def tierRowsUptoRow : OpenClaim := { program := "ytinhidddfpjjkab", sum := "bfa110b079cac4ab224bb53179fbcb52330c282f151d5961212cd48d23970e7d", func := "scrivenry/scrivkeep.TierRows", spec := "tierRows", inPlace := ["internal/abi.NoEscape"], apart := false, narrowed := true }
def TierRowsUptoSaid : Prop := tierRowsUptoRow.holds Try.pinned (OpenSpec.upto tierRowsSpec)

/-- 'scrivkeep.TierOwn', WHERE WHAT IT READS IS OF BULK AT MOST 1048576: true; the input reads as it did. -/
def tierOwnUptoRow : OpenClaim := { program := "ytinhidddfpjjkab", sum := "bfa110b079cac4ab224bb53179fbcb52330c282f151d5961212cd48d23970e7d", func := "scrivenry/scrivkeep.TierOwn", spec := "tierOwn", unfollowed := true, recurses := true, apart := false, narrowed := true }
def TierOwnUptoSaid : Prop := tierOwnUptoRow.holds Try.pinned (OpenSpec.upto tierOwnSpec)

end Rows
end Go.Proofs.Ytinhidddfpjjkab
