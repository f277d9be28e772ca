/-
  No cell of these rows narrows 'for every input' (looked for: loops, veiled, ifaces, maps, wideKeys, modest, calm, conditions, laid).
  DERIVED. THE GIVEN ROWS OF THIS SEAT. 6 by the template 'for every input the law returns true; each argument reads behind the call as it read before'; 0 by the template 'total and deterministic' (their statements: YtinhidddfpjjkaaTotals.lean).
  GIVEN WITH THE SEED: the statements are not yours to turn. If you find one false, say at which input.
  Laid BY PROGRAM, IN A SANDBOX (cutbox-rows.mjs): the forced cells as the released guide's own fill.sh prints them over the translation 0c5bf76a4a30213d… (all of the seat's roots in one cut). By AI agents, Wed Nov 11 2026. No macro, syntax, notation, axiom, sorry.
-/
import Derived.Test.YtinhidddfpjjkaaChecked
import GoSem.Claim
import GoSem.ClaimJoined
import GoSem.ClaimMapViews
import Derived.JoinedTies
import Derived.KernelRfl
namespace Go.Proofs.Ytinhidddfpjjkaa
/- THE CELL 'sum', in the pinned program and in every row, IS THE sha256 OF THE DUMP (.gsa) THAT YtinhidddfpjjkaaProg.lean LOADS. Nothing in Lean hashes anything: it is a label: what it is worth is what the hold of that sum in a sandbox is worth. -/
noncomputable def Try.pinned : Pinned := { name := "ytinhidddfpjjkaa", sum := "0c5bf76a4a30213d6a1c356d5c5358d98dc83492129056ddad9946a5cb705d8f", checked := Try.checked }
namespace Rows
def none {H : Type} : Left H := { results := [], args := [] }

/-- 'scrivlaw.KeepSays': WHATEVER THE INPUT: true; the input reads as it did. -/
def keepSaysSpec : ChangeSpec := { name := "keepSays", fn := fun _ => fun
  | [d1, d2] => { results := [.lit (.bool true)], args := [d1, d2] }
  | _ => none }
def keepSaysRow : OpenClaim := { program := "ytinhidddfpjjkaa", sum := "0c5bf76a4a30213d6a1c356d5c5358d98dc83492129056ddad9946a5cb705d8f", func := "scrivenry/scrivlaw.KeepSays", spec := "keepSays", unfollowed := true, recurses := true, apart := false }
def KeepSaysSaid : Prop := keepSaysRow.holds Try.pinned (OpenSpec.ofChange keepSaysSpec)

/-- ITS FALSE NEIGHBOUR: 'it returns false'. Refute it at one input. -/
def keepSaysWrong : ChangeSpec := { name := "keepSays", fn := fun _ => fun
  | [d1, d2] => { results := [.lit (.bool false)], args := [d1, d2] }
  | _ => none }
def KeepSaysWrongFalsely : Prop := keepSaysRow.holds Try.pinned (OpenSpec.ofChange keepSaysWrong)

/-- 'scrivkeep.KeepFalls': WHATEVER THE INPUT: true; the input reads as it did. -/
def keepFallsSpec : ChangeSpec := { name := "keepFalls", fn := fun _ => fun
  | [d1, d2] => { results := [.lit (.bool true)], args := [d1, d2] }
  | _ => none }
def keepFallsRow : OpenClaim := { program := "ytinhidddfpjjkaa", sum := "0c5bf76a4a30213d6a1c356d5c5358d98dc83492129056ddad9946a5cb705d8f", func := "scrivenry/scrivkeep.KeepFalls", spec := "keepFalls", apart := false }
def KeepFallsSaid : Prop := keepFallsRow.holds Try.pinned (OpenSpec.ofChange keepFallsSpec)

/-- ITS FALSE NEIGHBOUR: 'it returns false'. Refute it at one input. -/
def keepFallsWrong : ChangeSpec := { name := "keepFalls", fn := fun _ => fun
  | [d1, d2] => { results := [.lit (.bool false)], args := [d1, d2] }
  | _ => none }
def KeepFallsWrongFalsely : Prop := keepFallsRow.holds Try.pinned (OpenSpec.ofChange keepFallsWrong)

/-- 'scrivkeep.KeepMore': WHATEVER THE INPUT: true; the input reads as it did. -/
def keepMoreSpec : ChangeSpec := { name := "keepMore", fn := fun _ => fun
  | [d1, d2, d3, d4] => { results := [.lit (.bool true)], args := [d1, d2, d3, d4] }
  | _ => none }
def keepMoreRow : OpenClaim := { program := "ytinhidddfpjjkaa", sum := "0c5bf76a4a30213d6a1c356d5c5358d98dc83492129056ddad9946a5cb705d8f", func := "scrivenry/scrivkeep.KeepMore", spec := "keepMore", unfollowed := true, recurses := true, apart := false }
def KeepMoreSaid : Prop := keepMoreRow.holds Try.pinned (OpenSpec.ofChange keepMoreSpec)

/-- ITS FALSE NEIGHBOUR: 'it returns false'. Refute it at one input. -/
def keepMoreWrong : ChangeSpec := { name := "keepMore", fn := fun _ => fun
  | [d1, d2, d3, d4] => { results := [.lit (.bool false)], args := [d1, d2, d3, d4] }
  | _ => none }
def KeepMoreWrongFalsely : Prop := keepMoreRow.holds Try.pinned (OpenSpec.ofChange keepMoreWrong)

/-- 'scrivkeep.KeepEach': WHATEVER THE INPUT: true; the input reads as it did. -/
def keepEachSpec : ChangeSpec := { name := "keepEach", fn := fun _ => fun
  | [d1, d2, d3] => { results := [.lit (.bool true)], args := [d1, d2, d3] }
  | _ => none }
def keepEachRow : OpenClaim := { program := "ytinhidddfpjjkaa", sum := "0c5bf76a4a30213d6a1c356d5c5358d98dc83492129056ddad9946a5cb705d8f", func := "scrivenry/scrivkeep.KeepEach", spec := "keepEach", apart := false }
def KeepEachSaid : Prop := keepEachRow.holds Try.pinned (OpenSpec.ofChange keepEachSpec)

/-- ITS FALSE NEIGHBOUR: 'it returns false'. Refute it at one input. -/
def keepEachWrong : ChangeSpec := { name := "keepEach", fn := fun _ => fun
  | [d1, d2, d3] => { results := [.lit (.bool false)], args := [d1, d2, d3] }
  | _ => none }
def KeepEachWrongFalsely : Prop := keepEachRow.holds Try.pinned (OpenSpec.ofChange keepEachWrong)

/-- 'scrivlaw.TierCovers': WHATEVER THE INPUT: true; the input reads as it did. -/
def tierCoversSpec : ChangeSpec := { name := "tierCovers", fn := fun _ => fun
  | [d1, d2] => { results := [.lit (.bool true)], args := [d1, d2] }
  | _ => none }
def tierCoversRow : OpenClaim := { program := "ytinhidddfpjjkaa", sum := "0c5bf76a4a30213d6a1c356d5c5358d98dc83492129056ddad9946a5cb705d8f", func := "scrivenry/scrivlaw.TierCovers", spec := "tierCovers", recurses := true, apart := false }
def TierCoversSaid : Prop := tierCoversRow.holds Try.pinned (OpenSpec.ofChange tierCoversSpec)

/-- ITS FALSE NEIGHBOUR: 'it returns false'. Refute it at one input. -/
def tierCoversWrong : ChangeSpec := { name := "tierCovers", fn := fun _ => fun
  | [d1, d2] => { results := [.lit (.bool false)], args := [d1, d2] }
  | _ => none }
def TierCoversWrongFalsely : Prop := tierCoversRow.holds Try.pinned (OpenSpec.ofChange tierCoversWrong)

/-- 'scrivkeep.TierTiles': WHATEVER THE INPUT: true; the input reads as it did. -/
def tierTilesSpec : ChangeSpec := { name := "tierTiles", fn := fun _ => fun
  | [d1, d2] => { results := [.lit (.bool true)], args := [d1, d2] }
  | _ => none }
def tierTilesRow : OpenClaim := { program := "ytinhidddfpjjkaa", sum := "0c5bf76a4a30213d6a1c356d5c5358d98dc83492129056ddad9946a5cb705d8f", func := "scrivenry/scrivkeep.TierTiles", spec := "tierTiles", apart := false }
def TierTilesSaid : Prop := tierTilesRow.holds Try.pinned (OpenSpec.ofChange tierTilesSpec)

/-- ITS FALSE NEIGHBOUR: 'it returns false'. Refute it at one input. -/
def tierTilesWrong : ChangeSpec := { name := "tierTiles", fn := fun _ => fun
  | [d1, d2] => { results := [.lit (.bool false)], args := [d1, d2] }
  | _ => none }
def TierTilesWrongFalsely : Prop := tierTilesRow.holds Try.pinned (OpenSpec.ofChange tierTilesWrong)

/- THE SECOND FORM. 'bulk': how many values and letters a reading holds, each counted each time it is reached (what is shared counts as often as it is met; a slice's spare places count too). A statement '..UptoSaid' is the law's where the arguments, and the package variables that the reading takes, are together of bulk at most 1048576: NARROWER than '..Said'. Prove '..Said' where nothing that the law and all that it calls make is longer than what came in: it says more and counts as full. Else prove '..UptoSaid'. A law counts once. -/
mutual
def uptoBulk {H : Type} : DataW H → Nat
  | .lit (.string bytes) => bytes.length + 1
  | .lit _ => 1
  | .nil => 1
  | .ptr d => uptoBulk d + 1
  | .slice elems spare => uptoBulkAll elems + uptoBulkAll spare + 1
  | .agg parts => uptoBulkAll parts + 1
  | .iface _ d => uptoBulk d + 1
  | .map entries => uptoBulkEntries entries + 1
  | .held _ => 1
def uptoBulkAll {H : Type} : List (DataW H) → Nat
  | [] => 0
  | d :: r => uptoBulk d + uptoBulkAll r
def uptoBulkEntries {H : Type} : List (Lit × DataW H) → Nat
  | [] => 0
  | x :: r => uptoBulkEntry x + uptoBulkEntries r
def uptoBulkEntry {H : Type} : Lit × DataW H → Nat
  | (.string bytes, d) => bytes.length + uptoBulk d + 1
  | (_, d) => uptoBulk d + 1
 end
def uptoSmall : (H : Type) → List (DataW H) → Bool := fun _ ds => decide (uptoBulkAll ds ≤ 1048576)
def OpenSpec.upto (s : _root_.Go.ChangeSpec) : _root_.Go.OpenSpec := { _root_.Go.OpenSpec.ofChange s with cond := some uptoSmall }

/-- 'scrivlaw.KeepSays', WHERE WHAT IT READS IS OF BULK AT MOST 1048576: true; the input reads as it did. -/
def keepSaysUptoRow : OpenClaim := { program := "ytinhidddfpjjkaa", sum := "0c5bf76a4a30213d6a1c356d5c5358d98dc83492129056ddad9946a5cb705d8f", func := "scrivenry/scrivlaw.KeepSays", spec := "keepSays", unfollowed := true, recurses := true, apart := false, narrowed := true }
def KeepSaysUptoSaid : Prop := keepSaysUptoRow.holds Try.pinned (OpenSpec.upto keepSaysSpec)

/-- 'scrivkeep.KeepFalls', WHERE WHAT IT READS IS OF BULK AT MOST 1048576: true; the input reads as it did. -/
def keepFallsUptoRow : OpenClaim := { program := "ytinhidddfpjjkaa", sum := "0c5bf76a4a30213d6a1c356d5c5358d98dc83492129056ddad9946a5cb705d8f", func := "scrivenry/scrivkeep.KeepFalls", spec := "keepFalls", apart := false, narrowed := true }
def KeepFallsUptoSaid : Prop := keepFallsUptoRow.holds Try.pinned (OpenSpec.upto keepFallsSpec)

/-- 'scrivkeep.KeepMore', WHERE WHAT IT READS IS OF BULK AT MOST 1048576: true; the input reads as it did. -/
def keepMoreUptoRow : OpenClaim := { program := "ytinhidddfpjjkaa", sum := "0c5bf76a4a30213d6a1c356d5c5358d98dc83492129056ddad9946a5cb705d8f", func := "scrivenry/scrivkeep.KeepMore", spec := "keepMore", unfollowed := true, recurses := true, apart := false, narrowed := true }
def KeepMoreUptoSaid : Prop := keepMoreUptoRow.holds Try.pinned (OpenSpec.upto keepMoreSpec)

/-- 'scrivkeep.KeepEach', WHERE WHAT IT READS IS OF BULK AT MOST 1048576: true; the input reads as it did. -/
def keepEachUptoRow : OpenClaim := { program := "ytinhidddfpjjkaa", sum := "0c5bf76a4a30213d6a1c356d5c5358d98dc83492129056ddad9946a5cb705d8f", func := "scrivenry/scrivkeep.KeepEach", spec := "keepEach", apart := false, narrowed := true }
def KeepEachUptoSaid : Prop := keepEachUptoRow.holds Try.pinned (OpenSpec.upto keepEachSpec)

/-- 'scrivlaw.TierCovers', WHERE WHAT IT READS IS OF BULK AT MOST 1048576: true; the input reads as it did. -/
def tierCoversUptoRow : OpenClaim := { program := "ytinhidddfpjjkaa", sum := "0c5bf76a4a30213d6a1c356d5c5358d98dc83492129056ddad9946a5cb705d8f", func := "scrivenry/scrivlaw.TierCovers", spec := "tierCovers", recurses := true, apart := false, narrowed := true }
def TierCoversUptoSaid : Prop := tierCoversUptoRow.holds Try.pinned (OpenSpec.upto tierCoversSpec)

/-- 'scrivkeep.TierTiles', WHERE WHAT IT READS IS OF BULK AT MOST 1048576: true; the input reads as it did. -/
def tierTilesUptoRow : OpenClaim := { program := "ytinhidddfpjjkaa", sum := "0c5bf76a4a30213d6a1c356d5c5358d98dc83492129056ddad9946a5cb705d8f", func := "scrivenry/scrivkeep.TierTiles", spec := "tierTiles", apart := false, narrowed := true }
def TierTilesUptoSaid : Prop := tierTilesUptoRow.holds Try.pinned (OpenSpec.upto tierTilesSpec)

end Rows
end Go.Proofs.Ytinhidddfpjjkaa
