/-
  No cell of these rows narrows 'for every input' (looked for: loops, veiled, ifaces, maps, wideKeys, modest, calm, conditions, laid).
  DERIVED. THE GIVEN ROWS OF THIS SEAT. 6 by the template 'for every input the law returns true; each argument reads behind the call as it read before'; 0 by the template 'total and deterministic' (their statements: YtgffippimmokiaaTotals.lean).
  GIVEN WITH THE SEED: the statements are not yours to turn. If you find one false, say at which input.
  Laid BY PROGRAM, IN A SANDBOX (cutbox-rows.mjs): the forced cells as the released guide's own fill.sh prints them over the translation 1537f860ba02264e… (all of the seat's roots in one cut). By AI agents, Wed Nov 11 2026. No macro, syntax, notation, axiom, sorry.
-/
import Derived.Test.YtgffippimmokiaaChecked
import GoSem.Claim
import GoSem.ClaimJoined
import GoSem.ClaimMapViews
import Derived.JoinedTies
import Derived.KernelRfl
namespace Go.Proofs.Ytgffippimmokiaa
/- THE CELL 'sum', in the pinned program and in every row, IS THE sha256 OF THE DUMP (.gsa) THAT YtgffippimmokiaaProg.lean LOADS. Nothing in Lean hashes anything: it is a label: what it is worth is what the hold of that sum in a sandbox is worth. -/
noncomputable def Try.pinned : Pinned := { name := "ytgffippimmokiaa", sum := "1537f860ba02264ea3349f65a9b69b0e2bd77222051b94d38b069b50c2c995c6", checked := Try.checked }
namespace Rows
def none {H : Type} : Left H := { results := [], args := [] }

/-- 'scrivlaw.ShopOpens': WHATEVER THE INPUT: true; the input reads as it did. -/
def shopOpensSpec : ChangeSpec := { name := "shopOpens", fn := fun _ => fun
  | [d] => { results := [.lit (.bool true)], args := [d] }
  | _ => none }
def shopOpensRow : OpenClaim := { program := "ytgffippimmokiaa", sum := "1537f860ba02264ea3349f65a9b69b0e2bd77222051b94d38b069b50c2c995c6", func := "scrivenry/scrivlaw.ShopOpens", spec := "shopOpens", inPlace := ["internal/abi.NoEscape"], unfollowed := true, recurses := true, apart := false }
def ShopOpensSaid : Prop := shopOpensRow.holds Try.pinned (OpenSpec.ofChange shopOpensSpec)

/-- ITS FALSE NEIGHBOUR: 'it returns false'. Refute it at one input. -/
def shopOpensWrong : ChangeSpec := { name := "shopOpens", fn := fun _ => fun
  | [d] => { results := [.lit (.bool false)], args := [d] }
  | _ => none }
def ShopOpensWrongFalsely : Prop := shopOpensRow.holds Try.pinned (OpenSpec.ofChange shopOpensWrong)

/-- 'scrivkeep.ShopStays': WHATEVER THE INPUT: true; the input reads as it did. -/
def shopStaysSpec : ChangeSpec := { name := "shopStays", fn := fun _ => fun
  | [d1, d2, d3] => { results := [.lit (.bool true)], args := [d1, d2, d3] }
  | _ => none }
def shopStaysRow : OpenClaim := { program := "ytgffippimmokiaa", sum := "1537f860ba02264ea3349f65a9b69b0e2bd77222051b94d38b069b50c2c995c6", func := "scrivenry/scrivkeep.ShopStays", spec := "shopStays", inPlace := ["internal/abi.NoEscape"], apart := false }
def ShopStaysSaid : Prop := shopStaysRow.holds Try.pinned (OpenSpec.ofChange shopStaysSpec)

/-- ITS FALSE NEIGHBOUR: 'it returns false'. Refute it at one input. -/
def shopStaysWrong : ChangeSpec := { name := "shopStays", fn := fun _ => fun
  | [d1, d2, d3] => { results := [.lit (.bool false)], args := [d1, d2, d3] }
  | _ => none }
def ShopStaysWrongFalsely : Prop := shopStaysRow.holds Try.pinned (OpenSpec.ofChange shopStaysWrong)

/-- 'scrivkeep.ShopSafe': WHATEVER THE INPUT: true; the input reads as it did. -/
def shopSafeSpec : ChangeSpec := { name := "shopSafe", fn := fun _ => fun
  | [d1, d2, d3, d4, d5, d6, d7] => { results := [.lit (.bool true)], args := [d1, d2, d3, d4, d5, d6, d7] }
  | _ => none }
def shopSafeRow : OpenClaim := { program := "ytgffippimmokiaa", sum := "1537f860ba02264ea3349f65a9b69b0e2bd77222051b94d38b069b50c2c995c6", func := "scrivenry/scrivkeep.ShopSafe", spec := "shopSafe", inPlace := ["internal/abi.NoEscape"], apart := false }
def ShopSafeSaid : Prop := shopSafeRow.holds Try.pinned (OpenSpec.ofChange shopSafeSpec)

/-- ITS FALSE NEIGHBOUR: 'it returns false'. Refute it at one input. -/
def shopSafeWrong : ChangeSpec := { name := "shopSafe", fn := fun _ => fun
  | [d1, d2, d3, d4, d5, d6, d7] => { results := [.lit (.bool false)], args := [d1, d2, d3, d4, d5, d6, d7] }
  | _ => none }
def ShopSafeWrongFalsely : Prop := shopSafeRow.holds Try.pinned (OpenSpec.ofChange shopSafeWrong)

/-- 'scrivkeep.ShopFrames': WHATEVER THE INPUT: true; the input reads as it did. -/
def shopFramesSpec : ChangeSpec := { name := "shopFrames", fn := fun _ => fun
  | [d1, d2, d3] => { results := [.lit (.bool true)], args := [d1, d2, d3] }
  | _ => none }
def shopFramesRow : OpenClaim := { program := "ytgffippimmokiaa", sum := "1537f860ba02264ea3349f65a9b69b0e2bd77222051b94d38b069b50c2c995c6", func := "scrivenry/scrivkeep.ShopFrames", spec := "shopFrames", inPlace := ["internal/abi.NoEscape"], apart := false }
def ShopFramesSaid : Prop := shopFramesRow.holds Try.pinned (OpenSpec.ofChange shopFramesSpec)

/-- ITS FALSE NEIGHBOUR: 'it returns false'. Refute it at one input. -/
def shopFramesWrong : ChangeSpec := { name := "shopFrames", fn := fun _ => fun
  | [d1, d2, d3] => { results := [.lit (.bool false)], args := [d1, d2, d3] }
  | _ => none }
def ShopFramesWrongFalsely : Prop := shopFramesRow.holds Try.pinned (OpenSpec.ofChange shopFramesWrong)

/-- 'scrivkeep.ShopEnds': WHATEVER THE INPUT: true; the input reads as it did. -/
def shopEndsSpec : ChangeSpec := { name := "shopEnds", fn := fun _ => fun
  | [d1, d2] => { results := [.lit (.bool true)], args := [d1, d2] }
  | _ => none }
def shopEndsRow : OpenClaim := { program := "ytgffippimmokiaa", sum := "1537f860ba02264ea3349f65a9b69b0e2bd77222051b94d38b069b50c2c995c6", func := "scrivenry/scrivkeep.ShopEnds", spec := "shopEnds", inPlace := ["internal/abi.NoEscape"], apart := false }
def ShopEndsSaid : Prop := shopEndsRow.holds Try.pinned (OpenSpec.ofChange shopEndsSpec)

/-- ITS FALSE NEIGHBOUR: 'it returns false'. Refute it at one input. -/
def shopEndsWrong : ChangeSpec := { name := "shopEnds", fn := fun _ => fun
  | [d1, d2] => { results := [.lit (.bool false)], args := [d1, d2] }
  | _ => none }
def ShopEndsWrongFalsely : Prop := shopEndsRow.holds Try.pinned (OpenSpec.ofChange shopEndsWrong)

/-- 'scrivtop.TopTiers': WHATEVER THE INPUT: true; the input reads as it did. -/
def topTiersSpec : ChangeSpec := { name := "topTiers", fn := fun _ => fun
  | [d1, d2] => { results := [.lit (.bool true)], args := [d1, d2] }
  | _ => none }
def topTiersRow : OpenClaim := { program := "ytgffippimmokiaa", sum := "1537f860ba02264ea3349f65a9b69b0e2bd77222051b94d38b069b50c2c995c6", func := "scrivenry/scrivtop.TopTiers", spec := "topTiers", inPlace := ["internal/abi.NoEscape"], apart := false }
def TopTiersSaid : Prop := topTiersRow.holds Try.pinned (OpenSpec.ofChange topTiersSpec)

/-- ITS FALSE NEIGHBOUR: 'it returns false'. Refute it at one input. -/
def topTiersWrong : ChangeSpec := { name := "topTiers", fn := fun _ => fun
  | [d1, d2] => { results := [.lit (.bool false)], args := [d1, d2] }
  | _ => none }
def TopTiersWrongFalsely : Prop := topTiersRow.holds Try.pinned (OpenSpec.ofChange topTiersWrong)

/- THE SECOND FORM. 'bulk': how many values and letters a reading holds, each counted each time it is reached (what is shared counts as often as it is met; a slice's spare places count too). A statement '..UptoSaid' is the law's where the arguments, and the package variables that the reading takes, are together of bulk at most 1048576: NARROWER than '..Said'. Prove '..Said' where nothing that the law and all that it calls make is longer than what came in: it says more and counts as full. Else prove '..UptoSaid'. A law counts once. -/
mutual
def uptoBulk {H : Type} : DataW H → Nat
  | .lit (.string bytes) => bytes.length + 1
  | .lit _ => 1
  | .nil => 1
  | .ptr d => uptoBulk d + 1
  | .slice elems spare => uptoBulkAll elems + uptoBulkAll spare + 1
  | .agg parts => uptoBulkAll parts + 1
  | .iface _ d => uptoBulk d + 1
  | .map entries => uptoBulkEntries entries + 1
  | .held _ => 1
def uptoBulkAll {H : Type} : List (DataW H) → Nat
  | [] => 0
  | d :: r => uptoBulk d + uptoBulkAll r
def uptoBulkEntries {H : Type} : List (Lit × DataW H) → Nat
  | [] => 0
  | x :: r => uptoBulkEntry x + uptoBulkEntries r
def uptoBulkEntry {H : Type} : Lit × DataW H → Nat
  | (.string bytes, d) => bytes.length + uptoBulk d + 1
  | (_, d) => uptoBulk d + 1
 end
def uptoSmall : (H : Type) → List (DataW H) → Bool := fun _ ds => decide (uptoBulkAll ds ≤ 1048576)
def OpenSpec.upto (s : _root_.Go.ChangeSpec) : _root_.Go.OpenSpec := { _root_.Go.OpenSpec.ofChange s with cond := some uptoSmall }

/-- 'scrivlaw.ShopOpens', WHERE WHAT IT READS IS OF BULK AT MOST 1048576: true; the input reads as it did. -/
def shopOpensUptoRow : OpenClaim := { program := "ytgffippimmokiaa", sum := "1537f860ba02264ea3349f65a9b69b0e2bd77222051b94d38b069b50c2c995c6", func := "scrivenry/scrivlaw.ShopOpens", spec := "shopOpens", inPlace := ["internal/abi.NoEscape"], unfollowed := true, recurses := true, apart := false, narrowed := true }
def ShopOpensUptoSaid : Prop := shopOpensUptoRow.holds Try.pinned (OpenSpec.upto shopOpensSpec)

/-- 'scrivkeep.ShopStays', WHERE WHAT IT READS IS OF BULK AT MOST 1048576: true; the input reads as it did. -/
def shopStaysUptoRow : OpenClaim := { program := "ytgffippimmokiaa", sum := "1537f860ba02264ea3349f65a9b69b0e2bd77222051b94d38b069b50c2c995c6", func := "scrivenry/scrivkeep.ShopStays", spec := "shopStays", inPlace := ["internal/abi.NoEscape"], apart := false, narrowed := true }
def ShopStaysUptoSaid : Prop := shopStaysUptoRow.holds Try.pinned (OpenSpec.upto shopStaysSpec)

/-- 'scrivkeep.ShopSafe', WHERE WHAT IT READS IS OF BULK AT MOST 1048576: true; the input reads as it did. -/
def shopSafeUptoRow : OpenClaim := { program := "ytgffippimmokiaa", sum := "1537f860ba02264ea3349f65a9b69b0e2bd77222051b94d38b069b50c2c995c6", func := "scrivenry/scrivkeep.ShopSafe", spec := "shopSafe", inPlace := ["internal/abi.NoEscape"], apart := false, narrowed := true }
def ShopSafeUptoSaid : Prop := shopSafeUptoRow.holds Try.pinned (OpenSpec.upto shopSafeSpec)

/-- 'scrivkeep.ShopFrames', WHERE WHAT IT READS IS OF BULK AT MOST 1048576: true; the input reads as it did. -/
def shopFramesUptoRow : OpenClaim := { program := "ytgffippimmokiaa", sum := "1537f860ba02264ea3349f65a9b69b0e2bd77222051b94d38b069b50c2c995c6", func := "scrivenry/scrivkeep.ShopFrames", spec := "shopFrames", inPlace := ["internal/abi.NoEscape"], apart := false, narrowed := true }
def ShopFramesUptoSaid : Prop := shopFramesUptoRow.holds Try.pinned (OpenSpec.upto shopFramesSpec)

/-- 'scrivkeep.ShopEnds', WHERE WHAT IT READS IS OF BULK AT MOST 1048576: true; the input reads as it did. -/
def shopEndsUptoRow : OpenClaim := { program := "ytgffippimmokiaa", sum := "1537f860ba02264ea3349f65a9b69b0e2bd77222051b94d38b069b50c2c995c6", func := "scrivenry/scrivkeep.ShopEnds", spec := "shopEnds", inPlace := ["internal/abi.NoEscape"], apart := false, narrowed := true }
def ShopEndsUptoSaid : Prop := shopEndsUptoRow.holds Try.pinned (OpenSpec.upto shopEndsSpec)

/-- 'scrivtop.TopTiers', WHERE WHAT IT READS IS OF BULK AT MOST 1048576: true; the input reads as it did. -/
def topTiersUptoRow : OpenClaim := { program := "ytgffippimmokiaa", sum := "1537f860ba02264ea3349f65a9b69b0e2bd77222051b94d38b069b50c2c995c6", func := "scrivenry/scrivtop.TopTiers", spec := "topTiers", inPlace := ["internal/abi.NoEscape"], apart := false, narrowed := true }
def TopTiersUptoSaid : Prop := topTiersUptoRow.holds Try.pinned (OpenSpec.upto topTiersSpec)

end Rows
end Go.Proofs.Ytgffippimmokiaa
