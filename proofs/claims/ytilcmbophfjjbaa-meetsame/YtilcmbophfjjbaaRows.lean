/-
  No cell of these rows narrows 'for every input' (looked for: loops, veiled, ifaces, maps, wideKeys, modest, calm, conditions, laid).
  DERIVED. THE GIVEN ROWS OF THIS SEAT. 6 by the template 'for every input the law returns true; each argument reads behind the call as it read before'; 0 by the template 'total and deterministic' (their statements: YtilcmbophfjjbaaTotals.lean).
  GIVEN WITH THE SEED: the statements are not yours to turn. If you find one false, say at which input.
  Laid BY PROGRAM, IN A SANDBOX (cutbox-rows.mjs): the forced cells as the released guide's own fill.sh prints them over the translation b1651791de7f399f… (all of the seat's roots in one cut). By AI agents, Wed Nov 11 2026. No macro, syntax, notation, axiom, sorry.
-/
import Derived.Test.YtilcmbophfjjbaaChecked
import GoSem.Claim
import GoSem.ClaimJoined
import GoSem.ClaimMapViews
import Derived.JoinedTies
import Derived.KernelRfl
namespace Go.Proofs.Ytilcmbophfjjbaa
/- THE CELL 'sum', in the pinned program and in every row, IS THE sha256 OF THE DUMP (.gsa) THAT YtilcmbophfjjbaaProg.lean LOADS. Nothing in Lean hashes anything: it is a label: what it is worth is what the hold of that sum in a sandbox is worth. -/
noncomputable def Try.pinned : Pinned := { name := "ytilcmbophfjjbaa", sum := "b1651791de7f399fe0b8301f145ea198f874d43e66a9e7090e504894fc3a9eb7", checked := Try.checked }
namespace Rows
def none {H : Type} : Left H := { results := [], args := [] }

/-- 'scrivlaw.MeetSays': WHATEVER THE INPUT: true; the input reads as it did. -/
def meetSaysSpec : ChangeSpec := { name := "meetSays", fn := fun _ => fun
  | [d1, d2] => { results := [.lit (.bool true)], args := [d1, d2] }
  | _ => none }
def meetSaysRow : OpenClaim := { program := "ytilcmbophfjjbaa", sum := "b1651791de7f399fe0b8301f145ea198f874d43e66a9e7090e504894fc3a9eb7", func := "scrivenry/scrivlaw.MeetSays", spec := "meetSays", unfollowed := true, recurses := true, apart := false }
def MeetSaysSaid : Prop := meetSaysRow.holds Try.pinned (OpenSpec.ofChange meetSaysSpec)

/-- ITS FALSE NEIGHBOUR: 'it returns false'. Refute it at one input. -/
def meetSaysWrong : ChangeSpec := { name := "meetSays", fn := fun _ => fun
  | [d1, d2] => { results := [.lit (.bool false)], args := [d1, d2] }
  | _ => none }
def MeetSaysWrongFalsely : Prop := meetSaysRow.holds Try.pinned (OpenSpec.ofChange meetSaysWrong)

/-- 'scrivlaw.SpotSays': WHATEVER THE INPUT: true; the input reads as it did. -/
def spotSaysSpec : ChangeSpec := { name := "spotSays", fn := fun _ => fun
  | [d1, d2, d3] => { results := [.lit (.bool true)], args := [d1, d2, d3] }
  | _ => none }
def spotSaysRow : OpenClaim := { program := "ytilcmbophfjjbaa", sum := "b1651791de7f399fe0b8301f145ea198f874d43e66a9e7090e504894fc3a9eb7", func := "scrivenry/scrivlaw.SpotSays", spec := "spotSays", apart := false }
def SpotSaysSaid : Prop := spotSaysRow.holds Try.pinned (OpenSpec.ofChange spotSaysSpec)

/-- ITS FALSE NEIGHBOUR: 'it returns false'. Refute it at one input. -/
def spotSaysWrong : ChangeSpec := { name := "spotSays", fn := fun _ => fun
  | [d1, d2, d3] => { results := [.lit (.bool false)], args := [d1, d2, d3] }
  | _ => none }
def SpotSaysWrongFalsely : Prop := spotSaysRow.holds Try.pinned (OpenSpec.ofChange spotSaysWrong)

/-- 'scrivkeep.MeetSame': WHATEVER THE INPUT: true; the input reads as it did. -/
def meetSameSpec : ChangeSpec := { name := "meetSame", fn := fun _ => fun
  | [d1, d2, d3] => { results := [.lit (.bool true)], args := [d1, d2, d3] }
  | _ => none }
def meetSameRow : OpenClaim := { program := "ytilcmbophfjjbaa", sum := "b1651791de7f399fe0b8301f145ea198f874d43e66a9e7090e504894fc3a9eb7", func := "scrivenry/scrivkeep.MeetSame", spec := "meetSame", inPlace := ["internal/abi.NoEscape"], apart := false }
def MeetSameSaid : Prop := meetSameRow.holds Try.pinned (OpenSpec.ofChange meetSameSpec)

/-- ITS FALSE NEIGHBOUR: 'it returns false'. Refute it at one input. -/
def meetSameWrong : ChangeSpec := { name := "meetSame", fn := fun _ => fun
  | [d1, d2, d3] => { results := [.lit (.bool false)], args := [d1, d2, d3] }
  | _ => none }
def MeetSameWrongFalsely : Prop := meetSameRow.holds Try.pinned (OpenSpec.ofChange meetSameWrong)

/-- 'scrivkeep.MeetIdle': WHATEVER THE INPUT: true; the input reads as it did. -/
def meetIdleSpec : ChangeSpec := { name := "meetIdle", fn := fun _ => fun
  | [d] => { results := [.lit (.bool true)], args := [d] }
  | _ => none }
def meetIdleRow : OpenClaim := { program := "ytilcmbophfjjbaa", sum := "b1651791de7f399fe0b8301f145ea198f874d43e66a9e7090e504894fc3a9eb7", func := "scrivenry/scrivkeep.MeetIdle", spec := "meetIdle", apart := false }
def MeetIdleSaid : Prop := meetIdleRow.holds Try.pinned (OpenSpec.ofChange meetIdleSpec)

/-- ITS FALSE NEIGHBOUR: 'it returns false'. Refute it at one input. -/
def meetIdleWrong : ChangeSpec := { name := "meetIdle", fn := fun _ => fun
  | [d] => { results := [.lit (.bool false)], args := [d] }
  | _ => none }
def MeetIdleWrongFalsely : Prop := meetIdleRow.holds Try.pinned (OpenSpec.ofChange meetIdleWrong)

/-- 'scrivkeep.MeetJoins': WHATEVER THE INPUT: true; the input reads as it did. -/
def meetJoinsSpec : ChangeSpec := { name := "meetJoins", fn := fun _ => fun
  | [d1, d2, d3] => { results := [.lit (.bool true)], args := [d1, d2, d3] }
  | _ => none }
def meetJoinsRow : OpenClaim := { program := "ytilcmbophfjjbaa", sum := "b1651791de7f399fe0b8301f145ea198f874d43e66a9e7090e504894fc3a9eb7", func := "scrivenry/scrivkeep.MeetJoins", spec := "meetJoins", unfollowed := true, recurses := true, apart := false }
def MeetJoinsSaid : Prop := meetJoinsRow.holds Try.pinned (OpenSpec.ofChange meetJoinsSpec)

/-- ITS FALSE NEIGHBOUR: 'it returns false'. Refute it at one input. -/
def meetJoinsWrong : ChangeSpec := { name := "meetJoins", fn := fun _ => fun
  | [d1, d2, d3] => { results := [.lit (.bool false)], args := [d1, d2, d3] }
  | _ => none }
def MeetJoinsWrongFalsely : Prop := meetJoinsRow.holds Try.pinned (OpenSpec.ofChange meetJoinsWrong)

/-- 'scrivkeep.SpotOrders': WHATEVER THE INPUT: true; the input reads as it did. -/
def spotOrdersSpec : ChangeSpec := { name := "spotOrders", fn := fun _ => fun
  | [d1, d2, d3] => { results := [.lit (.bool true)], args := [d1, d2, d3] }
  | _ => none }
def spotOrdersRow : OpenClaim := { program := "ytilcmbophfjjbaa", sum := "b1651791de7f399fe0b8301f145ea198f874d43e66a9e7090e504894fc3a9eb7", func := "scrivenry/scrivkeep.SpotOrders", spec := "spotOrders", apart := false }
def SpotOrdersSaid : Prop := spotOrdersRow.holds Try.pinned (OpenSpec.ofChange spotOrdersSpec)

/-- ITS FALSE NEIGHBOUR: 'it returns false'. Refute it at one input. -/
def spotOrdersWrong : ChangeSpec := { name := "spotOrders", fn := fun _ => fun
  | [d1, d2, d3] => { results := [.lit (.bool false)], args := [d1, d2, d3] }
  | _ => none }
def SpotOrdersWrongFalsely : Prop := spotOrdersRow.holds Try.pinned (OpenSpec.ofChange spotOrdersWrong)

/- THE SECOND FORM. 'bulk': how many values and letters a reading holds, each counted each time it is reached (what is shared counts as often as it is met; a slice's spare places count too). A statement '..UptoSaid' is the law's where the arguments, and the package variables that the reading takes, are together of bulk at most 1048576: NARROWER than '..Said'. Prove '..Said' where nothing that the law and all that it calls make is longer than what came in: it says more and counts as full. Else prove '..UptoSaid'. A law counts once. -/
mutual
def uptoBulk {H : Type} : DataW H → Nat
  | .lit (.string bytes) => bytes.length + 1
  | .lit _ => 1
  | .nil => 1
  | .ptr d => uptoBulk d + 1
  | .slice elems spare => uptoBulkAll elems + uptoBulkAll spare + 1
  | .agg parts => uptoBulkAll parts + 1
  | .iface _ d => uptoBulk d + 1
  | .map entries => uptoBulkEntries entries + 1
  | .held _ => 1
def uptoBulkAll {H : Type} : List (DataW H) → Nat
  | [] => 0
  | d :: r => uptoBulk d + uptoBulkAll r
def uptoBulkEntries {H : Type} : List (Lit × DataW H) → Nat
  | [] => 0
  | x :: r => uptoBulkEntry x + uptoBulkEntries r
def uptoBulkEntry {H : Type} : Lit × DataW H → Nat
  | (.string bytes, d) => bytes.length + uptoBulk d + 1
  | (_, d) => uptoBulk d + 1
 end
def uptoSmall : (H : Type) → List (DataW H) → Bool := fun _ ds => decide (uptoBulkAll ds ≤ 1048576)
def OpenSpec.upto (s : _root_.Go.ChangeSpec) : _root_.Go.OpenSpec := { _root_.Go.OpenSpec.ofChange s with cond := some uptoSmall }

/-- 'scrivlaw.MeetSays', WHERE WHAT IT READS IS OF BULK AT MOST 1048576: true; the input reads as it did. -/
def meetSaysUptoRow : OpenClaim := { program := "ytilcmbophfjjbaa", sum := "b1651791de7f399fe0b8301f145ea198f874d43e66a9e7090e504894fc3a9eb7", func := "scrivenry/scrivlaw.MeetSays", spec := "meetSays", unfollowed := true, recurses := true, apart := false, narrowed := true }
def MeetSaysUptoSaid : Prop := meetSaysUptoRow.holds Try.pinned (OpenSpec.upto meetSaysSpec)

/-- 'scrivlaw.SpotSays', WHERE WHAT IT READS IS OF BULK AT MOST 1048576: true; the input reads as it did. -/
def spotSaysUptoRow : OpenClaim := { program := "ytilcmbophfjjbaa", sum := "b1651791de7f399fe0b8301f145ea198f874d43e66a9e7090e504894fc3a9eb7", func := "scrivenry/scrivlaw.SpotSays", spec := "spotSays", apart := false, narrowed := true }
def SpotSaysUptoSaid : Prop := spotSaysUptoRow.holds Try.pinned (OpenSpec.upto spotSaysSpec)

/-- 'scrivkeep.MeetSame', WHERE WHAT IT READS IS OF BULK AT MOST 1048576: true; the input reads as it did. -/
def meetSameUptoRow : OpenClaim := { program := "ytilcmbophfjjbaa", sum := "b1651791de7f399fe0b8301f145ea198f874d43e66a9e7090e504894fc3a9eb7", func := "scrivenry/scrivkeep.MeetSame", spec := "meetSame", inPlace := ["internal/abi.NoEscape"], apart := false, narrowed := true }
def MeetSameUptoSaid : Prop := meetSameUptoRow.holds Try.pinned (OpenSpec.upto meetSameSpec)

/-- 'scrivkeep.MeetIdle', WHERE WHAT IT READS IS OF BULK AT MOST 1048576: true; the input reads as it did. -/
def meetIdleUptoRow : OpenClaim := { program := "ytilcmbophfjjbaa", sum := "b1651791de7f399fe0b8301f145ea198f874d43e66a9e7090e504894fc3a9eb7", func := "scrivenry/scrivkeep.MeetIdle", spec := "meetIdle", apart := false, narrowed := true }
def MeetIdleUptoSaid : Prop := meetIdleUptoRow.holds Try.pinned (OpenSpec.upto meetIdleSpec)

/-- 'scrivkeep.MeetJoins', WHERE WHAT IT READS IS OF BULK AT MOST 1048576: true; the input reads as it did. -/
def meetJoinsUptoRow : OpenClaim := { program := "ytilcmbophfjjbaa", sum := "b1651791de7f399fe0b8301f145ea198f874d43e66a9e7090e504894fc3a9eb7", func := "scrivenry/scrivkeep.MeetJoins", spec := "meetJoins", unfollowed := true, recurses := true, apart := false, narrowed := true }
def MeetJoinsUptoSaid : Prop := meetJoinsUptoRow.holds Try.pinned (OpenSpec.upto meetJoinsSpec)

/-- 'scrivkeep.SpotOrders', WHERE WHAT IT READS IS OF BULK AT MOST 1048576: true; the input reads as it did. -/
def spotOrdersUptoRow : OpenClaim := { program := "ytilcmbophfjjbaa", sum := "b1651791de7f399fe0b8301f145ea198f874d43e66a9e7090e504894fc3a9eb7", func := "scrivenry/scrivkeep.SpotOrders", spec := "spotOrders", apart := false, narrowed := true }
def SpotOrdersUptoSaid : Prop := spotOrdersUptoRow.holds Try.pinned (OpenSpec.upto spotOrdersSpec)

end Rows
end Go.Proofs.Ytilcmbophfjjbaa
