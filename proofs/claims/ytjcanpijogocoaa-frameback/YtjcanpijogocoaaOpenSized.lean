/- A list of parts that came in: nil has no room; and how many there may be. -/
import Derived.Test.YtjcanpijogocoaaOpen
import Derived.SizedLaws
namespace Go.Proofs.Ytjcanpijogocoaa
open Go.ChangeShapes Go.WideShapes Go.ChangeAt Go.RowKit
set_option linter.unusedSimpArgs false
set_option linter.unusedVariables false

theorem sized_str {H : Type} {ts : List TypeId} {ds : List (DataW H)} (hsz : (DataW.weightsEach Try.prog ts ds).all (· ≤ reachBytes) = true) {j : Nat} {t : TypeId} (ht : ts[j]? = some t) {s : ByteArray} (hd : ds[j]? = some (.lit (.string s.data.toList))) : s.size ≤ 140737488355328 := by
  have h1 := sized_string hsz ht hd
  have h2 : s.data.toList.length = s.size := Array.length_toList
  unfold reachBytes at h1
  omega

end Go.Proofs.Ytjcanpijogocoaa
