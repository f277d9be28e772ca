/- What the laws' beside and put answer. -/
import Derived.Test.YtdkmgcfdhlbpiabGMem
import Derived.Test.YtdkmgcfdhlbpiabLoose
import Derived.Test.YtdkmgcfdhlbpiabConcat
import Derived.Deep.DeepFit
import Derived.Test.YtdkmgcfdhlbpiabPutPt
namespace Go.Proofs.Ytdkmgcfdhlbpiab
open Go.RowKit
set_option linter.unusedSimpArgs false
set_option linter.unusedVariables false

set_option maxHeartbeats 1000000 in
theorem beside_any (a b : Option Addr) (la lb : List Pt) (ca cb : Nat) (w : World) (ha : PartsAt w w.heap.size a la) (hb : PartsAt w w.heap.size b lb)
    (ha0 : a = none → ca = 0) (hb0 : b = none → cb = 0) (hla : la.length * 32 ≤ 140737488351232) (hlb : lb.length * 32 ≤ 140737488351232) :
    Calls Try.prog 8 #[.slice a la.length ca, .slice b lb.length cb] w fun e w' => ∃ a' c', e = .returned (.tuple #[.slice a' (normL (la ++ lb)).length c', .int .i64 (normE (la ++ lb))]) ∧ PartsAt w' w'.heap.size a' (normL (la ++ lb)) ∧ Below w.heap.size w w' := by
  have hb1 : Below w.heap.size w (w.alloc (.cells #[.slice a la.length ca, .slice b lb.length cb] 22)) := (Below.refl _ _).alloc (Nat.le_refl _) _
  have HA1 : Hid (PartsAt (w.alloc (.cells #[.slice a la.length ca, .slice b lb.length cb] 22)) (w.alloc (.cells #[.slice a la.length ca, .slice b lb.length cb] 22)).heap.size a la) := ha.here hb1 (Nat.le_refl _)
  have HB1 : Hid (PartsAt (w.alloc (.cells #[.slice a la.length ca, .slice b lb.length cb] 22)) (w.alloc (.cells #[.slice a la.length ca, .slice b lb.length cb] 22)).heap.size b lb) := hb.here hb1 (Nat.le_refl _)
  have HBD : Hid (Bound (la ++ lb)) := ⟨by rw [List.length_append]; omega, fun p hp => by
    rcases List.mem_append.1 hp with h | h
    · exact ha.2.2.1 p h
    · exact hb.2.2.1 p h⟩
  have HA0 : Hid (a = none → ca = 0) := ha0
  have HB0 : Hid (b = none → cb = 0) := hb0
  have HBE : Hid (Below w.heap.size w (w.alloc (.cells #[.slice a la.length ca, .slice b lb.length cb] 22))) := hb1
  clear hb1 ha hb ha0 hb0
  go_enter Try.func8, Try.ntmps8
  go_wp2_with fail
  refine (Concat_any a b la lb ca cb w.heap.size (w.alloc (.cells #[.slice a la.length ca, .slice b lb.length cb] 22)) (Deep.blk_alloc_new _ _) HA1.out HB1.out HA0.out HB0.out hla hlb).mono ?_
  rintro e w2 ⟨v, rfl, hown, hb2⟩
  obtain ⟨a2, c2, rfl, hp2⟩ := parts_own hown HBD.out
  have HP2 : Hid (PartsAt w2 w2.heap.size a2 (la ++ lb)) := hp2
  have HB2 : Hid (Below w.heap.size w w2) := HBE.out.trans (hb2.mono (by simp))
  clear hown hp2 hb2
  go_wp2_with fail
  rw [← List.length_append]
  refine (Norm_any a2 (la ++ lb) c2 _ HP2.out).mono ?_
  rintro e w3 ⟨a3, c3, rfl, hp3, hb3⟩
  have HP3 : Hid (PartsAt w3 w3.heap.size a3 (normL (la ++ lb))) := hp3
  have HB3 : Hid (Below w.heap.size w w3) := HB2.out.trans (hb3.mono HB2.out.size)
  clear hp3 hb3
  go_wp2_with fail
  go_ret2
  exact ⟨a3, c3, rfl, HP3.out, HB3.out⟩

end Go.Proofs.Ytdkmgcfdhlbpiab
