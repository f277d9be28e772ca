/- DiskSays answers true. -/
import Derived.Test.YtkihanmodfnpcaaDiskSays0
import Derived.Test.YtkihanmodfnpcaaDiskSays1
import Derived.Test.YtkihanmodfnpcaaDiskSaysE
namespace Go.Proofs.Ytkihanmodfnpcaa
open Go.RowKit

theorem DiskSays_any (a : ByteArray) (x : Int) (b : ByteArray) (y i : Int) (s : ByteArray) (n : Int) (w : World) (ha : a.size ≤ 9223372036854775807) (hb : b.size ≤ 9223372036854775807) (hs : s.size ≤ 140737488355328) :
    Calls Try.prog 3 #[dkV a x b y, .int .i64 i, .string s, .int .i64 n] w fun e w' => e = .returned (.bool true) ∧ Below w.heap.size w w' := by
  by_cases h : dksE a x b y i = 0
  · rcases (dks_zero h).2 with rfl | rfl
    · exact DiskSays_slot0 a x b y s n w ha hb hs h
    · exact DiskSays_slot1 a x b y s n w ha hb hs h
  · exact DiskSays_err a x b y i s n w ha hb hs h
end Go.Proofs.Ytkihanmodfnpcaa
