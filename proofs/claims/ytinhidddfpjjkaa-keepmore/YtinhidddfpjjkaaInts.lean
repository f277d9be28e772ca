/- A row of ints of the call's own, with room or without; slices.Equal of two that are one. -/
import Derived.Test.YtinhidddfpjjkaaIntRow
import Derived.Deep.QuietTactic
import Derived.BigQuiet
namespace Go.Proofs.Ytinhidddfpjjkaa
open Go.RowKit
set_option linter.unusedSimpArgs false
set_option linter.unusedVariables false

/-- an answer of Find: the places, in a row of the call's own -/
def Ints (w : World) (B : Nat) (v : Value) (l : List Nat) : Prop := w.ownsRow B 3 1 v l.length (l.map intV)
theorem Ints.mono {w : World} {B B' : Nat} {v : Value} {l : List Nat} (h : Ints w B v l) (hB : B' ≤ B) : Ints w B' v l :=
  ⟨h.1, h.2.imp id fun ⟨g, cap, cur, h1, h2, r⟩ => ⟨g, cap, cur, h1, Nat.le_trans hB h2, r⟩⟩

theorem Ints.below {w w' : World} {B : Nat} {v : Value} {l : List Nat} (h : Ints w B v l) (hb : Below w.heap.size w w') : Ints w' B v l := by
  refine ⟨h.1, ?_⟩
  rcases h.2 with h0 | ⟨g', cap, cur, h1, hB, hc, h2⟩
  · exact .inl h0
  · exact .inr ⟨g', cap, cur, h1, hB, by rw [hb.block _ (lt_of_heap hc)]; exact hc, h2⟩
theorem Ints.cellOf {w : World} {B : Nat} {v : Value} {l : List Nat} (h : Ints w B v l) {i q : Nat} (hi : l[i]? = some q) : ∃ g cap, v = .slice (some ⟨g, 0, none⟩) l.length cap ∧ w.cell? ⟨g, i, none⟩ = some (.int .i64 q) ∧ g < w.heap.size :=
  own_at h (by rw [List.getElem?_map, hi]; rfl)

set_option maxHeartbeats 1000000 in
theorem EqInt_yes (B C : Nat) (u v : Value) (l : List Nat) (w : World) (hu : Ints w B u l) (hv : Ints w C v l) (hl : l.length ≤ 9223372036854775806) :
    Calls Try.prog 14 #[u, v] w fun e w' => e = .returned (.bool true) ∧ Below w.heap.size w w' := by
  obtain ⟨a, ca, rfl⟩ := slice_form hu
  obtain ⟨b, cb, rfl⟩ := slice_form hv
  have HU : Hid (Ints w B (.slice a l.length ca) l) := hu
  have HV : Hid (Ints w C (.slice b l.length cb) l) := hv
  clear hu hv
  go_enter Try.func14, Try.ntmps14
  go_wp2_with fail
  go_loopw [13] (fun i wr => ∃ k : Nat, k ≤ l.length ∧ i = .int .i64 k ∧ Below w.heap.size w wr) (fun i _ => l.length - (intOf i).toNat)
  case atStart => exact ⟨0, Nat.zero_le _, rfl, Below.refl _ _⟩
  case round =>
    rename World => wr
    obtain ⟨k, hk, rfl, hb⟩ := hrel
    have HB : Hid (Below w.heap.size w wr) := hb
    by_cases hlt : k < l.length
    · obtain ⟨q, hq⟩ : ∃ q, l[k]? = some q := ⟨l[k], List.getElem?_eq_getElem hlt⟩
      obtain ⟨g, cg, hg, y1, hgw⟩ := Ints.cellOf (Ints.below HU.out hb) hq
      obtain ⟨h, ch, hh, z1, hhw⟩ := Ints.cellOf (Ints.below HV.out hb) hq
      simp only [Value.slice.injEq, true_and] at hg hh
      obtain ⟨rfl, rfl⟩ := hg
      obtain ⟨rfl, rfl⟩ := hh
      clear hb hq
      go_wp2_with fail
      go_quiet (fail)
      go_wp2_with fail
      go_roundw
      case rel => exact ⟨k + 1, by omega, by go_num, below_drewN HB.out _⟩
      case measure => simp [intOf]; omega
    · clear hb
      go_wp2_with fail
      go_ret
      exact ⟨rfl, HB.out⟩

end Go.Proofs.Ytinhidddfpjjkaa
