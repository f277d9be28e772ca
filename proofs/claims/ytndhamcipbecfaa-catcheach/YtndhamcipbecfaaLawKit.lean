/- What the laws on two as one and on turned deltas ask, as plain facts; and the small deltas that they name. -/
import Derived.Test.YtndhamcipbecfaaCompOf
import Derived.Test.YtndhamcipbecfaaTurned
import Derived.Test.YtndhamcipbecfaaCompL
namespace Go.Proofs.Ytndhamcipbecfaa
open Go.RowKit
set_option linter.unusedSimpArgs false
set_option linter.unusedVariables false

def cutP (n : Int) : Pt := ⟨3, n, ByteArray.empty⟩
def keepP (n : Int) : Pt := ⟨1, n, ByteArray.empty⟩
def putP (s : ByteArray) : Pt := ⟨2, 0, s⟩
theorem small_bound {l : List Pt} (h : sizesE l = 0) : Bound l := by
  obtain ⟨h1, h2⟩ := sizes_zero h
  have hR := sizes_right h
  refine ⟨by have := h1.1; omega, fun p hp => ?_⟩
  have h3 := h1.2 p hp
  have h4 := (hR p hp).1
  exact ⟨by omega, by omega, by omega, by omega, by omega⟩
/-- a list of parts that is written out -/
theorem lit_at (w : World) (l : List Pt) (hb : Bound l) (cs : Array Value) (hcs : cs = (allCells l).toArray) :
    PartsAt (w.alloc (.cells cs 43)) (w.alloc (.cells cs 43)).heap.size (some ⟨w.heap.size, 0, none⟩) l := by
  subst hcs
  have h := parts_lit w l hb
  rw [show (w.alloc (.cells (allCells l).toArray 43)).heap.size = w.heap.size + 1 from Deep.nblk_alloc _ _]
  exact h
/-- of two lists whose answer is known -/
theorem comp_lit {la lb r : List Pt} (h0 : compE la lb = 0) (hr : compL la lb = r) (a b : Option Addr) (ca cb : Nat) (w : World) (ha : PartsAt w w.heap.size a la) (hb : PartsAt w w.heap.size b lb) (hca : la.length ≤ ca) :
    Calls Try.prog 62 #[.slice a la.length ca, .slice b lb.length cb] w fun e w' => ∃ a' c', e = .returned (.tuple #[.slice a' r.length c', .int .i64 0]) ∧ PartsAt w' w'.heap.size a' r ∧ Room a' r c' ∧ Below w.heap.size w w' := by
  have h := CompOf_any a b la lb ca cb w ha hb hca
  have e : compR la lb = r := by rw [compR, if_pos h0, hr]
  rw [h0, e] at h
  exact h
theorem turn_lit {l r : List Pt} {s : ByteArray} (h0 : fitsE l s.size = 0) (hr : turnL l s.data.toList = r) (a : Option Addr) (ca : Nat) (w : World) (ha : PartsAt w w.heap.size a l) (hs : s.size ≤ 9223372036854775807) :
    Calls Try.prog 26 #[.slice a l.length ca, .string s] w fun e w' => ∃ a' c', e = .returned (.tuple #[.slice a' r.length c', .int .i64 0]) ∧ PartsAt w' w'.heap.size a' r ∧ Room a' r c' ∧ Below w.heap.size w w' := by
  have h := TurnOf_any a l ca s w ha hs
  have e : turnR l s = r := by rw [turnR, if_pos h0, hr]
  rw [h0, e] at h
  exact h

theorem lit1 : compE [putP ⟨#[97, 98]⟩] [cutP 1, keepP 1] = 0 ∧ compL [putP ⟨#[97, 98]⟩] [cutP 1, keepP 1] = [putP ⟨#[98]⟩] := ⟨by decide, rfl⟩
theorem lit1a : sizesE [putP ⟨#[97, 98]⟩] = 0 ∧ sizesE [cutP 1, keepP 1] = 0 ∧ sizesE [putP ⟨#[98]⟩] = 0 := by decide
theorem litJ : compE [putP ⟨#[97]⟩] [keepP 1] = 0 ∧ compL [putP ⟨#[97]⟩] [keepP 1] = [putP ⟨#[97]⟩] := ⟨by decide, rfl⟩
theorem litT : fitsE [cutP 2] 2 = 0 ∧ turnL [cutP 2] [97, 98] = [putP ⟨#[97, 98]⟩] := ⟨by decide, rfl⟩
theorem litQ : fitsE [putP ⟨#[97]⟩] 0 = 0 ∧ turnL [putP ⟨#[97]⟩] [] = [cutP 1] := ⟨by decide, rfl⟩
theorem litB : compE [putP ⟨#[97]⟩] [cutP 1] = 0 ∧ compL [putP ⟨#[97]⟩] [cutP 1] = [] := ⟨by decide, rfl⟩
theorem litC : compE [putP ⟨#[97]⟩] [putP ⟨#[97]⟩] = 4 := by decide
theorem litA : fitsE [keepP 1] 1 = 0 ∧ turnL [keepP 1] [97] = [keepP 1] := ⟨by decide, rfl⟩
theorem litN : compE [] [] = 0 ∧ compL [] [] = [] := ⟨by decide, rfl⟩
theorem litE : compE [cutP 2] [putP ⟨#[97]⟩] = 0 ∧ compL [cutP 2] [putP ⟨#[97]⟩] = [putP ⟨#[97]⟩, cutP 2] := ⟨by decide, rfl⟩

end Go.Proofs.Ytndhamcipbecfaa
