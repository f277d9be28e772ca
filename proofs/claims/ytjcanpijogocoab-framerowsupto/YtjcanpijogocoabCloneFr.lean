/- What slices.Clone of a list of frames answers. -/
import Derived.Test.YtjcanpijogocoabFrMem
namespace Go.Proofs.Ytjcanpijogocoab
open Go.RowKit
set_option linter.unusedSimpArgs false
set_option linter.unusedVariables false

theorem frs_cells {w : World} {B : Nat} {ad : Addr} {l : List Fr} (h : FrsAt w B (some ad) l) : ∀ j u, (frAll l)[j]? = some u → w.cell? (ad.add j) = some u := by
  intro j u hu
  have hj := (List.getElem?_eq_some_iff.1 hu).1
  rw [frAll_length] at hj
  obtain ⟨f, hf⟩ : ∃ f, l[j / 2]? = some f := ⟨l[j / 2]'(by omega), List.getElem?_eq_getElem _⟩
  obtain ⟨b, off, ha, _, c1, c2⟩ := h.mem hf
  obtain ⟨d1, d2⟩ := frAll_at hf
  obtain rfl := Option.some.inj ha
  rw [Addr.add_lit]
  rcases (by omega : j = j / 2 * 2 ∨ j = j / 2 * 2 + 1) with e | e
  · rw [← e] at c1 d1
    rw [c1, ← hu, d1]
  · rw [Nat.add_assoc, ← e] at c2
    rw [← e] at d2
    rw [c2, ← hu, d2]
theorem none_is (w : World) : (binOp BinOp.eql 33 (Value.slice none 0 0) (Value.slice none 0 0)).run Try.prog w = .ok (.bool true) w := by kernel_rfl
theorem none_not (a : Addr) (n c : Nat) (w : World) : (binOp BinOp.eql 33 (Value.slice (some a) n c) (Value.slice none 0 0)).run Try.prog w = .ok (.bool false) w := by kernel_rfl
set_option maxHeartbeats 1000000 in
theorem CloneFr_any (a : Option Addr) (l : List Fr) (cap : Nat) (w : World) (h : FrsAt w w.heap.size a l) (hc : a = none → cap = 0) (hl : l.length ≤ 1000000000000) :
    Calls Try.prog 10 #[.slice a l.length cap] w fun e w' => ∃ v, e = .returned v ∧ w'.ownsRow w.heap.size 23 2 v l.length (frAll l) ∧ Below w.heap.size w w' := by
  obtain ⟨ip, hip, hp0, hp1, hp2⟩ := info_parts infoFrame
  cases a with
  | none =>
    have hnil : l = [] := by
      cases l with
      | nil => rfl
      | cons f l =>
        obtain ⟨b, off, he, _⟩ := h.2 (by simp)
        cases he
    subst hnil
    have hcz := hc rfl
    subst hcz
    have hq := none_is
    clear hc h
    go_enter Try.func10, Try.ntmps10
    go_wp2_with fail
    go_ret
    exact ⟨.slice none 0 0, rfl, World.ownsRow_nil _ _ _ _, Below.refl _ _⟩
  | some ad =>
    have HB0 : Hid (Below w.heap.size w (w.alloc (.cells #[] 23))) := (Below.refl _ _).alloc (Nat.le_refl _) _
    have hcs := frs_cells (h.here HB0.out (Nat.le_refl _))
    have HO := World.ownsRow_lit (base := w.heap.size) (e := 23) (size := 2) w #[] 0 (Nat.le_refl _) (by decide) rfl
    have hq := fun w => none_not ad l.length cap w
    clear hc h
    go_enter Try.func10, Try.ntmps10
    go_wp2_with (at_builtin; refine wpList_append_own _ rfl _ _ 33 rfl w.heap.size 23 ip _ 2 24 Try.underlying33 hip hp0 hp1 hp2 rfl (by decide) _ _ _ rfl HO ad l.length cap (frAll l) rfl (frAll_length l) hcs (frAll_one l) ?c3 ?c4 ?c5 ?_)
    case c3 => unfold maxLen; omega
    case c4 => omega
    try (case c5 => simp)
    intro v' w2 hown hgrow _
    obtain ⟨bo, cb, rfl⟩ := slice_form' hown
    have HO2 : Hid (w2.ownsRow w.heap.size 23 2 (.slice bo (0 + l.length) cb) l.length (frAll l)) := by
      show w2.ownsRow _ _ _ _ _ _
      simpa using hown
    have HB2 : Hid (Below w.heap.size w w2) := below_own' HB0.out HO hgrow (by simp)
    clear hown hgrow HO hcs
    go_wp2_with fail
    go_ret
    exact ⟨_, rfl, by simpa using HO2.out, HB2.out⟩
end Go.Proofs.Ytjcanpijogocoab
