/- A history that is copied, and one revision more behind it. -/
import Derived.Test.YtcghojnmnmmpoaaHotMem
import Derived.Test.YtcghojnmnmmpoaaCaps
import Derived.Test.YtcghojnmnmmpoaaPtOwn
namespace Go.Proofs.Ytcghojnmnmmpoaa
open Go.RowKit
set_option linter.unusedSimpArgs false
set_option linter.unusedVariables false

theorem rnone_is (c : Nat) (w : World) : (binOp BinOp.eql 22 (Value.slice none 0 c) (Value.slice none 0 0)).run Try.prog w = .ok (.bool true) w := by kernel_rfl
theorem rnone_not (a : Addr) (n c : Nat) (w : World) : (binOp BinOp.eql 22 (Value.slice (some a) n c) (Value.slice none 0 0)).run Try.prog w = .ok (.bool false) w := by kernel_rfl
set_option maxHeartbeats 1000000 in
theorem CloneRv_any (a : Option Addr) (l : List Rv) (cap : Nat) (w : World) (h : RevsAt w w.heap.size a l) (hl : l.length ≤ 64) :
    Calls Try.prog 32 #[.slice a l.length cap] w fun e w' => ∃ v xs, e = .returned v ∧ xs.map (·.1) = l ∧ RvsOk w' w.heap.size xs ∧ w'.ownsRow w.heap.size 27 3 v xs.length (rvAll xs) ∧ Below w.heap.size w w' := by
  obtain ⟨ip, hip, hp0, hp1, hp2⟩ := info_parts infoRev
  cases a with
  | none =>
    have hnil : l = [] := by
      cases l with
      | nil => rfl
      | cons f l =>
        obtain ⟨b, off, he, _⟩ := h.2.2.2 (by simp)
        cases he
    subst hnil
    have hq := fun w => rnone_is cap w
    clear h
    go_enter Try.func32, Try.ntmps32
    go_wp2_with fail
    go_ret
    exact ⟨.slice none 0 0, [], rfl, rfl, fun x hx => by simp at hx, World.ownsRow_nil _ _ _ _, Below.refl _ _⟩
  | some ad =>
    have HB0 : Hid (Below w.heap.size w (w.alloc (.cells #[] 27))) := (Below.refl _ _).alloc (Nat.le_refl _) _
    obtain ⟨xs, hxs, hok, hcs0⟩ := revs_list (h.below HB0.out (Nat.le_refl _))
    have hcs := hcs0 ad rfl
    have hlx : l.length = xs.length := by rw [← hxs, List.length_map]
    have HXS : Hid (xs.map (·.1) = l) := hxs
    have HOK : Hid (RvsOk (w.alloc (.cells #[] 27)) w.heap.size xs) := hok
    have HO := World.ownsRow_lit (base := w.heap.size) (e := 27) (size := 3) w #[] 0 (Nat.le_refl _) (by decide) rfl
    rw [hlx] at hl ⊢
    have hq := fun w => rnone_not ad xs.length cap w
    clear h hxs hok hcs0 hlx
    go_enter Try.func32, Try.ntmps32
    go_wp2_with (at_builtin; refine wpList_append_own _ rfl _ _ 22 rfl w.heap.size 27 ip _ 3 40 Try.underlying22 hip hp0 hp1 hp2 rfl (by decide) _ _ _ rfl HO ad xs.length cap (rvAll xs) rfl (rvAll_length xs) hcs (rvAll_one xs) ?c3 ?c4 ?c5 ?_)
    case c3 => unfold maxLen; omega
    case c4 => omega
    try (case c5 => simp)
    intro v' w2 hown hgrow _
    obtain ⟨bo, cb, rfl⟩ := slice_form' hown
    have HO2 : Hid (w2.ownsRow w.heap.size 27 3 (.slice bo (0 + xs.length) cb) xs.length (rvAll xs)) := by
      show w2.ownsRow _ _ _ _ _ _
      simpa using hown
    have HB2 : Hid (Below w.heap.size w w2) := below_own' HB0.out HO hgrow (by simp)
    have HB3 : Hid (RvsOk w2 w.heap.size xs) := by
      have hb : Below w.heap.size (w.alloc (.cells #[] 27)) w2 := below_own' (Below.refl _ _) HO hgrow (by simp)
      exact HOK.out.below hb (Nat.le_refl _)
    clear hown hgrow HO hcs
    go_wp2_with fail
    go_ret
    exact ⟨_, xs, rfl, HXS.out, HB3.out, by simpa using HO2.out, HB2.out⟩

/-- the delta that keeps all, and where it lies -/
def Above (B : Nat) (a : Option Addr) : Prop := ∀ b off, a = some ⟨b, off, none⟩ → B ≤ b
theorem PartsAt.apart {w w' : World} {B : Nat} {a : Option Addr} {l : List Pt} {o : Option Nat} (h : PartsAt w w.heap.size a l) (hg : w.grownBy w' o) (ha : Above B a) (ho : ∀ g, o = some g → g < B) : PartsAt w' w'.heap.size a l := by
  obtain ⟨h1, h2, h3, h4⟩ := h
  refine ⟨h1, Nat.le_refl _, h3, fun hn => ?_⟩
  obtain ⟨b, off, e, hlt, hc⟩ := h4 hn
  have hb : w'.heap[b]? = w.heap[b]? := hg.block b hlt (fun e2 => by have h5 := ho b e2.symm; have h6 := ha b off e; omega)
  have hlt' : b < w'.heap.size := by
    obtain ⟨x, hx⟩ : ∃ x, w.heap[b]? = some x := ⟨w.heap[b], Array.getElem?_eq_getElem hlt⟩
    exact lt_of_heap (hb.trans hx)
  refine ⟨b, off, e, hlt', fun i p hi => ?_⟩
  obtain ⟨k1, k2, k3⟩ := hc i p hi
  exact ⟨(World.cell?_of_block (a := ⟨b, _, none⟩) hb).trans k1, (World.cell?_of_block (a := ⟨b, _, none⟩) hb).trans k2, (World.cell?_of_block (a := ⟨b, _, none⟩) hb).trans k3⟩
end Go.Proofs.Ytcghojnmnmmpoaa
