/- Places as they lie in memory while they are made. -/
import Derived.Test.YtilcmbophfjjbabPlaces
import Derived.Test.YtilcmbophfjjbabMem
import Derived.Test.YtilcmbophfjjbabHKit
import Derived.OwnWalk
import Derived.Deep.Heap
namespace Go.Proofs.Ytilcmbophfjjbab
open Go.RowKit
set_option linter.unusedSimpArgs false
set_option linter.unusedVariables false


theorem own_ne {w : World} {B g n : Nat} {e t : TypeId} {v : Value} {xs : List Value} {c : Array Value} {fz : Nat × Nat} (h : w.ownsRow B e 1 v n xs) (hg : w.heap[g]? = some (.cells c t fz)) (ht : t ≠ e) : v.ownBlock ≠ some g := by
  intro hb
  rcases h.2 with ⟨rfl, _⟩ | ⟨g', cap, cur, rfl, _, hc, _⟩
  · simp [Value.ownBlock] at hb
  · simp only [Value.ownBlock, Option.some.injEq] at hb
    subst hb
    rw [hg] at hc
    simp only [Option.some.injEq, Obj.cells.injEq] at hc
    exact ht hc.2.1
theorem own_ne2 {w : World} {B n n' : Nat} {e t : TypeId} {v v' : Value} {xs xs' : List Value} (h : w.ownsRow B e 1 v n xs) (h' : w.ownsRow B t 1 v' n' xs') (ht : t ≠ e) : v.ownBlock = none ∨ v.ownBlock ≠ v'.ownBlock := by
  rcases h'.2 with ⟨rfl, _⟩ | ⟨g', cap, cur, rfl, _, hc, _⟩
  · rcases h.2 with ⟨rfl, _⟩ | ⟨g, cap, cur, rfl, _⟩
    · left; rfl
    · right; simp [Value.ownBlock]
  · right; exact own_ne h hc ht
theorem grown_set (w : World) (b o : Nat) (v : Value) : w.grownBy (w.setCell ⟨b, o, none⟩ v) (some b) :=
  ⟨rfl, rfl, rfl, by simp [World.setCell], fun k _ hk => Deep.blk_setCell_other w _ v k (fun e => hk (by rw [e]))⟩



theorem set_at {w : World} {b o : Nat} {cs : Array Value} {t : TypeId} {v : Value} (h : w.heap[b]? = some (.cells cs t (0, 0))) : (w.setCell ⟨b, o, none⟩ v).heap[b]? = some (.cells (cs.setIfInBounds o v) t (0, 0)) := by
  simp [World.setCell, Array.getElem?_modify, h]

theorem own_block {w w' : World} {B n g : Nat} {e t : TypeId} {v : Value} {xs : List Value} {c : Array Value} {fz : Nat × Nat} (h : w.ownsRow B e 1 v n xs) (hg : w.grownBy w' v.ownBlock) (hb : w.heap[g]? = some (.cells c t fz)) (ht : t ≠ e) : w'.heap[g]? = some (.cells c t fz) :=
  (hg.block g (lt_of_heap hb) (fun x => own_ne h hb ht x.symm)).trans hb


theorem setLast_eq {qs : List ByteArray} {n : Nat} {q t : ByteArray} (hl : qs.length = n + 1) (hq : qs[n]? = some q) : setLast qs t = qs.set n (q ++ t) := by
  have h1 : qs = qs.dropLast ++ [q] := by
    have h2 : qs ≠ [] := fun e => by subst e; simp at hl
    have h3 := List.dropLast_concat_getLast h2
    have h4 : qs.getLast h2 = q := by
      rw [List.getLast_eq_getElem]
      obtain ⟨h5, h6⟩ := List.getElem?_eq_some_iff.1 hq
      have h7 : qs.length - 1 = n := by omega
      simp only [h7]; exact h6
    rw [h4] at h3; exact h3.symm
  have h8 : qs.dropLast.length = n := by simp; omega
  generalize qs.dropLast = d at h1 h8
  subst h1
  rw [setLast_snoc]
  subst h8
  simp


end Go.Proofs.Ytilcmbophfjjbab
