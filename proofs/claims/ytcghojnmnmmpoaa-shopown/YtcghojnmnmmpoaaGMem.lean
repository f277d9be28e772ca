/- Places as they lie in memory while they are made. -/
import Derived.Test.YtcghojnmnmmpoaaPlaces
import Derived.Test.YtcghojnmnmmpoaaPure
import Derived.Test.YtcghojnmnmmpoaaPtOwn
import Derived.OwnWalk
import Derived.Deep.Heap
import Derived.Lib.AppendStr
import Derived.Lib.UnsafeStr
import Derived.Laws.IdiomStrings
namespace Go.Proofs.Ytcghojnmnmmpoaa
open Go.RowKit
set_option linter.unusedSimpArgs false
set_option linter.unusedVariables false


theorem own_ne {w : World} {B g n : Nat} {e t : TypeId} {v : Value} {xs : List Value} {c : Array Value} {fz : Nat × Nat} (h : w.ownsRow B e 1 v n xs) (hg : w.heap[g]? = some (.cells c t fz)) (ht : t ≠ e) : v.ownBlock ≠ some g := by
  intro hb
  rcases h.2 with ⟨rfl, _⟩ | ⟨g', cap, cur, rfl, _, hc, _⟩
  · simp [Value.ownBlock] at hb
  · simp only [Value.ownBlock, Option.some.injEq] at hb
    subst hb
    rw [hg] at hc
    simp only [Option.some.injEq, Obj.cells.injEq] at hc
    exact ht hc.2.1
theorem own_ne2 {w : World} {B n n' : Nat} {e t : TypeId} {v v' : Value} {xs xs' : List Value} (h : w.ownsRow B e 1 v n xs) (h' : w.ownsRow B t 1 v' n' xs') (ht : t ≠ e) : v.ownBlock = none ∨ v.ownBlock ≠ v'.ownBlock := by
  rcases h'.2 with ⟨rfl, _⟩ | ⟨g', cap, cur, rfl, _, hc, _⟩
  · rcases h.2 with ⟨rfl, _⟩ | ⟨g, cap, cur, rfl, _⟩
    · left; rfl
    · right; simp [Value.ownBlock]
  · right; exact own_ne h hc ht
theorem grown_set (w : World) (b o : Nat) (v : Value) : w.grownBy (w.setCell ⟨b, o, none⟩ v) (some b) :=
  ⟨rfl, rfl, rfl, by simp [World.setCell], fun k _ hk => Deep.blk_setCell_other w _ v k (fun e => hk (by rw [e]))⟩



theorem set_at {w : World} {b o : Nat} {cs : Array Value} {t : TypeId} {v : Value} (h : w.heap[b]? = some (.cells cs t (0, 0))) : (w.setCell ⟨b, o, none⟩ v).heap[b]? = some (.cells (cs.setIfInBounds o v) t (0, 0)) := by
  simp [World.setCell, Array.getElem?_modify, h]

theorem own_block {w w' : World} {B n g : Nat} {e t : TypeId} {v : Value} {xs : List Value} {c : Array Value} {fz : Nat × Nat} (h : w.ownsRow B e 1 v n xs) (hg : w.grownBy w' v.ownBlock) (hb : w.heap[g]? = some (.cells c t fz)) (ht : t ≠ e) : w'.heap[g]? = some (.cells c t fz) :=
  (hg.block g (lt_of_heap hb) (fun x => own_ne h hb ht x.symm)).trans hb


theorem setLast_eq {qs : List ByteArray} {n : Nat} {q t : ByteArray} (hl : qs.length = n + 1) (hq : qs[n]? = some q) : setLast qs t = qs.set n (q ++ t) := by
  have h1 : qs = qs.dropLast ++ [q] := by
    have h2 : qs ≠ [] := fun e => by subst e; simp at hl
    have h3 := List.dropLast_concat_getLast h2
    have h4 : qs.getLast h2 = q := by
      rw [List.getLast_eq_getElem]
      obtain ⟨h5, h6⟩ := List.getElem?_eq_some_iff.1 hq
      have h7 : qs.length - 1 = n := by omega
      simp only [h7]; exact h6
    rw [h4] at h3; exact h3.symm
  have h8 : qs.dropLast.length = n := by simp; omega
  generalize qs.dropLast = d at h1 h8
  subst h1
  rw [setLast_snoc]
  subst h8
  simp


end Go.Proofs.Ytcghojnmnmmpoaa

/- A gatherer as it lies in memory. -/
namespace Go.Proofs.Ytcghojnmnmmpoaa
open Go.RowKit
set_option linter.unusedSimpArgs false
set_option linter.unusedVariables false

structure GAt (w : World) (B G : Nat) (s : GSt) (sv tv : Value) : Prop where
  bg : B ≤ G
  cell : w.heap[G]? = some (.cells #[sv, tv, .int .i64 s.ct] 196 (0, 0))
  sl : w.ownsRow B 45 3 sv s.sl.length (allCells s.sl)
  tx : w.ownsRow B 5 1 tv s.tx.length (Lib.byteCells s.tx)

theorem own_ne' {w : World} {B g n size : Nat} {e t : TypeId} {v : Value} {xs : List Value} {c : Array Value} {fz : Nat × Nat} (h : w.ownsRow B e size v n xs) (hg : w.heap[g]? = some (.cells c t fz)) (ht : t ≠ e) : v.ownBlock ≠ some g := by
  intro hb
  rcases h.2 with ⟨rfl, _⟩ | ⟨g', cap, cur, rfl, _, hc, _⟩
  · simp [Value.ownBlock] at hb
  · simp only [Value.ownBlock, Option.some.injEq] at hb
    subst hb
    rw [hg] at hc
    simp only [Option.some.injEq, Obj.cells.injEq] at hc
    exact ht hc.2.1
theorem own_ne2' {w : World} {B n n' size size' : Nat} {e t : TypeId} {v v' : Value} {xs xs' : List Value} (h : w.ownsRow B e size v n xs) (h' : w.ownsRow B t size' v' n' xs') (ht : t ≠ e) : v.ownBlock = none ∨ v.ownBlock ≠ v'.ownBlock := by
  rcases h'.2 with ⟨rfl, _⟩ | ⟨g', cap, cur, rfl, _, hc, _⟩
  · rcases h.2 with ⟨rfl, _⟩ | ⟨g, cap, cur, rfl, _⟩
    · left; rfl
    · right; simp [Value.ownBlock]
  · right; exact own_ne' h hc ht
theorem GAt.alloc {w : World} {B G : Nat} {s : GSt} {sv tv : Value} (h : GAt w B G s sv tv) (o : Obj) : GAt (w.alloc o) B G s sv tv :=
  ⟨h.bg, (Deep.blk_alloc_lt w o G (lt_of_heap h.cell)).trans h.cell, own_alloc h.sl o, own_alloc h.tx o⟩
theorem GAt.drew {w : World} {B G : Nat} {s : GSt} {sv tv : Value} (h : GAt w B G s sv tv) : GAt w.drew B G s sv tv := ⟨h.bg, h.cell, h.sl, h.tx⟩

/-- the settled row grew -/
theorem GAt.grow {w w' : World} {B G : Nat} {s : GSt} {sv sv' tv : Value} {l : List Pt} (h : GAt w B G s sv tv) (ho : w'.ownsRow B 45 3 sv' l.length (allCells l)) (hg : w.grownBy w' sv.ownBlock) :
    GAt (w'.setCell ⟨G, 0, none⟩ sv') B G ⟨l, s.tx, s.ct⟩ sv' tv := by
  have hc : w'.heap[G]? = some (.cells #[sv, tv, .int .i64 s.ct] 196 (0, 0)) := (hg.block G (lt_of_heap h.cell) (fun e => own_ne' h.sl h.cell (by decide) e.symm)).trans h.cell
  have ht : w'.ownsRow B 5 1 tv s.tx.length (Lib.byteCells s.tx) := h.tx.kept hg (own_ne2' h.tx h.sl (by decide))
  refine ⟨h.bg, ?_, ?_, ?_⟩
  · rw [set_at hc]; rfl
  · exact ho.kept (grown_set w' G 0 sv') (.inr (own_ne' ho hc (by decide)))
  · exact ht.kept (grown_set w' G 0 sv') (.inr (own_ne' ht hc (by decide)))
/-- a store into the text or the cut -/
theorem GAt.set2 {w : World} {B G : Nat} {s : GSt} {sv tv : Value} (h : GAt w B G s sv tv) (c : Int) : GAt (w.setCell ⟨G, 2, none⟩ (.int .i64 c)) B G ⟨s.sl, s.tx, c⟩ sv tv := by
  refine ⟨h.bg, ?_, ?_, ?_⟩
  · rw [set_at h.cell]; rfl
  · exact h.sl.kept (grown_set w G 2 _) (.inr (own_ne' h.sl h.cell (by decide)))
  · exact h.tx.kept (grown_set w G 2 _) (.inr (own_ne' h.tx h.cell (by decide)))
theorem GAt.set1 {w w' : World} {B G : Nat} {s : GSt} {sv tv tv' : Value} {t : List UInt8} (h : GAt w B G s sv tv) (ho : w'.ownsRow B 5 1 tv' t.length (Lib.byteCells t)) (hg : w.grownBy w' tv.ownBlock) :
    GAt (w'.setCell ⟨G, 1, none⟩ tv') B G ⟨s.sl, t, s.ct⟩ sv tv' := by
  have hc : w'.heap[G]? = some (.cells #[sv, tv, .int .i64 s.ct] 196 (0, 0)) := (hg.block G (lt_of_heap h.cell) (fun e => own_ne' h.tx h.cell (by decide) e.symm)).trans h.cell
  have hs : w'.ownsRow B 45 3 sv s.sl.length (allCells s.sl) := h.sl.kept hg (own_ne2' h.sl h.tx (by decide))
  refine ⟨h.bg, ?_, ?_, ?_⟩
  · rw [set_at hc]; rfl
  · exact hs.kept (grown_set w' G 1 tv') (.inr (own_ne' hs hc (by decide)))
  · exact ho.kept (grown_set w' G 1 tv') (.inr (own_ne' ho hc (by decide)))
theorem GAt.at_sl {w w' : World} {B G : Nat} {s : GSt} {sv tv : Value} (h : GAt w B G s sv tv) (hg : w.grownBy w' sv.ownBlock) : w'.heap[G]? = some (.cells #[sv, tv, .int .i64 s.ct] 196 (0, 0)) :=
  (hg.block G (lt_of_heap h.cell) (fun e => own_ne' h.sl h.cell (by decide) e.symm)).trans h.cell
theorem GAt.at_tx {w w' : World} {B G : Nat} {s : GSt} {sv tv : Value} (h : GAt w B G s sv tv) (hg : w.grownBy w' tv.ownBlock) : w'.heap[G]? = some (.cells #[sv, tv, .int .i64 s.ct] 196 (0, 0)) :=
  (hg.block G (lt_of_heap h.cell) (fun e => own_ne' h.tx h.cell (by decide) e.symm)).trans h.cell
/-- g.text[:0] -/
theorem own_zero {w : World} {B n : Nat} {e : TypeId} {ao : Option Addr} {cap : Nat} {xs : List Value} (h : w.ownsRow B e 1 (.slice ao n cap) n xs) : w.ownsRow B e 1 (.slice ao 0 cap) 0 [] := by
  refine ⟨rfl, ?_⟩
  rcases h.2 with ⟨hv, _⟩ | ⟨g, cap', cur, hv, hb, hg, hn, hm, hc, _⟩
  · simp only [Value.slice.injEq] at hv
    obtain ⟨rfl, _, rfl⟩ := hv
    exact .inl ⟨rfl, rfl⟩
  · simp only [Value.slice.injEq, true_and] at hv
    obtain ⟨rfl, rfl⟩ := hv
    exact .inr ⟨g, cap, cur, rfl, hb, hg, Nat.zero_le _, hm, hc, by simp⟩


end Go.Proofs.Ytcghojnmnmmpoaa
