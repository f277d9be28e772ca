/- Places as they lie in memory while they are made. -/
import Derived.Test.YtgffippimmokiaaPlaces
import Derived.Test.YtgffippimmokiaaPure
import Derived.Test.YtgffippimmokiaaPtOwn
import Derived.OwnWalk
import Derived.Deep.Heap
import Derived.Lib.AppendStr
import Derived.Lib.UnsafeStr
import Derived.Laws.IdiomStrings
namespace Go.Proofs.Ytgffippimmokiaa
open Go.RowKit
set_option linter.unusedSimpArgs false
set_option linter.unusedVariables false

/-- block X holds Places, whose lists are the call's own; block R is the answer's -/
structure PlAt (w : World) (B X R : Nat) (st : List ByteArray × List Bool) (pv kv : Value) : Prop where
  bx : B ≤ X
  br : B ≤ R
  ne : X ≠ R
  cell : w.heap[X]? = some (.cells #[pv, kv] 178 (0, 0))
  res : w.heap[R]? = some (.cells #[.slice none 0 0, .slice none 0 0] 178 (0, 0))
  puts : w.ownsRow B 9 1 pv st.1.length (st.1.map Value.string)
  kept : w.ownsRow B 4 1 kv st.2.length (st.2.map Value.bool)

theorem own_ne {w : World} {B g n : Nat} {e t : TypeId} {v : Value} {xs : List Value} {c : Array Value} {fz : Nat × Nat} (h : w.ownsRow B e 1 v n xs) (hg : w.heap[g]? = some (.cells c t fz)) (ht : t ≠ e) : v.ownBlock ≠ some g := by
  intro hb
  rcases h.2 with ⟨rfl, _⟩ | ⟨g', cap, cur, rfl, _, hc, _⟩
  · simp [Value.ownBlock] at hb
  · simp only [Value.ownBlock, Option.some.injEq] at hb
    subst hb
    rw [hg] at hc
    simp only [Option.some.injEq, Obj.cells.injEq] at hc
    exact ht hc.2.1
theorem own_ne2 {w : World} {B n n' : Nat} {e t : TypeId} {v v' : Value} {xs xs' : List Value} (h : w.ownsRow B e 1 v n xs) (h' : w.ownsRow B t 1 v' n' xs') (ht : t ≠ e) : v.ownBlock = none ∨ v.ownBlock ≠ v'.ownBlock := by
  rcases h'.2 with ⟨rfl, _⟩ | ⟨g', cap, cur, rfl, _, hc, _⟩
  · rcases h.2 with ⟨rfl, _⟩ | ⟨g, cap, cur, rfl, _⟩
    · left; rfl
    · right; simp [Value.ownBlock]
  · right; exact own_ne h hc ht
theorem grown_set (w : World) (b o : Nat) (v : Value) : w.grownBy (w.setCell ⟨b, o, none⟩ v) (some b) :=
  ⟨rfl, rfl, rfl, by simp [World.setCell], fun k _ hk => Deep.blk_setCell_other w _ v k (fun e => hk (by rw [e]))⟩


theorem PlAt.alloc {w : World} {B X R : Nat} {st : List ByteArray × List Bool} {pv kv : Value} (h : PlAt w B X R st pv kv) (o : Obj) : PlAt (w.alloc o) B X R st pv kv where
  bx := h.bx
  br := h.br
  ne := h.ne
  cell := (Deep.blk_alloc_lt w o X (lt_of_heap h.cell)).trans h.cell
  res := (Deep.blk_alloc_lt w o R (lt_of_heap h.res)).trans h.res
  puts := h.puts.kept (grown_alloc w o none) (by cases pv.ownBlock <;> simp)
  kept := h.kept.kept (grown_alloc w o none) (by cases kv.ownBlock <;> simp)
theorem PlAt.drewN {w : World} {B X R : Nat} {st : List ByteArray × List Bool} {pv kv : Value} (h : PlAt w B X R st pv kv) (n : Nat) : PlAt (w.drewN n) B X R st pv kv := ⟨h.bx, h.br, h.ne, h.cell, h.res, h.puts, h.kept⟩

theorem PlAt.drew {w : World} {B X R : Nat} {st : List ByteArray × List Bool} {pv kv : Value} (h : PlAt w B X R st pv kv) : PlAt w.drew B X R st pv kv := ⟨h.bx, h.br, h.ne, h.cell, h.res, h.puts, h.kept⟩

theorem set_at {w : World} {b o : Nat} {cs : Array Value} {t : TypeId} {v : Value} (h : w.heap[b]? = some (.cells cs t (0, 0))) : (w.setCell ⟨b, o, none⟩ v).heap[b]? = some (.cells (cs.setIfInBounds o v) t (0, 0)) := by
  simp [World.setCell, Array.getElem?_modify, h]

theorem PlAt.at_keep {w w' : World} {B X R : Nat} {st : List ByteArray × List Bool} {pv kv : Value} (h : PlAt w B X R st pv kv) (hg : w.grownBy w' kv.ownBlock) : w'.heap[X]? = some (.cells #[pv, kv] 178 (0, 0)) :=
  (hg.block X (lt_of_heap h.cell) (fun e => own_ne h.kept h.cell (by decide) e.symm)).trans h.cell
theorem PlAt.at_put {w w' : World} {B X R : Nat} {st : List ByteArray × List Bool} {pv kv : Value} (h : PlAt w B X R st pv kv) (hg : w.grownBy w' pv.ownBlock) : w'.heap[X]? = some (.cells #[pv, kv] 178 (0, 0)) :=
  (hg.block X (lt_of_heap h.cell) (fun e => own_ne h.puts h.cell (by decide) e.symm)).trans h.cell
theorem own_block {w w' : World} {B n g : Nat} {e t : TypeId} {v : Value} {xs : List Value} {c : Array Value} {fz : Nat × Nat} (h : w.ownsRow B e 1 v n xs) (hg : w.grownBy w' v.ownBlock) (hb : w.heap[g]? = some (.cells c t fz)) (ht : t ≠ e) : w'.heap[g]? = some (.cells c t fz) :=
  (hg.block g (lt_of_heap hb) (fun x => own_ne h hb ht x.symm)).trans hb

theorem PlAt.keep {w w' : World} {B X R : Nat} {qs : List ByteArray} {ks : List Bool} {pv kv kv' : Value} {b : Bool} (h : PlAt w B X R (qs, ks) pv kv) (ho : w'.ownsRow B 4 1 kv' (ks.length + 1) (ks.map Value.bool ++ [.bool b])) (hg : w.grownBy w' kv.ownBlock) :
    PlAt (w'.setCell ⟨X, 1, none⟩ kv') B X R (qs, ks ++ [b]) pv kv' := by
  have hc : w'.heap[X]? = some (.cells #[pv, kv] 178 (0, 0)) := (hg.block X (lt_of_heap h.cell) (fun e => own_ne h.kept h.cell (by decide) e.symm)).trans h.cell
  have hr : w'.heap[R]? = some (.cells #[.slice none 0 0, .slice none 0 0] 178 (0, 0)) := (hg.block R (lt_of_heap h.res) (fun e => own_ne h.kept h.res (by decide) e.symm)).trans h.res
  have hp : w'.ownsRow B 9 1 pv qs.length (qs.map Value.string) := h.puts.kept hg (own_ne2 h.puts h.kept (by decide))
  refine ⟨h.bx, h.br, h.ne, ?_, ?_, ?_, ?_⟩
  · rw [set_at hc]; rfl
  · rw [Deep.blk_setCell_other _ _ _ _ (fun e => h.ne e.symm)]; exact hr
  · exact hp.kept (grown_set w' X 1 kv') (.inr (own_ne hp hc (by decide)))
  · have := ho.kept (grown_set w' X 1 kv') (.inr (own_ne ho hc (by decide)))
    simpa using this
theorem PlAt.put {w w' : World} {B X R : Nat} {qs : List ByteArray} {ks : List Bool} {pv kv pv' : Value} {b : ByteArray} (h : PlAt w B X R (qs, ks) pv kv) (ho : w'.ownsRow B 9 1 pv' (qs.length + 1) (qs.map Value.string ++ [.string b])) (hg : w.grownBy w' pv.ownBlock) :
    PlAt (w'.setCell ⟨X, 0, none⟩ pv') B X R (qs ++ [b], ks) pv' kv := by
  have hc : w'.heap[X]? = some (.cells #[pv, kv] 178 (0, 0)) := (hg.block X (lt_of_heap h.cell) (fun e => own_ne h.puts h.cell (by decide) e.symm)).trans h.cell
  have hr : w'.heap[R]? = some (.cells #[.slice none 0 0, .slice none 0 0] 178 (0, 0)) := (hg.block R (lt_of_heap h.res) (fun e => own_ne h.puts h.res (by decide) e.symm)).trans h.res
  have hp : w'.ownsRow B 4 1 kv ks.length (ks.map Value.bool) := h.kept.kept hg (own_ne2 h.kept h.puts (by decide))
  refine ⟨h.bx, h.br, h.ne, ?_, ?_, ?_, ?_⟩
  · rw [set_at hc]; rfl
  · rw [Deep.blk_setCell_other _ _ _ _ (fun e => h.ne e.symm)]; exact hr
  · have := ho.kept (grown_set w' X 0 pv') (.inr (own_ne ho hc (by decide)))
    simpa using this
  · exact hp.kept (grown_set w' X 0 pv') (.inr (own_ne hp hc (by decide)))

theorem pl_start (w : World) : PlAt (((w.alloc (.cells #[.slice none 0 0, .slice none 0 0] 178)).alloc (.cells #[.string ⟨#[]⟩] 9)).alloc (.cells #[.slice (some ⟨w.heap.size + 1, 0, none⟩) 1 1, .slice none 0 0] 178))
    w.heap.size (w.heap.size + 1 + 1) w.heap.size ([ByteArray.empty], []) (.slice (some ⟨w.heap.size + 1, 0, none⟩) 1 1) (.slice none 0 0) := by
  have e1 : (w.alloc (.cells #[.slice none 0 0, .slice none 0 0] 178)).heap.size = w.heap.size + 1 := Deep.nblk_alloc _ _
  have e2 : ((w.alloc (.cells #[.slice none 0 0, .slice none 0 0] 178)).alloc (.cells #[.string ⟨#[]⟩] 9)).heap.size = w.heap.size + 1 + 1 := by rw [Deep.nblk_alloc, e1]
  refine ⟨by omega, by omega, by omega, ?_, ?_, ?_, ?_⟩
  · rw [← e2]; exact Deep.blk_alloc_new _ _
  · rw [Deep.blk_alloc_lt _ _ _ (by omega), Deep.blk_alloc_lt _ _ _ (by omega)]; exact Deep.blk_alloc_new _ _
  · refine ⟨rfl, .inr ⟨w.heap.size + 1, 1, #[.string ⟨#[]⟩], rfl, by omega, ?_, by simp, by unfold maxLen; omega, rfl, rfl⟩⟩
    rw [Deep.blk_alloc_lt _ _ _ (by omega), ← e1]; exact Deep.blk_alloc_new _ _
  · exact World.ownsRow_nil _ _ _ _

theorem setLast_eq {qs : List ByteArray} {n : Nat} {q t : ByteArray} (hl : qs.length = n + 1) (hq : qs[n]? = some q) : setLast qs t = qs.set n (q ++ t) := by
  have h1 : qs = qs.dropLast ++ [q] := by
    have h2 : qs ≠ [] := fun e => by subst e; simp at hl
    have h3 := List.dropLast_concat_getLast h2
    have h4 : qs.getLast h2 = q := by
      rw [List.getLast_eq_getElem]
      obtain ⟨h5, h6⟩ := List.getElem?_eq_some_iff.1 hq
      have h7 : qs.length - 1 = n := by omega
      simp only [h7]; exact h6
    rw [h4] at h3; exact h3.symm
  have h8 : qs.dropLast.length = n := by simp; omega
  generalize qs.dropLast = d at h1 h8
  subst h1
  rw [setLast_snoc]
  subst h8
  simp

theorem PlAt.last {w : World} {B X R : Nat} {qs : List ByteArray} {ks : List Bool} {kv : Value} {g ca : Nat} {q t : ByteArray} (hl : qs.length = ks.length + 1) (h : PlAt w B X R (qs, ks) (.slice (some ⟨g, 0, none⟩) (ks.length + 1) ca) kv) (hq : qs[ks.length]? = some q) :
    PlAt (w.setCell ⟨g, ks.length, none⟩ (.string (q ++ t))) B X R (setLast qs t, ks) (.slice (some ⟨g, 0, none⟩) (ks.length + 1) ca) kv := by
  have hp := h.puts
  simp only [hl] at hp
  have hgX : g ≠ X := fun e => own_ne hp h.cell (by decide) (by rw [e]; rfl)
  have hgR : g ≠ R := fun e => own_ne hp h.res (by decide) (by rw [e]; rfl)
  have h2 := (hp.stored ks.length (.string (q ++ t))).1
  refine ⟨h.bx, h.br, h.ne, ?_, ?_, ?_, ?_⟩
  · rw [Deep.blk_setCell_other _ _ _ _ (fun e => hgX e.symm)]; exact h.cell
  · rw [Deep.blk_setCell_other _ _ _ _ (fun e => hgR e.symm)]; exact h.res
  · rw [setLast_eq hl hq]
    simp only [List.length_set, hl, List.map_set]
    exact h2
  · have h3 := own_ne2 h.kept hp (by decide)
    exact h.kept.kept (grown_set w g ks.length (.string (q ++ t))) h3

end Go.Proofs.Ytgffippimmokiaa

/- A gatherer as it lies in memory. -/
namespace Go.Proofs.Ytgffippimmokiaa
open Go.RowKit
set_option linter.unusedSimpArgs false
set_option linter.unusedVariables false

structure GAt (w : World) (B G : Nat) (s : GSt) (sv tv : Value) : Prop where
  bg : B ≤ G
  cell : w.heap[G]? = some (.cells #[sv, tv, .int .i64 s.ct] 203 (0, 0))
  sl : w.ownsRow B 138 3 sv s.sl.length (allCells s.sl)
  tx : w.ownsRow B 5 1 tv s.tx.length (Lib.byteCells s.tx)

theorem own_ne' {w : World} {B g n size : Nat} {e t : TypeId} {v : Value} {xs : List Value} {c : Array Value} {fz : Nat × Nat} (h : w.ownsRow B e size v n xs) (hg : w.heap[g]? = some (.cells c t fz)) (ht : t ≠ e) : v.ownBlock ≠ some g := by
  intro hb
  rcases h.2 with ⟨rfl, _⟩ | ⟨g', cap, cur, rfl, _, hc, _⟩
  · simp [Value.ownBlock] at hb
  · simp only [Value.ownBlock, Option.some.injEq] at hb
    subst hb
    rw [hg] at hc
    simp only [Option.some.injEq, Obj.cells.injEq] at hc
    exact ht hc.2.1
theorem own_ne2' {w : World} {B n n' size size' : Nat} {e t : TypeId} {v v' : Value} {xs xs' : List Value} (h : w.ownsRow B e size v n xs) (h' : w.ownsRow B t size' v' n' xs') (ht : t ≠ e) : v.ownBlock = none ∨ v.ownBlock ≠ v'.ownBlock := by
  rcases h'.2 with ⟨rfl, _⟩ | ⟨g', cap, cur, rfl, _, hc, _⟩
  · rcases h.2 with ⟨rfl, _⟩ | ⟨g, cap, cur, rfl, _⟩
    · left; rfl
    · right; simp [Value.ownBlock]
  · right; exact own_ne' h hc ht
theorem GAt.alloc {w : World} {B G : Nat} {s : GSt} {sv tv : Value} (h : GAt w B G s sv tv) (o : Obj) : GAt (w.alloc o) B G s sv tv :=
  ⟨h.bg, (Deep.blk_alloc_lt w o G (lt_of_heap h.cell)).trans h.cell, own_alloc h.sl o, own_alloc h.tx o⟩
theorem GAt.drew {w : World} {B G : Nat} {s : GSt} {sv tv : Value} (h : GAt w B G s sv tv) : GAt w.drew B G s sv tv := ⟨h.bg, h.cell, h.sl, h.tx⟩

/-- the settled row grew -/
theorem GAt.grow {w w' : World} {B G : Nat} {s : GSt} {sv sv' tv : Value} {l : List Pt} (h : GAt w B G s sv tv) (ho : w'.ownsRow B 138 3 sv' l.length (allCells l)) (hg : w.grownBy w' sv.ownBlock) :
    GAt (w'.setCell ⟨G, 0, none⟩ sv') B G ⟨l, s.tx, s.ct⟩ sv' tv := by
  have hc : w'.heap[G]? = some (.cells #[sv, tv, .int .i64 s.ct] 203 (0, 0)) := (hg.block G (lt_of_heap h.cell) (fun e => own_ne' h.sl h.cell (by decide) e.symm)).trans h.cell
  have ht : w'.ownsRow B 5 1 tv s.tx.length (Lib.byteCells s.tx) := h.tx.kept hg (own_ne2' h.tx h.sl (by decide))
  refine ⟨h.bg, ?_, ?_, ?_⟩
  · rw [set_at hc]; rfl
  · exact ho.kept (grown_set w' G 0 sv') (.inr (own_ne' ho hc (by decide)))
  · exact ht.kept (grown_set w' G 0 sv') (.inr (own_ne' ht hc (by decide)))
/-- a store into the text or the cut -/
theorem GAt.set2 {w : World} {B G : Nat} {s : GSt} {sv tv : Value} (h : GAt w B G s sv tv) (c : Int) : GAt (w.setCell ⟨G, 2, none⟩ (.int .i64 c)) B G ⟨s.sl, s.tx, c⟩ sv tv := by
  refine ⟨h.bg, ?_, ?_, ?_⟩
  · rw [set_at h.cell]; rfl
  · exact h.sl.kept (grown_set w G 2 _) (.inr (own_ne' h.sl h.cell (by decide)))
  · exact h.tx.kept (grown_set w G 2 _) (.inr (own_ne' h.tx h.cell (by decide)))
theorem GAt.set1 {w w' : World} {B G : Nat} {s : GSt} {sv tv tv' : Value} {t : List UInt8} (h : GAt w B G s sv tv) (ho : w'.ownsRow B 5 1 tv' t.length (Lib.byteCells t)) (hg : w.grownBy w' tv.ownBlock) :
    GAt (w'.setCell ⟨G, 1, none⟩ tv') B G ⟨s.sl, t, s.ct⟩ sv tv' := by
  have hc : w'.heap[G]? = some (.cells #[sv, tv, .int .i64 s.ct] 203 (0, 0)) := (hg.block G (lt_of_heap h.cell) (fun e => own_ne' h.tx h.cell (by decide) e.symm)).trans h.cell
  have hs : w'.ownsRow B 138 3 sv s.sl.length (allCells s.sl) := h.sl.kept hg (own_ne2' h.sl h.tx (by decide))
  refine ⟨h.bg, ?_, ?_, ?_⟩
  · rw [set_at hc]; rfl
  · exact hs.kept (grown_set w' G 1 tv') (.inr (own_ne' hs hc (by decide)))
  · exact ho.kept (grown_set w' G 1 tv') (.inr (own_ne' ho hc (by decide)))
theorem GAt.at_sl {w w' : World} {B G : Nat} {s : GSt} {sv tv : Value} (h : GAt w B G s sv tv) (hg : w.grownBy w' sv.ownBlock) : w'.heap[G]? = some (.cells #[sv, tv, .int .i64 s.ct] 203 (0, 0)) :=
  (hg.block G (lt_of_heap h.cell) (fun e => own_ne' h.sl h.cell (by decide) e.symm)).trans h.cell
theorem GAt.at_tx {w w' : World} {B G : Nat} {s : GSt} {sv tv : Value} (h : GAt w B G s sv tv) (hg : w.grownBy w' tv.ownBlock) : w'.heap[G]? = some (.cells #[sv, tv, .int .i64 s.ct] 203 (0, 0)) :=
  (hg.block G (lt_of_heap h.cell) (fun e => own_ne' h.tx h.cell (by decide) e.symm)).trans h.cell
/-- g.text[:0] -/
theorem own_zero {w : World} {B n : Nat} {e : TypeId} {ao : Option Addr} {cap : Nat} {xs : List Value} (h : w.ownsRow B e 1 (.slice ao n cap) n xs) : w.ownsRow B e 1 (.slice ao 0 cap) 0 [] := by
  refine ⟨rfl, ?_⟩
  rcases h.2 with ⟨hv, _⟩ | ⟨g, cap', cur, hv, hb, hg, hn, hm, hc, _⟩
  · simp only [Value.slice.injEq] at hv
    obtain ⟨rfl, _, rfl⟩ := hv
    exact .inl ⟨rfl, rfl⟩
  · simp only [Value.slice.injEq, true_and] at hv
    obtain ⟨rfl, rfl⟩ := hv
    exact .inr ⟨g, cap, cur, rfl, hb, hg, Nat.zero_le _, hm, hc, by simp⟩


end Go.Proofs.Ytgffippimmokiaa
