/- What turn.turned and turn.Of answer. -/
import Derived.Test.YtinhidddfpjjkabCompL
import Derived.Test.YtinhidddfpjjkabGMem
import Derived.Test.YtinhidddfpjjkabCaps
import Derived.Deep.Heap
import Derived.Lib.Strings
namespace Go.Proofs.Ytinhidddfpjjkab
open Go.RowKit
set_option linter.unusedSimpArgs false
set_option linter.unusedVariables false

def turnP (p : Pt) (s : List UInt8) : Pt := if p.k = 1 then p else if p.k = 2 then ⟨3, p.t.size, ByteArray.empty⟩ else ⟨2, 0, ⟨(s.take p.n.toNat).toArray⟩⟩
def turnJ : List Pt → List UInt8 → List Pt
  | [], _ => []
  | p :: r, s => turnP p s :: turnJ r (s.drop p.n.toNat)
theorem turnJ_snoc (l : List Pt) (p : Pt) (s : List UInt8) (h : ∀ q ∈ l, 0 ≤ q.n) : turnJ (l ++ [p]) s = turnJ l s ++ [turnP p (s.drop (inI l).toNat)] := by
  induction l generalizing s with
  | nil => simp [turnJ, inI]
  | cons q r ih =>
    have hq := h q (by simp)
    have hr : 0 ≤ inI r := whole_in (fun x hx => h x (List.mem_cons_of_mem _ hx))
    simp only [List.cons_append, turnJ, inI]
    rw [ih _ (fun x hx => h x (List.mem_cons_of_mem _ hx)), List.drop_drop, show (q.n + inI r).toNat = q.n.toNat + (inI r).toNat by omega]
theorem turnJ_len (l : List Pt) (s : List UInt8) : (turnJ l s).length = l.length := by
  induction l generalizing s with
  | nil => rfl
  | cons q r ih => simp [turnJ, ih]
theorem turnW_K (n : Nat) (w : List Tok) (s : List UInt8) : turnW (List.replicate n .K ++ w) s = List.replicate n .K ++ turnW w (s.drop n) := by
  induction n generalizing s with
  | zero => simp
  | succ n ih =>
    simp only [List.replicate_succ, List.cons_append, turnW, ih]
    cases s <;> simp
theorem turnW_X (n : Nat) (w : List Tok) (s : List UInt8) : turnW (List.replicate n .X ++ w) s = (s.take n).map .P ++ turnW w (s.drop n) := by
  induction n generalizing s with
  | zero => simp
  | succ n ih =>
    simp only [List.replicate_succ, List.cons_append, turnW, ih]
    cases s <;> simp
theorem turnW_P (t : List UInt8) (w : List Tok) (s : List UInt8) : turnW (t.map .P ++ w) s = List.replicate t.length .X ++ turnW w s := by
  induction t with
  | nil => rfl
  | cons c t ih => simp only [List.map_cons, List.cons_append, turnW, ih, List.length_cons, List.replicate_succ]
theorem turnJ_word {l : List Pt} (h : Right l) {s : List UInt8} (hs : (s.length : Int) = inI l) : wordL (turnJ l s) = turnW (wordL l) s ∧ Right (turnJ l s) := by
  induction l generalizing s with
  | nil => exact ⟨rfl, by intro p hp; simp [turnJ] at hp⟩
  | cons p r ih =>
    have hr : Right r := fun q hq => h q (List.mem_cons_of_mem _ hq)
    obtain ⟨r0, r1, r2, r3⟩ := right_len hr
    have hp := h p (by simp)
    have hp0 := ((right_len h).2.2.2 p (by simp)).1
    simp only [inI] at hs
    obtain ⟨i1, i2⟩ := ih hr (s := s.drop p.n.toNat) (by rw [List.length_drop]; omega)
    obtain ⟨hk, h2, h3, h4⟩ := hp
    have htl : p.t.data.toList.length = p.t.size := Array.length_toList
    rcases hk with hk | hk | hk
    · have e : turnP p s = p := by simp [turnP, hk]
      refine ⟨?_, ?_⟩
      · rw [turnJ, e, wordL_cons, wordL_cons, i1, wordP, if_pos hk, turnW_K]
      · rw [turnJ, e]
        intro q hq
        rcases List.mem_cons.1 hq with rfl | hq
        · exact h q (by simp)
        · exact i2 q hq
    · have hn := h2 hk
      have e : turnP p s = ⟨3, p.t.size, ByteArray.empty⟩ := by simp [turnP, hk]
      refine ⟨?_, ?_⟩
      · rw [turnJ, e, wordL_cons, wordL_cons, i1, hn]
        simp only [wordP, hk]
        simp [turnW_P, htl]
      · rw [turnJ, e]
        intro q hq
        rcases List.mem_cons.1 hq with rfl | hq
        · have := h4 hk
          exact ⟨by simp, by simp, by simp; omega, by simp⟩
        · exact i2 q hq
    · have hn := h3 (by omega)
      have e : turnP p s = ⟨2, 0, ⟨(s.take p.n.toNat).toArray⟩⟩ := by simp [turnP, hk]
      refine ⟨?_, ?_⟩
      · rw [turnJ, e, wordL_cons, wordL_cons, i1]
        simp only [wordP, hk]
        simp [turnW_X]
      · rw [turnJ, e]
        intro q hq
        rcases List.mem_cons.1 hq with rfl | hq
        · refine ⟨by simp, by simp, by simp, fun _ => ?_⟩
          show (List.toArray _).size ≠ 0
          simp only [List.size_toArray, List.length_take]; omega
        · exact i2 q hq
theorem turnJ_norm {d : List Pt} {s : List UInt8} (h : sizesE d = 0) (hs : (s.length : Int) = inI d) : normE (turnJ d s) = 0 ∧ normL (turnJ d s) = turnL d s := by
  obtain ⟨g, c, i, o, l, m⟩ := delta_facts h
  obtain ⟨w1, w2⟩ := turnJ_word (sizes_right h) hs
  obtain ⟨t1, t2, t3, t4⟩ := turn_props (wordL d) s (by omega)
  have hG : Good (turnJ d s) := fun p hp => ⟨(w2 p hp).1, ((right_len w2).2.2.2 p hp).1, (w2 p hp).2.1, fun e => ((w2 p hp).2.2.1 e).1⟩
  have hn := norm_right w2 (by rw [inI_word hG, w1]; omega) (by rw [outI_word hG, w1]; omega)
  exact ⟨hn.1, by rw [hn.2, w1, turn_canon h hs]⟩

/-- a box that was laid ahead of a row's growth -/
theorem box_after {w w' : World} {B n size : Nat} {e : TypeId} {v : Value} {xs : List Value} {o o' : Obj} (h : w.ownsRow B e size v n xs) (hg : ((w.alloc o).alloc o').grownBy w' v.ownBlock) : w'.heap[w.heap.size]? = some o := by
  have h1 := hg.block w.heap.size (by simp; omega) (fun e => by have := (h.lt _ e.symm).2; omega)
  rw [h1, Deep.blk_alloc_lt _ _ _ (by simp)]
  exact Deep.blk_alloc_new _ _
theorem box_one {w w' : World} {B n size : Nat} {e : TypeId} {v : Value} {xs : List Value} {o : Obj} (h : w.ownsRow B e size v n xs) (hg : (w.alloc o).grownBy w' v.ownBlock) : w'.heap[w.heap.size]? = some o := by
  have h1 := hg.block w.heap.size (by simp) (fun e => by have := (h.lt _ e.symm).2; omega)
  rw [h1]
  exact Deep.blk_alloc_new _ _

theorem ext_end (s : ByteArray) (a : Nat) : (s.extract a s.size).data.toList = s.data.toList.drop a := by
  rw [Lib.extract_data]
  have h : s.data.toList.length = s.size := Array.length_toList
  exact List.take_of_length_le (by rw [List.length_drop, h]; omega)
theorem ext_take (s : ByteArray) (a : Nat) : (s.extract 0 a) = ⟨(s.data.toList.take a).toArray⟩ := by
  have h := Lib.extract_data s 0 a
  simp only [List.drop_zero, Nat.sub_zero] at h
  rw [← h]


theorem turnJ_bound {l : List Pt} {s : List UInt8} (h : sizesE l = 0) (hs : (s.length : Int) = inI l) : Bound (turnJ l s) := by
  obtain ⟨g, c, i, o, b1, b2⟩ := delta_facts h
  obtain ⟨w1, w2⟩ := turnJ_word (sizes_right h) hs
  obtain ⟨t1, t2, t3, t4⟩ := turn_props (wordL l) s (by omega)
  obtain ⟨r0, r1, r2, r3⟩ := right_len w2
  have hG : Good (turnJ l s) := fun p hp => ⟨(w2 p hp).1, (r3 p hp).1, (w2 p hp).2.1, fun e => ((w2 p hp).2.2.1 e).1⟩
  have e1 : inI (turnJ l s) ≤ 500 := by rw [inI_word hG, w1]; omega
  have e2 : outI (turnJ l s) ≤ 500 := by rw [outI_word hG, w1]; omega
  refine ⟨by omega, fun p hp => ?_⟩
  have hk := (w2 p hp).1
  have := r3 p hp
  exact ⟨by omega, by omega, by omega, by omega, by omega⟩


end Go.Proofs.Ytinhidddfpjjkab
