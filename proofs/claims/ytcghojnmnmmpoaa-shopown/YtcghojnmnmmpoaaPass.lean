/- How comp walks through a delta while it passes the parts of another: as plain functions: no program in it. -/
import Derived.Test.YtcghojnmnmmpoaaCompL
import Derived.Test.YtcghojnmnmmpoaaGMem
import Derived.Deep.Heap
import Derived.Lib.Strings
import Derived.Deep.AppendLies
namespace Go.Proofs.Ytcghojnmnmmpoaa
set_option linter.unusedSimpArgs false
set_option linter.unusedVariables false

def restW (ah : List Pt) (d : Nat) : List Tok := (wordL ah).drop d
def wd (p : Pt) : Nat := p.n.toNat + p.t.size
def takeP (p : Pt) (d q : Nat) : Pt := if p.k = 2 then ⟨2, 0, ⟨((p.t.data.toList.drop d).take q).toArray⟩⟩ else ⟨1, q, ByteArray.empty⟩
def nextA (p : Pt) (r : List Pt) (d q : Nat) : List Pt := if d + q = wd p then r else p :: r
def nextD (p : Pt) (d q : Nat) : Nat := if d + q = wd p then 0 else d + q
def HeadOK (ah : List Pt) (d : Nat) : Prop := d = 0 ∨ ∃ p r, ah = p :: r ∧ p.k ≠ 3 ∧ d < wd p

theorem Cmp.cuts {a b r : List Tok} (n : Nat) (h : Cmp a b r) : Cmp (List.replicate n .X ++ a) b (List.replicate n .X ++ r) := by
  induction n with
  | zero => exact h
  | succ n ih => exact .cut ih
theorem Cmp.kks {a b r : List Tok} (n : Nat) (h : Cmp a b r) : Cmp (List.replicate n .K ++ a) (List.replicate n .K ++ b) (List.replicate n .K ++ r) := by
  induction n with
  | zero => exact h
  | succ n ih => exact .kk ih
theorem Cmp.kxs {a b r : List Tok} (n : Nat) (h : Cmp a b r) : Cmp (List.replicate n .K ++ a) (List.replicate n .X ++ b) (List.replicate n .X ++ r) := by
  induction n with
  | zero => exact h
  | succ n ih => exact .kx ih
theorem Cmp.pks {a b r : List Tok} (t : List UInt8) (h : Cmp a b r) : Cmp (t.map .P ++ a) (List.replicate t.length .K ++ b) (t.map .P ++ r) := by
  induction t with
  | nil => exact h
  | cons c t ih => exact .pk c ih
theorem Cmp.pxs {a b r : List Tok} (t : List UInt8) (h : Cmp a b r) : Cmp (t.map .P ++ a) (List.replicate t.length .X ++ b) r := by
  induction t with
  | nil => exact h
  | cons c t ih => exact .px c ih
theorem Cmp.puts {a b r : List Tok} (t : List UInt8) (h : Cmp a b r) : Cmp a (t.map .P ++ b) (t.map .P ++ r) := by
  induction t with
  | nil => exact h
  | cons c t ih => exact .put c ih

theorem word_len {p : Pt} (hk : p.k ≠ 3) (h2 : p.k = 2 → p.n = 0) (h3 : p.k ≠ 2 → p.t.size = 0) (h1 : p.k = 1 ∨ p.k = 2 ∨ p.k = 3) : (wordP p).length = wd p := by
  have htl : p.t.data.toList.length = p.t.size := Array.length_toList
  unfold wordP wd
  rcases h1 with h | h | h
  · have := h3 (by omega); simp [h, this]
  · have := h2 h; simp [h, this, htl]
  · contradiction
theorem rest_head (p : Pt) (r : List Pt) (d : Nat) (h : d ≤ (wordP p).length) : restW (p :: r) d = (wordP p).drop d ++ wordL r := by
  unfold restW
  rw [wordL_cons, List.drop_append_of_le_length h]
/-- what is taken off the part ahead, and what is left -/
theorem rest_next {p : Pt} {r : List Pt} {d q : Nat} (hR : Right (p :: r)) (hk : p.k ≠ 3) (hq : d + q ≤ wd p) (hq0 : 0 < q) :
    restW (p :: r) d = wordP (takeP p d q) ++ restW (nextA p r d q) (nextD p d q) ∧ HeadOK (nextA p r d q) (nextD p d q) ∧ Right (nextA p r d q) ∧ Right [takeP p d q] ∧ (p.k = 1 → wordP (takeP p d q) = List.replicate q .K) ∧ (p.k = 2 → ∃ t : List UInt8, t.length = q ∧ wordP (takeP p d q) = t.map .P) ∧ (nextA p r d q).length ≤ r.length + 1 := by
  obtain ⟨h1, h2, h3, h4⟩ := hR p (by simp)
  have hr : Right r := fun x hx => hR x (List.mem_cons_of_mem _ hx)
  have hl := word_len hk h2 (fun e => (h3 e).1) h1
  have htl : p.t.data.toList.length = p.t.size := Array.length_toList
  have e2 : restW (nextA p r d q) (nextD p d q) = (wordP p).drop (d + q) ++ wordL r := by
    unfold nextA nextD
    split
    · rename_i e
      rw [List.drop_of_length_le (by omega)]; simp [restW]
    · rw [rest_head _ _ _ (by omega)]
  have e3 : (wordP p).drop d = wordP (takeP p d q) ++ (wordP p).drop (d + q) ∧ (p.k = 1 → wordP (takeP p d q) = List.replicate q .K) ∧ (p.k = 2 → ∃ t : List UInt8, t.length = q ∧ wordP (takeP p d q) = t.map .P) ∧ Right [takeP p d q] := by
    rcases h1 with h | h | h
    · have ht := (h3 (by omega)).1
      have hw : wordP p = List.replicate p.n.toNat .K := by simp [wordP, h]
      have hw2 : wordP (takeP p d q) = List.replicate q .K := by simp [takeP, wordP, h]
      have hwd : wd p = p.n.toNat := by simp [wd, ht]
      refine ⟨?_, fun _ => hw2, fun e => by omega, ?_⟩
      · rw [hw, hw2, List.drop_replicate, List.drop_replicate, List.replicate_append_replicate]
        congr 1; omega
      · intro x hx
        simp [takeP, h] at hx
        subst hx
        exact ⟨by simp, by simp, by simp; omega, by simp⟩
    · have hn := h2 h
      have hw : wordP p = p.t.data.toList.map .P := by simp [wordP, h]
      have hw2 : wordP (takeP p d q) = ((p.t.data.toList.drop d).take q).map .P := by simp [takeP, wordP, h]
      have hwd : wd p = p.t.size := by simp [wd, hn]
      have hl2 : ((p.t.data.toList.drop d).take q).length = q := by rw [List.length_take, List.length_drop]; omega
      refine ⟨?_, fun e => by omega, fun _ => ⟨_, hl2, hw2⟩, ?_⟩
      · rw [hw, hw2, ← List.map_drop, ← List.map_drop, ← List.map_append, ← List.drop_drop, List.take_append_drop]
      · intro x hx
        simp [takeP, h] at hx
        subst hx
        refine ⟨by simp, by simp, by simp, fun _ => ?_⟩
        show (List.toArray _).size ≠ 0
        rw [List.size_toArray, hl2]; omega
    · contradiction
  refine ⟨?_, ?_, ?_, e3.2.2.2, e3.2.1, e3.2.2.1, ?_⟩
  · rw [rest_head _ _ _ (by omega), e3.1, e2, List.append_assoc]
  · unfold nextA nextD
    split
    · exact .inl rfl
    · exact .inr ⟨p, r, rfl, hk, by omega⟩
  · unfold nextA
    split
    · exact hr
    · exact hR
  · unfold nextA
    split <;> simp

structure PInv (T : Tok) (l0 ah0 : List Pt) (d0 n : Nat) (l ah : List Pt) (d m : Nat) : Prop where
  rl : Right l
  ra : Right ah
  hd : HeadOK ah d
  mn : m ≤ n
  out : outW (restW ah d) + (n - m) = outW (restW ah0 d0)
  len : l.length + ah.length + m ≤ l0.length + ah0.length + n
  sub : ∀ p ∈ ah, p ∈ ah0
  word : ∃ W, wordL l = wordL l0 ++ W ∧ ∀ b r, Cmp (restW ah d) (List.replicate m T ++ b) r → Cmp (restW ah0 d0) (List.replicate n T ++ b) (W ++ r)
theorem PInv.start {T : Tok} {l ah : List Pt} {d n : Nat} (h1 : Right l) (h2 : Right ah) (h3 : HeadOK ah d) : PInv T l ah d n l ah d n :=
  ⟨h1, h2, h3, Nat.le_refl _, by omega, Nat.le_refl _, fun _ h => h, [], by simp, fun b r h => h⟩
theorem PInv.more {T : Tok} {l0 ah0 : List Pt} {d0 n : Nat} {l ah : List Pt} {d m : Nat} (h : PInv T l0 ah0 d0 n l ah d m) (hn : n ≤ outW (restW ah0 d0)) (hm : 0 < m) : ∃ p r, ah = p :: r ∧ (p.k = 3 → d = 0) ∧ (p.k ≠ 3 → d < wd p) ∧ (p.k = 1 ∨ p.k = 2 ∨ p.k = 3) := by
  have h1 := h.out
  have h2 := h.mn
  cases ah with
  | nil =>
    have h3 : outW (restW [] d) = 0 := by simp [restW, wordL, outW]
    omega
  | cons p r =>
    obtain ⟨k1, k2, k3, k4⟩ := h.ra p (by simp)
    refine ⟨p, r, rfl, fun e => ?_, fun e => ?_, k1⟩
    · rcases h.hd with h3 | ⟨p', r', h3, h4, h5⟩
      · exact h3
      · simp only [List.cons.injEq] at h3
        exact absurd (by rw [← h3.1]; exact e) h4
    · rcases h.hd with h3 | ⟨p', r', h3, h4, h5⟩
      · subst h3
        unfold wd
        rcases k1 with k | k | k
        · have := k3 (by omega); omega
        · have := k4 k; omega
        · contradiction
      · simp only [List.cons.injEq] at h3
        rw [h3.1]; exact h5
theorem right_snoc {l : List Pt} {p : Pt} (h : Right l) (hp : Right [p]) : Right (l ++ [p]) := fun q hq => by
  rcases List.mem_append.1 hq with h1 | h1
  · exact h q h1
  · exact hp q h1
theorem PInv.cut {T : Tok} {l0 ah0 : List Pt} {d0 n : Nat} {l r : List Pt} {p : Pt} {m : Nat} (h : PInv T l0 ah0 d0 n l (p :: r) 0 m) (hk : p.k = 3) : PInv T l0 ah0 d0 n (l ++ [p]) r 0 m := by
  obtain ⟨W, hw, hc⟩ := h.word
  have hp : wordP p = List.replicate p.n.toNat .X := by simp [wordP, hk]
  have hrest : restW (p :: r) 0 = List.replicate p.n.toNat .X ++ restW r 0 := by simp [restW, wordL_cons, hp]
  refine ⟨right_snoc h.rl (fun q hq => by simp at hq; subst hq; exact h.ra q (by simp)), fun q hq => h.ra q (List.mem_cons_of_mem _ hq), .inl rfl, h.mn, ?_, ?_, fun q hq => h.sub q (List.mem_cons_of_mem _ hq), W ++ List.replicate p.n.toNat .X, ?_, ?_⟩
  · have := h.out
    rw [hrest, (outW_rep _ _).2] at this
    exact this
  · have := h.len
    simp only [List.length_append, List.length_cons, List.length_nil] at this ⊢
    omega
  · rw [wordL_app, hw, List.append_assoc]
    congr 2
    simp [wordL, hp]
  · intro b x hx
    rw [List.append_assoc]
    exact hc b _ (by rw [hrest]; exact hx.cuts _)
theorem out_rep (n : Nat) : outW (List.replicate n .K) = n ∧ outW (List.replicate n .X) = 0 := by
  have := outW_rep n []
  simpa [outW] using this
theorem out_map (t : List UInt8) : outW (t.map .P) = t.length := by
  have := outW_map t []
  simpa [outW] using this
theorem PInv.keep {l0 ah0 : List Pt} {d0 n : Nat} {l r : List Pt} {p : Pt} {d m q : Nat} (h : PInv .K l0 ah0 d0 n l (p :: r) d m) (hk : p.k ≠ 3) (hq : d + q ≤ wd p) (hq0 : 0 < q) (hqm : q ≤ m) :
    PInv .K l0 ah0 d0 n (l ++ [takeP p d q]) (nextA p r d q) (nextD p d q) (m - q) := by
  obtain ⟨W, hw, hc⟩ := h.word
  obtain ⟨e1, e2, e3, e4, e5, e6, e7⟩ := rest_next h.ra hk hq hq0
  have hm := h.mn
  have hwo : outW (wordP (takeP p d q)) = q := by
    rcases (h.ra p (by simp)).1 with k | k | k
    · rw [e5 k, (out_rep _).1]
    · obtain ⟨t, ht, hw⟩ := e6 k; rw [hw, out_map, ht]
    · contradiction
  refine ⟨right_snoc h.rl e4, e3, e2, by omega, ?_, ?_, ?_, W ++ wordP (takeP p d q), ?_, ?_⟩
  · have := h.out
    rw [e1, outW_app, hwo] at this
    omega
  · have := h.len
    simp only [List.length_append, List.length_cons, List.length_nil] at this ⊢
    omega
  · intro x hx
    refine h.sub x ?_
    unfold nextA at hx
    split at hx
    · exact List.mem_cons_of_mem _ hx
    · exact hx
  · rw [wordL_app, hw, List.append_assoc]; simp [wordL]
  · intro b x hx
    rw [List.append_assoc]
    refine hc b _ ?_
    rw [e1, show m = q + (m - q) by omega, ← List.replicate_append_replicate, List.append_assoc]
    rcases (h.ra p (by simp)).1 with k | k | k
    · rw [e5 k]; exact hx.kks q
    · obtain ⟨t, ht, hw⟩ := e6 k
      rw [hw, ← ht]; rw [← ht] at hx; exact hx.pks t
    · contradiction
theorem PInv.drop {l0 ah0 : List Pt} {d0 n : Nat} {l r : List Pt} {p : Pt} {d m q : Nat} (h : PInv .X l0 ah0 d0 n l (p :: r) d m) (hk : p.k ≠ 3) (hq : d + q ≤ wd p) (hq0 : 0 < q) (hqm : q ≤ m) :
    PInv .X l0 ah0 d0 n (if p.k = 1 then l ++ [⟨3, q, ByteArray.empty⟩] else l) (nextA p r d q) (nextD p d q) (m - q) := by
  obtain ⟨W, hw, hc⟩ := h.word
  obtain ⟨e1, e2, e3, e4, e5, e6, e7⟩ := rest_next h.ra hk hq hq0
  have hm := h.mn
  have hwo : outW (wordP (takeP p d q)) = q := by
    rcases (h.ra p (by simp)).1 with k | k | k
    · rw [e5 k, (out_rep _).1]
    · obtain ⟨t, ht, hw⟩ := e6 k; rw [hw, out_map, ht]
    · contradiction
  have hout := h.out
  rw [e1, outW_app, hwo] at hout
  have hlen := h.len
  simp only [List.length_cons] at hlen
  have hsub : ∀ x ∈ nextA p r d q, x ∈ ah0 := by
    intro x hx
    refine h.sub x ?_
    unfold nextA at hx
    split at hx
    · exact List.mem_cons_of_mem _ hx
    · exact hx
  rcases (h.ra p (by simp)).1 with k | k | k
  · rw [if_pos k]
    refine ⟨right_snoc h.rl ?_, e3, e2, by omega, by omega, ?_, hsub, W ++ List.replicate q .X, ?_, ?_⟩
    · intro x hx
      simp at hx
      subst hx
      exact ⟨by simp, by simp, by simp; omega, by simp⟩
    · simp only [List.length_append, List.length_cons, List.length_nil]; omega
    · rw [wordL_app, hw, List.append_assoc]; simp [wordL, wordP]
    · intro b x hx
      rw [List.append_assoc]
      refine hc b _ ?_
      rw [e1, e5 k, show m = q + (m - q) by omega, ← List.replicate_append_replicate, List.append_assoc]
      exact hx.kxs q
  · rw [if_neg (by omega)]
    obtain ⟨t, ht, hwt⟩ := e6 k
    refine ⟨h.rl, e3, e2, by omega, by omega, by omega, hsub, W, hw, ?_⟩
    intro b x hx
    refine hc b _ ?_
    rw [e1, hwt, show m = t.length + (m - q) by omega, ← List.replicate_append_replicate, List.append_assoc]
    exact hx.pxs t
  · contradiction

/-- the walk through both -/
structure JInv (a b : List Pt) (k : Nat) (l ah : List Pt) (d : Nat) : Prop where
  rl : Right l
  ra : Right ah
  hd : HeadOK ah d
  out : (outW (restW ah d) : Int) = inI (b.drop k)
  len : (l.length : Int) + ah.length ≤ a.length + k + inI (b.take k)
  sub : ∀ p ∈ ah, p ∈ a
  word : ∀ r, Cmp (restW ah d) (wordL (b.drop k)) r → Cmp (wordL a) (wordL b) (wordL l ++ r)
theorem JInv.start {a b : List Pt} (h : compE a b = 0) : JInv a b 0 [] a 0 := by
  obtain ⟨h1, h2, h3⟩ := comp_zero h
  obtain ⟨ga, ca, ia, oa, la, ma⟩ := delta_facts h1
  refine ⟨by intro p hp; simp at hp, sizes_right h1, .inl rfl, ?_, by simp [inI], fun _ h => h, fun r hr => ?_⟩
  · simp only [restW, List.drop_zero]; omega
  · simpa [restW, wordL] using hr
theorem JInv.put {a b : List Pt} {k : Nat} {l ah : List Pt} {d : Nat} {p : Pt} (h : JInv a b k l ah d) (hp : b[k]? = some p) (hR : Right b) (hk : p.k = 2) : JInv a b (k + 1) (l ++ [p]) ah d := by
  have hw : wordL (b.drop k) = p.t.data.toList.map .P ++ wordL (b.drop (k + 1)) := by rw [drop_cons hp, wordL_cons]; simp [wordP, hk]
  have hpr := hR p (List.mem_of_getElem? hp)
  refine ⟨right_snoc h.rl (fun q hq => by simp at hq; subst hq; exact hpr), h.ra, h.hd, ?_, ?_, h.sub, fun r hr => ?_⟩
  · rw [h.out, drop_cons hp, inI, hpr.2.1 hk]; omega
  · have := h.len
    rw [inI_snoc hp, hpr.2.1 hk]
    simp only [List.length_append, List.length_cons, List.length_nil]
    omega
  · rw [wordL_app, List.append_assoc]
    have h1 := h.word (p.t.data.toList.map .P ++ r) (by rw [hw]; exact hr.puts _)
    rwa [show wordL [p] = p.t.data.toList.map .P by simp [wordL, wordP, hk]]
theorem JInv.pass {a b : List Pt} {k : Nat} {l ah l' ah' : List Pt} {d d' n : Nat} {p : Pt} {T : Tok} (h : JInv a b k l ah d) (hp : b[k]? = some p) (hT : wordP p = List.replicate n T) (hn : p.n = n)
    (h' : PInv T l ah d n l' ah' d' 0) : JInv a b (k + 1) l' ah' d' := by
  obtain ⟨W, hw, hc⟩ := h'.word
  have hlen := h'.len
  have hlen0 := h.len
  have hout := h'.out
  have hout0 := h.out
  rw [drop_cons hp, inI] at hout0
  refine ⟨h'.rl, h'.ra, h'.hd, by omega, ?_, fun x hx => h.sub x (h'.sub x hx), fun r hr => ?_⟩
  · rw [inI_snoc hp]; omega
  · rw [hw, List.append_assoc]
    refine h.word _ ?_
    rw [drop_cons hp, wordL_cons, hT]
    exact hc _ _ (by simpa using hr)
theorem JInv.done {a b : List Pt} {l ah : List Pt} {d : Nat} (h : JInv a b b.length l ah d) : Right (l ++ ah) ∧ Cmp (wordL a) (wordL b) (wordL (l ++ ah)) := by
  have hR : Right (l ++ ah) := fun p hp => by
    rcases List.mem_append.1 hp with h1 | h1
    · exact h.rl p h1
    · exact h.ra p h1
  have hout := h.out
  rw [List.drop_of_length_le (Nat.le_refl _)] at hout
  simp only [inI] at hout
  have hd : d = 0 := by
    rcases h.hd with h1 | ⟨p, r, rfl, hk, hlt⟩
    · exact h1
    · exfalso
      obtain ⟨k1, k2, k3, k4⟩ := h.ra p (by simp)
      have hl := word_len hk k2 (fun e => (k3 e).1) k1
      rw [rest_head _ _ _ (by omega), outW_app] at hout
      have : outW ((wordP p).drop d) ≠ 0 := by
        rcases k1 with e | e | e
        · have hw : wordP p = List.replicate p.n.toNat .K := by simp [wordP, e]
          rw [hw, List.length_replicate] at hl
          rw [hw, List.drop_replicate, (out_rep _).1]; omega
        · have hw : wordP p = p.t.data.toList.map .P := by simp [wordP, e]
          rw [hw, List.length_map] at hl
          rw [hw, ← List.map_drop, out_map, List.length_drop]; omega
        · contradiction
      omega
  subst hd
  have honly : ∀ w : List Tok, outW w = 0 → Cmp w [] w := by
    intro w hw
    induction w with
    | nil => exact .nil
    | cons t w ih =>
      cases t using Tok.by3 with
      | K => simp [outW] at hw
      | X => exact .cut (ih hw)
      | P c => simp [outW] at hw
  refine ⟨hR, ?_⟩
  rw [wordL_app]
  refine h.word _ ?_
  rw [List.drop_of_length_le (Nat.le_refl _)]
  have h0 : restW ah 0 = wordL ah := rfl
  rw [h0] at hout ⊢
  exact honly _ (by omega)

end Go.Proofs.Ytcghojnmnmmpoaa

/- What comp's walk answers as it takes the next bytes. -/
namespace Go.Proofs.Ytcghojnmnmmpoaa
open Go.RowKit
set_option linter.unusedSimpArgs false
set_option linter.unusedVariables false

/-- block R holds a walk: what is ahead lies below block B -/
structure WkAt (w : World) (B R : Nat) (ah : List Pt) (d : Nat) (a : Option Addr) (c : Nat) : Prop where
  br : B ≤ R
  cell : w.heap[R]? = some (.cells #[.slice a ah.length c, .int .i64 d] 176 (0, 0))
  parts : PartsAt w B a ah
  cap : ah.length ≤ c

theorem extract_eq (s : ByteArray) (a n : Nat) : s.extract a (a + n) = ⟨((s.data.toList.drop a).take n).toArray⟩ := by
  have h := Lib.extract_data s a (a + n)
  rw [Nat.add_sub_cancel_left] at h
  rw [← h]

theorem grown_trans {w w1 w2 : World} {row : Option Nat} (h : w.grownBy w1 row) (h' : w1.grownBy w2 row) : w.grownBy w2 row :=
  ⟨h'.os.trans h.os, h'.tape.trans h.tape, h'.output.trans h.output, Nat.le_trans h.size h'.size, fun k hk hr => (h'.block k (Nat.lt_of_lt_of_le hk h.size) hr).trans (h.block k hk hr)⟩
theorem PartsAt.tail {w : World} {B b off : Nat} {p : Pt} {r : List Pt} (h : PartsAt w B (some ⟨b, off, none⟩) (p :: r)) : PartsAt w B (some ⟨b, off + 3, none⟩) r := by
  obtain ⟨h1, h2, h3, h4⟩ := h
  refine ⟨by simp only [List.length_cons] at h1; omega, h2, fun q hq => h3 q (List.mem_cons_of_mem _ hq), fun _ => ?_⟩
  obtain ⟨b', off', e, hb, hc⟩ := h4 (by simp)
  simp only [Option.some.injEq, Addr.mk.injEq, and_true] at e
  obtain ⟨rfl, rfl⟩ := e
  refine ⟨b, off + 3, rfl, hb, fun i q hi => ?_⟩
  have := hc (i + 1) q (by simpa using hi)
  rw [show off + (i + 1) * 3 = off + 3 + i * 3 by omega] at this
  exact this
theorem parts_none {w : World} {B : Nat} {a : Option Addr} (h : B ≤ w.heap.size) : PartsAt w B a [] := ⟨by simp, h, by simp, by simp⟩
section
variable {w : World} {B R d c : Nat} {ah : List Pt} {a : Option Addr}
theorem WkAt.alloc (h : WkAt w B R ah d a c) (o : Obj) : WkAt (w.alloc o) B R ah d a c :=
  ⟨h.br, (Deep.blk_alloc_lt _ _ _ (lt_of_heap h.cell)).trans h.cell, h.parts.below ((Below.refl B w).alloc h.parts.2.1 o) (Nat.le_refl _), h.cap⟩
theorem WkAt.set1 (h : WkAt w B R ah d a c) (x : Int) (y : Nat) (hx : x = y) : WkAt (w.setCell ⟨R, 1, none⟩ (.int .i64 x)) B R ah y a c := by
  subst hx
  exact ⟨h.br, by rw [set_at h.cell]; rfl, h.parts.below ((Below.refl B w).setCell (p := ⟨R, 1, none⟩) h.br _) (Nat.le_refl _), h.cap⟩
theorem WkAt.set0 (h : WkAt w B R ah d a c) {r : List Pt} {a' : Option Addr} {c' : Nat} (hp : PartsAt w B a' r) (hc : r.length ≤ c') : WkAt (w.setCell ⟨R, 0, none⟩ (.slice a' r.length c')) B R r d a' c' :=
  ⟨h.br, by rw [set_at h.cell]; rfl, hp.below ((Below.refl B w).setCell (p := ⟨R, 0, none⟩) h.br _) (Nat.le_refl _), hc⟩
theorem nx_eq {r : List Pt} (h : WkAt w B R ah d a c) {x : Int} {y : Nat} (hx : x = y) {a' : Option Addr} {c' : Nat} (hp : PartsAt w B a' r) (hc : r.length ≤ c') (o1 o2 : Obj) :
    WkAt (((((w.setCell ⟨R, 1, none⟩ (.int .i64 x)).setCell ⟨R, 0, none⟩ (.slice a' r.length c')).setCell ⟨R, 1, none⟩ (.int .i64 0)).alloc o1).alloc o2) B R r 0 a' c' ∧
    w.grownBy (((((w.setCell ⟨R, 1, none⟩ (.int .i64 x)).setCell ⟨R, 0, none⟩ (.slice a' r.length c')).setCell ⟨R, 1, none⟩ (.int .i64 0)).alloc o1).alloc o2) (some R) := by
  have h1 := h.set1 x y hx
  have h2 := h1.set0 (hp.below ((Below.refl B w).setCell (p := ⟨R, 1, none⟩) h.br _) (Nat.le_refl _)) hc
  have h3 := h2.set1 0 0 rfl
  exact ⟨(h3.alloc o1).alloc o2, grown_trans (grown_trans (grown_trans (grown_trans (grown_set _ _ _ _) (grown_set _ _ _ _)) (grown_set _ _ _ _)) (grown_alloc _ _ _)) (grown_alloc _ _ _)⟩
theorem nx_ne (h : WkAt w B R ah d a c) {x : Int} {y : Nat} (hx : x = y) (o1 o2 : Obj) :
    WkAt (((w.setCell ⟨R, 1, none⟩ (.int .i64 x)).alloc o1).alloc o2) B R ah y a c ∧ w.grownBy (((w.setCell ⟨R, 1, none⟩ (.int .i64 x)).alloc o1).alloc o2) (some R) :=
  ⟨((h.set1 x y hx).alloc o1).alloc o2, grown_trans (grown_trans (grown_set _ _ _ _) (grown_alloc _ _ _)) (grown_alloc _ _ _)⟩
end

set_option maxHeartbeats 4000000 in
theorem nextA_any (B R : Nat) (p : Pt) (r : List Pt) (d : Nat) (a : Option Addr) (c n : Nat) (w : World) (h : WkAt w B R (p :: r) d a c) (hk : p.k = 1 ∨ p.k = 2) (hn0 : 0 ≤ p.n) (hn5 : p.n ≤ 500) (ht5 : p.t.size ≤ 500)
    (h2 : p.k = 2 → p.n = 0) (hd : d < wd p) (hn : 0 < n) (hn6 : n ≤ 500) (q : Nat) (hq : q = min n (wd p - d)) (hA : (wd p : Int) - (d : Int) < (n : Int)) :
    Calls Try.prog 141 #[.pointer (some ⟨R, 0, none⟩), .int .i64 n] w fun e w' =>
      e = .returned (.tuple #[.agg #[.int .i64 (takeP p d q).k, .int .i64 (takeP p d q).n, .string (takeP p d q).t], .int .i64 q]) ∧ ∃ a' c', WkAt w' B R (nextA p r d q) (nextD p d q) a' c' ∧ w.grownBy w' (some R) := by
  obtain ⟨b, off, rfl, hb, c1, c2, c3⟩ := h.parts.mem (i := 0) (p := p) rfl
  simp only [Nat.zero_mul, Nat.add_zero] at c1 c2 c3
  have x0 : w.cell? ⟨R, 0, none⟩ = some (.slice (some ⟨b, off, none⟩) (r.length + 1) c) := by rw [cell_of_row _ _ _ _ _ _ h.cell]; rfl
  have x1 : w.cell? ⟨R, 1, none⟩ = some (.int .i64 d) := by rw [cell_of_row _ _ _ _ _ _ h.cell]; rfl
  have f0 : ∀ o, w.frozen? ⟨R, o, none⟩ = false := fun o => frozen_of_row _ _ _ _ _ h.cell
  have hR : R < w.heap.size := lt_of_heap h.cell
  have hB := h.parts.2.1
  have hBR := h.br
  have hbR : ¬ b = R := by omega
  have hbw : b < w.heap.size := by omega
  have hw5 : wd p ≤ 1000 := by unfold wd; omega
  have hlen := h.parts.1
  have hcap := h.cap
  simp only [List.length_cons] at hlen hcap
  have H : Hid (WkAt w B R (p :: r) d (some ⟨b, off, none⟩) c) := h
  clear h
  have hmin : p.n + (p.t.size : Int) = (wd p : Int) := by unfold wd; omega
  have HPT : Hid (PartsAt w B (some ⟨b, off + 3, none⟩) r) := H.out.parts.tail
  have HX : Hid ((d : Int) + (q : Int) = ((d + q : Nat) : Int)) := by show _ = _; omega
  have hqe : (wd p : Int) - (d : Int) = (q : Int) := by omega
  have hdq : d + q = wd p := by omega
  have g1 : ((d : Int) + (q : Int) == (wd p : Int)) = true := by simp; omega
  clear hq
  have HNA : Hid (nextA p r d q = r ∧ nextD p d q = 0) := ⟨by simp [nextA, hdq], by simp [nextD, hdq]⟩
  by_cases hc : c = 1
  · have hr0 : r.length = 0 := by omega
    have HR0 : Hid (r = []) := List.length_eq_zero_iff.1 hr0
    have HP0 : Hid (PartsAt w B (some ⟨b, off, none⟩) r) := by show PartsAt _ _ _ _; rw [HR0.out]; exact parts_none hB
    have HC0 : Hid (r.length ≤ 0) := by show _ ≤ _; omega
    clear hr0
    rcases hk with hk | hk
    · have q2 : (p.k == 2) = false := by simp [hk]
      have HTK : Hid (takeP p d q = ⟨1, q, ByteArray.empty⟩) := by show _ = _; simp [takeP, hk]
      go_enter Try.func141, Try.ntmps141
      go_wp2_with fail
      refine bodyPost_ret (v := .tuple #[.agg #[.int .i64 (takeP p d q).k, .int .i64 (takeP p d q).n, .string (takeP p d q).t], .int .i64 q]) (by rw [HTK.out]; simp [results, Try.results141, go_sem]; rfl) rfl ⟨rfl, ?_⟩
      rw [HNA.out.1, HNA.out.2]
      first | exact ⟨⟨some ⟨b, off, none⟩, 0, (nx_eq (r := r) H.out HX.out HP0.out HC0.out _ _).1⟩, (nx_eq (r := r) H.out HX.out HP0.out HC0.out _ _).2⟩ | exact ⟨some ⟨b, off, none⟩, 0, nx_eq (r := r) H.out HX.out HP0.out HC0.out _ _⟩
    · have q2 : (p.k == 2) = true := by simp [hk]
      have HTK : Hid (takeP p d q = ⟨2, 0, ⟨((p.t.data.toList.drop d).take q).toArray⟩⟩) := by show _ = _; simp [takeP, hk]
      have HEX : Hid (p.t.extract d (wd p) = ⟨((p.t.data.toList.drop d).take q).toArray⟩) := by show _ = _; rw [← hdq]; exact extract_eq _ _ _
      have hpn := h2 hk
      have hts : (p.t.size : Int) = (wd p : Int) := by omega
      go_enter Try.func141, Try.ntmps141
      go_wp2_with fail
      refine bodyPost_ret (v := .tuple #[.agg #[.int .i64 (takeP p d q).k, .int .i64 (takeP p d q).n, .string (takeP p d q).t], .int .i64 q]) (by rw [HTK.out]; simp [results, Try.results141, go_sem]; exact HEX.out) rfl ⟨rfl, ?_⟩
      rw [HNA.out.1, HNA.out.2]
      first | exact ⟨⟨some ⟨b, off, none⟩, 0, (nx_eq (r := r) H.out HX.out HP0.out HC0.out _ _).1⟩, (nx_eq (r := r) H.out HX.out HP0.out HC0.out _ _).2⟩ | exact ⟨some ⟨b, off, none⟩, 0, nx_eq (r := r) H.out HX.out HP0.out HC0.out _ _⟩
  · have hc1 : 1 < c := by omega
    have HC1 : Hid (r.length ≤ c - 1) := by show _ ≤ _; omega
    rcases hk with hk | hk
    · have q2 : (p.k == 2) = false := by simp [hk]
      have HTK : Hid (takeP p d q = ⟨1, q, ByteArray.empty⟩) := by show _ = _; simp [takeP, hk]
      go_enter Try.func141, Try.ntmps141
      go_wp2_with fail
      refine bodyPost_ret (v := .tuple #[.agg #[.int .i64 (takeP p d q).k, .int .i64 (takeP p d q).n, .string (takeP p d q).t], .int .i64 q]) (by rw [HTK.out]; simp [results, Try.results141, go_sem]; rfl) rfl ⟨rfl, ?_⟩
      rw [HNA.out.1, HNA.out.2]
      first | exact ⟨⟨some ⟨b, off + 3, none⟩, c - 1, (nx_eq (r := r) H.out HX.out HPT.out HC1.out _ _).1⟩, (nx_eq (r := r) H.out HX.out HPT.out HC1.out _ _).2⟩ | exact ⟨some ⟨b, off + 3, none⟩, c - 1, nx_eq (r := r) H.out HX.out HPT.out HC1.out _ _⟩
    · have q2 : (p.k == 2) = true := by simp [hk]
      have HTK : Hid (takeP p d q = ⟨2, 0, ⟨((p.t.data.toList.drop d).take q).toArray⟩⟩) := by show _ = _; simp [takeP, hk]
      have HEX : Hid (p.t.extract d (wd p) = ⟨((p.t.data.toList.drop d).take q).toArray⟩) := by show _ = _; rw [← hdq]; exact extract_eq _ _ _
      have hpn := h2 hk
      have hts : (p.t.size : Int) = (wd p : Int) := by omega
      go_enter Try.func141, Try.ntmps141
      go_wp2_with fail
      refine bodyPost_ret (v := .tuple #[.agg #[.int .i64 (takeP p d q).k, .int .i64 (takeP p d q).n, .string (takeP p d q).t], .int .i64 q]) (by rw [HTK.out]; simp [results, Try.results141, go_sem]; exact HEX.out) rfl ⟨rfl, ?_⟩
      rw [HNA.out.1, HNA.out.2]
      first | exact ⟨⟨some ⟨b, off + 3, none⟩, c - 1, (nx_eq (r := r) H.out HX.out HPT.out HC1.out _ _).1⟩, (nx_eq (r := r) H.out HX.out HPT.out HC1.out _ _).2⟩ | exact ⟨some ⟨b, off + 3, none⟩, c - 1, nx_eq (r := r) H.out HX.out HPT.out HC1.out _ _⟩

end Go.Proofs.Ytcghojnmnmmpoaa

/- The next bytes, where they end the part ahead. -/
namespace Go.Proofs.Ytcghojnmnmmpoaa
open Go.RowKit
set_option linter.unusedSimpArgs false
set_option linter.unusedVariables false

set_option maxHeartbeats 4000000 in
theorem nextE_any (B R : Nat) (p : Pt) (r : List Pt) (d : Nat) (a : Option Addr) (c n : Nat) (w : World) (h : WkAt w B R (p :: r) d a c) (hk : p.k = 1 ∨ p.k = 2) (hn0 : 0 ≤ p.n) (hn5 : p.n ≤ 500) (ht5 : p.t.size ≤ 500)
    (h2 : p.k = 2 → p.n = 0) (hd : d < wd p) (hn : 0 < n) (hn6 : n ≤ 500) (q : Nat) (hq : q = min n (wd p - d)) (hA : ¬ (wd p : Int) - (d : Int) < (n : Int)) (hdq : d + q = wd p) :
    Calls Try.prog 141 #[.pointer (some ⟨R, 0, none⟩), .int .i64 n] w fun e w' =>
      e = .returned (.tuple #[.agg #[.int .i64 (takeP p d q).k, .int .i64 (takeP p d q).n, .string (takeP p d q).t], .int .i64 q]) ∧ ∃ a' c', WkAt w' B R (nextA p r d q) (nextD p d q) a' c' ∧ w.grownBy w' (some R) := by
  obtain ⟨b, off, rfl, hb, c1, c2, c3⟩ := h.parts.mem (i := 0) (p := p) rfl
  simp only [Nat.zero_mul, Nat.add_zero] at c1 c2 c3
  have x0 : w.cell? ⟨R, 0, none⟩ = some (.slice (some ⟨b, off, none⟩) (r.length + 1) c) := by rw [cell_of_row _ _ _ _ _ _ h.cell]; rfl
  have x1 : w.cell? ⟨R, 1, none⟩ = some (.int .i64 d) := by rw [cell_of_row _ _ _ _ _ _ h.cell]; rfl
  have f0 : ∀ o, w.frozen? ⟨R, o, none⟩ = false := fun o => frozen_of_row _ _ _ _ _ h.cell
  have hR : R < w.heap.size := lt_of_heap h.cell
  have hB := h.parts.2.1
  have hBR := h.br
  have hbR : ¬ b = R := by omega
  have hbw : b < w.heap.size := by omega
  have hw5 : wd p ≤ 1000 := by unfold wd; omega
  have hlen := h.parts.1
  have hcap := h.cap
  simp only [List.length_cons] at hlen hcap
  have H : Hid (WkAt w B R (p :: r) d (some ⟨b, off, none⟩) c) := h
  clear h
  have hmin : p.n + (p.t.size : Int) = (wd p : Int) := by unfold wd; omega
  have HPT : Hid (PartsAt w B (some ⟨b, off + 3, none⟩) r) := H.out.parts.tail
  have HX : Hid ((d : Int) + (q : Int) = ((d + q : Nat) : Int)) := by show _ = _; omega
  have hqe : q = n := by omega
  subst hqe
  clear hq
  have g1 : ((d : Int) + (q : Int) == (wd p : Int)) = true := by simp; omega
  have HNA : Hid (nextA p r d q = r ∧ nextD p d q = 0) := ⟨by simp [nextA, hdq], by simp [nextD, hdq]⟩
  by_cases hc : c = 1
  · have hr0 : r.length = 0 := by omega
    have HR0 : Hid (r = []) := List.length_eq_zero_iff.1 hr0
    have HP0 : Hid (PartsAt w B (some ⟨b, off, none⟩) r) := by show PartsAt _ _ _ _; rw [HR0.out]; exact parts_none hB
    have HC0 : Hid (r.length ≤ 0) := by show _ ≤ _; omega
    clear hr0
    rcases hk with hk | hk
    · have q2 : (p.k == 2) = false := by simp [hk]
      have HTK : Hid (takeP p d q = ⟨1, q, ByteArray.empty⟩) := by show _ = _; simp [takeP, hk]
      go_enter Try.func141, Try.ntmps141
      go_wp2_with fail
      refine bodyPost_ret (v := .tuple #[.agg #[.int .i64 (takeP p d q).k, .int .i64 (takeP p d q).n, .string (takeP p d q).t], .int .i64 q]) (by rw [HTK.out]; simp [results, Try.results141, go_sem]; rfl) rfl ⟨rfl, ?_⟩
      rw [HNA.out.1, HNA.out.2]
      first | exact ⟨⟨some ⟨b, off, none⟩, 0, (nx_eq (r := r) H.out HX.out HP0.out HC0.out _ _).1⟩, (nx_eq (r := r) H.out HX.out HP0.out HC0.out _ _).2⟩ | exact ⟨some ⟨b, off, none⟩, 0, nx_eq (r := r) H.out HX.out HP0.out HC0.out _ _⟩
    · have q2 : (p.k == 2) = true := by simp [hk]
      have HTK : Hid (takeP p d q = ⟨2, 0, ⟨((p.t.data.toList.drop d).take q).toArray⟩⟩) := by show _ = _; simp [takeP, hk]
      have HEX : Hid (p.t.extract d (wd p) = ⟨((p.t.data.toList.drop d).take q).toArray⟩) := by show _ = _; rw [← hdq]; exact extract_eq _ _ _
      have hpn := h2 hk
      have hts : (p.t.size : Int) = (wd p : Int) := by omega
      go_enter Try.func141, Try.ntmps141
      go_wp2_with fail
      refine bodyPost_ret (v := .tuple #[.agg #[.int .i64 (takeP p d q).k, .int .i64 (takeP p d q).n, .string (takeP p d q).t], .int .i64 q]) (by rw [HTK.out]; simp [results, Try.results141, go_sem]; exact HEX.out) rfl ⟨rfl, ?_⟩
      rw [HNA.out.1, HNA.out.2]
      first | exact ⟨⟨some ⟨b, off, none⟩, 0, (nx_eq (r := r) H.out HX.out HP0.out HC0.out _ _).1⟩, (nx_eq (r := r) H.out HX.out HP0.out HC0.out _ _).2⟩ | exact ⟨some ⟨b, off, none⟩, 0, nx_eq (r := r) H.out HX.out HP0.out HC0.out _ _⟩
  · have hc1 : 1 < c := by omega
    have HC1 : Hid (r.length ≤ c - 1) := by show _ ≤ _; omega
    rcases hk with hk | hk
    · have q2 : (p.k == 2) = false := by simp [hk]
      have HTK : Hid (takeP p d q = ⟨1, q, ByteArray.empty⟩) := by show _ = _; simp [takeP, hk]
      go_enter Try.func141, Try.ntmps141
      go_wp2_with fail
      refine bodyPost_ret (v := .tuple #[.agg #[.int .i64 (takeP p d q).k, .int .i64 (takeP p d q).n, .string (takeP p d q).t], .int .i64 q]) (by rw [HTK.out]; simp [results, Try.results141, go_sem]; rfl) rfl ⟨rfl, ?_⟩
      rw [HNA.out.1, HNA.out.2]
      first | exact ⟨⟨some ⟨b, off + 3, none⟩, c - 1, (nx_eq (r := r) H.out HX.out HPT.out HC1.out _ _).1⟩, (nx_eq (r := r) H.out HX.out HPT.out HC1.out _ _).2⟩ | exact ⟨some ⟨b, off + 3, none⟩, c - 1, nx_eq (r := r) H.out HX.out HPT.out HC1.out _ _⟩
    · have q2 : (p.k == 2) = true := by simp [hk]
      have HTK : Hid (takeP p d q = ⟨2, 0, ⟨((p.t.data.toList.drop d).take q).toArray⟩⟩) := by show _ = _; simp [takeP, hk]
      have HEX : Hid (p.t.extract d (wd p) = ⟨((p.t.data.toList.drop d).take q).toArray⟩) := by show _ = _; rw [← hdq]; exact extract_eq _ _ _
      have hpn := h2 hk
      have hts : (p.t.size : Int) = (wd p : Int) := by omega
      go_enter Try.func141, Try.ntmps141
      go_wp2_with fail
      refine bodyPost_ret (v := .tuple #[.agg #[.int .i64 (takeP p d q).k, .int .i64 (takeP p d q).n, .string (takeP p d q).t], .int .i64 q]) (by rw [HTK.out]; simp [results, Try.results141, go_sem]; exact HEX.out) rfl ⟨rfl, ?_⟩
      rw [HNA.out.1, HNA.out.2]
      first | exact ⟨⟨some ⟨b, off + 3, none⟩, c - 1, (nx_eq (r := r) H.out HX.out HPT.out HC1.out _ _).1⟩, (nx_eq (r := r) H.out HX.out HPT.out HC1.out _ _).2⟩ | exact ⟨some ⟨b, off + 3, none⟩, c - 1, nx_eq (r := r) H.out HX.out HPT.out HC1.out _ _⟩

end Go.Proofs.Ytcghojnmnmmpoaa

/- The next bytes, where they do not end the part ahead. -/
namespace Go.Proofs.Ytcghojnmnmmpoaa
open Go.RowKit
set_option linter.unusedSimpArgs false
set_option linter.unusedVariables false

set_option maxHeartbeats 4000000 in
theorem nextN_any (B R : Nat) (p : Pt) (r : List Pt) (d : Nat) (a : Option Addr) (c n : Nat) (w : World) (h : WkAt w B R (p :: r) d a c) (hk : p.k = 1 ∨ p.k = 2) (hn0 : 0 ≤ p.n) (hn5 : p.n ≤ 500) (ht5 : p.t.size ≤ 500)
    (h2 : p.k = 2 → p.n = 0) (hd : d < wd p) (hn : 0 < n) (hn6 : n ≤ 500) (q : Nat) (hq : q = min n (wd p - d)) (hA : ¬ (wd p : Int) - (d : Int) < (n : Int)) (hdq : ¬ d + q = wd p) :
    Calls Try.prog 141 #[.pointer (some ⟨R, 0, none⟩), .int .i64 n] w fun e w' =>
      e = .returned (.tuple #[.agg #[.int .i64 (takeP p d q).k, .int .i64 (takeP p d q).n, .string (takeP p d q).t], .int .i64 q]) ∧ ∃ a' c', WkAt w' B R (nextA p r d q) (nextD p d q) a' c' ∧ w.grownBy w' (some R) := by
  obtain ⟨b, off, rfl, hb, c1, c2, c3⟩ := h.parts.mem (i := 0) (p := p) rfl
  simp only [Nat.zero_mul, Nat.add_zero] at c1 c2 c3
  have x0 : w.cell? ⟨R, 0, none⟩ = some (.slice (some ⟨b, off, none⟩) (r.length + 1) c) := by rw [cell_of_row _ _ _ _ _ _ h.cell]; rfl
  have x1 : w.cell? ⟨R, 1, none⟩ = some (.int .i64 d) := by rw [cell_of_row _ _ _ _ _ _ h.cell]; rfl
  have f0 : ∀ o, w.frozen? ⟨R, o, none⟩ = false := fun o => frozen_of_row _ _ _ _ _ h.cell
  have hR : R < w.heap.size := lt_of_heap h.cell
  have hB := h.parts.2.1
  have hBR := h.br
  have hbR : ¬ b = R := by omega
  have hbw : b < w.heap.size := by omega
  have hw5 : wd p ≤ 1000 := by unfold wd; omega
  have hlen := h.parts.1
  have hcap := h.cap
  simp only [List.length_cons] at hlen hcap
  have H : Hid (WkAt w B R (p :: r) d (some ⟨b, off, none⟩) c) := h
  clear h
  have hmin : p.n + (p.t.size : Int) = (wd p : Int) := by unfold wd; omega
  have HPT : Hid (PartsAt w B (some ⟨b, off + 3, none⟩) r) := H.out.parts.tail
  have HX : Hid ((d : Int) + (q : Int) = ((d + q : Nat) : Int)) := by show _ = _; omega
  have hqe : q = n := by omega
  subst hqe
  clear hq
  have g1 : ((d : Int) + (q : Int) == (wd p : Int)) = false := by simp; omega
  have HNA : Hid (nextA p r d q = p :: r ∧ nextD p d q = d + q) := ⟨by simp [nextA, hdq], by simp [nextD, hdq]⟩
  rcases hk with hk | hk
  · have q2 : (p.k == 2) = false := by simp [hk]
    have HTK : Hid (takeP p d q = ⟨1, q, ByteArray.empty⟩) := by show _ = _; simp [takeP, hk]
    go_enter Try.func141, Try.ntmps141
    go_wp2_with fail
    refine bodyPost_ret (v := .tuple #[.agg #[.int .i64 (takeP p d q).k, .int .i64 (takeP p d q).n, .string (takeP p d q).t], .int .i64 q]) (by rw [HTK.out]; simp [results, Try.results141, go_sem]; rfl) rfl ⟨rfl, ?_⟩
    rw [HNA.out.1, HNA.out.2]
    first | exact ⟨⟨some ⟨b, off, none⟩, c, (nx_ne H.out HX.out _ _).1⟩, (nx_ne H.out HX.out _ _).2⟩ | exact ⟨some ⟨b, off, none⟩, c, nx_ne H.out HX.out _ _⟩
  · have q2 : (p.k == 2) = true := by simp [hk]
    have HTK : Hid (takeP p d q = ⟨2, 0, ⟨((p.t.data.toList.drop d).take q).toArray⟩⟩) := by show _ = _; simp [takeP, hk]
    have HEX : Hid (p.t.extract d ((d + q)) = ⟨((p.t.data.toList.drop d).take q).toArray⟩) := by show _ = _; exact extract_eq _ _ _
    have hpn := h2 hk
    have hts : (p.t.size : Int) = (wd p : Int) := by omega
    go_enter Try.func141, Try.ntmps141
    go_wp2_with fail
    refine bodyPost_ret (v := .tuple #[.agg #[.int .i64 (takeP p d q).k, .int .i64 (takeP p d q).n, .string (takeP p d q).t], .int .i64 q]) (by rw [HTK.out]; simp [results, Try.results141, go_sem]; exact HEX.out) rfl ⟨rfl, ?_⟩
    rw [HNA.out.1, HNA.out.2]
    first | exact ⟨⟨some ⟨b, off, none⟩, c, (nx_ne H.out HX.out _ _).1⟩, (nx_ne H.out HX.out _ _).2⟩ | exact ⟨some ⟨b, off, none⟩, c, nx_ne H.out HX.out _ _⟩

end Go.Proofs.Ytcghojnmnmmpoaa

/- What comp's walk answers as it passes a part. -/
namespace Go.Proofs.Ytcghojnmnmmpoaa
open Go.RowKit
set_option linter.unusedSimpArgs false
set_option linter.unusedVariables false

theorem next_any (B R : Nat) (p : Pt) (r : List Pt) (d : Nat) (a : Option Addr) (c n : Nat) (w : World) (h : WkAt w B R (p :: r) d a c) (hk : p.k = 1 ∨ p.k = 2) (hn0 : 0 ≤ p.n) (hn5 : p.n ≤ 500) (ht5 : p.t.size ≤ 500)
    (h2 : p.k = 2 → p.n = 0) (hd : d < wd p) (hn : 0 < n) (hn6 : n ≤ 500) (q : Nat) (hq : q = min n (wd p - d)) :
    Calls Try.prog 141 #[.pointer (some ⟨R, 0, none⟩), .int .i64 n] w fun e w' =>
      e = .returned (.tuple #[.agg #[.int .i64 (takeP p d q).k, .int .i64 (takeP p d q).n, .string (takeP p d q).t], .int .i64 q]) ∧ ∃ a' c', WkAt w' B R (nextA p r d q) (nextD p d q) a' c' ∧ w.grownBy w' (some R) := by
  by_cases hA : (wd p : Int) - (d : Int) < (n : Int)
  · exact nextA_any B R p r d a c n w h hk hn0 hn5 ht5 h2 hd hn hn6 q hq hA
  · by_cases hdq : d + q = wd p
    · exact nextE_any B R p r d a c n w h hk hn0 hn5 ht5 h2 hd hn hn6 q hq hA hdq
    · exact nextN_any B R p r d a c n w h hk hn0 hn5 ht5 h2 hd hn hn6 q hq hA hdq

theorem or_at {A : Prop} {g h k : Nat} (hat : A ∨ g = h) (e : h = k) : A ∨ g = k := by
  rcases hat with h1 | h1
  · exact .inl h1
  · exact .inr (h1.trans e)
theorem WkAt.grow {w w' : World} {B R d c : Nat} {ah : List Pt} {a : Option Addr} {row : Option Nat} (h : WkAt w B R ah d a c) (hg : w.grownBy w' row) (hr : row ≠ some R) (hb : ∀ k, row = some k → B ≤ k) : WkAt w' B R ah d a c :=
  ⟨h.br, (hg.block R (lt_of_heap h.cell) (Ne.symm hr)).trans h.cell, h.parts.below ((Below.refl B w).grown hg h.parts.2.1 hb) (Nat.le_refl _), h.cap⟩
theorem takeP_k {p : Pt} {d q : Nat} (h : p.k = 1 ∨ p.k = 2) : (takeP p d q).k = p.k := by
  unfold takeP
  rcases h with h | h <;> simp [h]

def aheadLen (w : World) (R : Nat) : Nat := match w.heap[R]? with
  | some (.cells cs _ _) => (match cs[0]? with
    | some (Value.slice _ n _) => n
    | _ => 0)
  | _ => 0
theorem WkAt.len {w : World} {B R d c : Nat} {ah : List Pt} {a : Option Addr} (h : WkAt w B R ah d a c) : aheadLen w R = ah.length := by
  unfold aheadLen; rw [h.cell]; rfl

/-- what the loop of pass has -/
structure LAt (w : World) (B R X : Nat) (l ah : List Pt) (d : Nat) (ao : Option Addr) (ca : Nat) (a : Option Addr) (c : Nat) (box : Obj) : Prop where
  wk : WkAt w B R ah d a c
  own : w.ownsRow B 45 3 (.slice ao l.length ca) l.length (allCells l)
  box : w.heap[X]? = some box
  ne : (Value.slice ao l.length ca).ownBlock ≠ some X
section
variable {w : World} {B R X d ca c : Nat} {l ah : List Pt} {ao a : Option Addr} {box : Obj}
theorem LAt.row (h : LAt w B R X l ah d ao ca a c box) : (Value.slice ao l.length ca).ownBlock ≠ some R := own_ne' h.own h.wk.cell (by decide)
theorem LAt.alloc (h : LAt w B R X l ah d ao ca a c box) (o : Obj) : LAt (w.alloc o) B R X l ah d ao ca a c box :=
  ⟨h.wk.alloc o, own_alloc h.own o, (Deep.blk_alloc_lt _ _ _ (lt_of_heap h.box)).trans h.box, h.ne⟩
/-- behind an append -/
theorem LAt.append {w' : World} {p : Pt} {g cap : Nat} (h : LAt w B R X l ah d ao ca a c box) (hg : w.grownBy w' (Value.slice ao l.length ca).ownBlock)
    (ho : w'.ownsRow B 45 3 (.slice (some ⟨g, 0, none⟩) (l.length + 1) cap) (l.length + 1) (allCells l ++ [.int .i64 p.k, .int .i64 p.n, .string p.t])) (hat : (Value.slice ao l.length ca).ownBlock = some g ∨ g = w.heap.size) :
    LAt w' B R X (l ++ [p]) ah d (some ⟨g, 0, none⟩) cap a c box := by
  have hX := lt_of_heap h.box
  have hl : (l ++ [p]).length = l.length + 1 := by simp
  refine ⟨h.wk.grow hg h.row (fun k hk => (h.own.lt k hk).1), ?_, (hg.block X hX (Ne.symm h.ne)).trans h.box, ?_⟩
  · rw [hl, allCells_append]; exact ho
  · rw [hl]
    show some g ≠ some X
    intro e
    simp only [Option.some.injEq] at e
    subst e
    rcases hat with h1 | h1
    · exact h.ne h1
    · omega
/-- behind a turn of the walk alone -/
theorem LAt.walk {w' : World} {ah' : List Pt} {d' : Nat} {a' : Option Addr} {c' : Nat} (h : LAt w B R X l ah d ao ca a c box) (hXR : X ≠ R) (hg : w.grownBy w' (some R)) (hw : WkAt w' B R ah' d' a' c') : LAt w' B R X l ah' d' ao ca a' c' box :=
  ⟨hw, h.own.kept hg (.inr h.row), (hg.block X (lt_of_heap h.box) (by simpa using hXR)).trans h.box, h.ne⟩
theorem LAt.below {w0 w' : World} (h : LAt w B R X l ah d ao ca a c box) (hb : Below B w0 w) (hg : w.grownBy w' (Value.slice ao l.length ca).ownBlock) : Below B w0 w' :=
  below_own' hb h.own hg h.wk.parts.2.1
theorem LAt.below2 {w0 w' : World} (h : LAt w B R X l ah d ao ca a c box) (hb : Below B w0 w) (hg : w.grownBy w' (some R)) : Below B w0 w' :=
  hb.grown hg h.wk.parts.2.1 (fun k hk => by simp only [Option.some.injEq] at hk; subst hk; exact h.wk.br)
end

set_option maxHeartbeats 8000000 in
theorem pass_any (B R : Nat) (l ah : List Pt) (d : Nat) (ao : Option Addr) (ca : Nat) (a : Option Addr) (c : Nat) (k : Int) (n : Nat) (t : ByteArray) (T : Tok) (w : World)
    (hW : WkAt w B R ah d a c) (hown : w.ownsRow B 45 3 (.slice ao l.length ca) l.length (allCells l)) (hkT : (k = 1 ∧ T = .K) ∨ (k = 3 ∧ T = .X)) (hn5 : n ≤ 500)
    (hRl : Right l) (hRa : Right ah) (hH : HeadOK ah d) (hout : n ≤ outW (restW ah d)) (hlen : l.length + ah.length ≤ 100000) (hsm : ∀ q ∈ ah, 0 ≤ q.n ∧ q.n ≤ 500 ∧ q.t.size ≤ 500) :
    Calls Try.prog 118 #[.pointer (some ⟨R, 0, none⟩), .slice ao l.length ca, .agg #[.int .i64 k, .int .i64 n, .string t]] w fun e w' =>
      ∃ ao' ca' l' ah' d' a' c', e = .returned (.slice ao' (List.length l') ca') ∧ WkAt w' B R ah' d' a' c' ∧ w'.ownsRow B 45 3 (.slice ao' l'.length ca') l'.length (allCells l') ∧ PInv T l ah d n l' ah' d' 0 ∧ Below B w w' := by
  obtain ⟨ip, hip, hp0, hp1, hp2⟩ := info_parts infoPart
  have hR : R < w.heap.size := lt_of_heap hW.cell
  have hBR := hW.br
  have HS : Hid (LAt (w.alloc (.cells #[.int .i64 k, .int .i64 n, .string t] 45)) B R w.heap.size l ah d ao ca a c (.cells #[.int .i64 k, .int .i64 n, .string t] 45 (0, 0))) :=
    ⟨hW.alloc _, own_alloc hown _, Deep.blk_alloc_new _ _, fun e => by have := (hown.lt _ e).2; omega⟩
  have HP0 : Hid (PInv T l ah d n l ah d n) := PInv.start hRl hRa hH
  have HSM : Hid (∀ q ∈ ah, 0 ≤ q.n ∧ q.n ≤ 500 ∧ q.t.size ≤ 500) := hsm
  have HB0 : Hid (Below B w (w.alloc (.cells #[.int .i64 k, .int .i64 n, .string t] 45))) := (Below.refl B w).alloc hW.parts.2.1 _
  have HOUT : Hid (n ≤ outW (restW ah d)) := hout
  have hB := hW.parts.2.1
  clear hW hown hRl hRa hH hsm hout
  go_enter Try.func118, Try.ntmps118
  go_wp2_with fail
  go_loopw [1, 7] (fun v lf wr => ∃ (m : Nat) (l' ah' : List Pt) (d' : Nat) (ao' : Option Addr) (ca' : Nat) (a' : Option Addr) (c' : Nat), lf = .int .i64 m ∧ v = .slice ao' l'.length ca' ∧
      LAt wr B R w.heap.size l' ah' d' ao' ca' a' c' (.cells #[.int .i64 k, .int .i64 n, .string t] 45 (0, 0)) ∧ PInv T l ah d n l' ah' d' m ∧ Below B w wr) (fun _ lf wr => (intOf lf).toNat + aheadLen wr R)
  case atStart => exact ⟨n, l, ah, d, ao, ca, a, c, rfl, rfl, HS.out, HP0.out, HB0.out⟩
  case round =>
    obtain ⟨m, l', ah', d', ao', ca', a', c', rfl, rfl, hL, hP, hb⟩ := hrel
    have hz := hb.size
    by_cases hm : 0 < m
    · obtain ⟨p, r, rfl, hp3, hpn, hpk⟩ := hP.more HOUT.out hm
      obtain ⟨pb1, pb2, pb3⟩ := HSM.out p (hP.sub p (by simp))
      have hmn := hP.mn
      have hll := hP.len
      simp only [List.length_cons] at hll
      obtain ⟨b, off, rfl, hbB, c1, c2, c3⟩ := hL.wk.parts.mem (i := 0) (p := p) rfl
      simp only [Nat.zero_mul, Nat.add_zero] at c1 c2 c3
      have x0 : wr.cell? ⟨R, 0, none⟩ = some (.slice (some ⟨b, off, none⟩) (r.length + 1) c') := by rw [cell_of_row _ _ _ _ _ _ hL.wk.cell]; rfl
      have hBw := hL.wk.parts.2.1
      have hcap := hL.wk.cap
      simp only [List.length_cons] at hcap
      have HP : Hid (PInv T l ah d n l' (p :: r) d' m) := hP
      have HB : Hid (Below B w wr) := hb
      have HAL : Hid (aheadLen wr R = r.length + 1) := hL.wk.len
      by_cases hk3 : p.k = 3
      · have q3 : (p.k == 3) = true := by simp [hk3]
        have hd0 := hp3 hk3
        subst hd0
        have HL1 : Hid (LAt (wr.alloc (.cells #[.int .i64 p.k, .int .i64 p.n, .string p.t] 45)) B R w.heap.size l' (p :: r) 0 ao' ca' (some ⟨b, off, none⟩) c' (.cells #[.int .i64 k, .int .i64 n, .string t] 45 (0, 0))) := hL.alloc _
        have hAs := HL1.out.own
        have HPC : Hid (PInv T l ah d n (l' ++ [p]) r 0 m) := hP.cut hk3
        clear hL hP hb hk3 hp3 hpn hpk
        go_wp2_with (at_builtin; refine wpList_append_lies _ rfl _ _ 25 rfl B 45 ip _ 3 32 Try.underlying25 hip hp0 hp1 hp2 rfl (by decide) _ _ _ rfl hAs ⟨wr.heap.size, 0, none⟩ 1 1 [.int .i64 p.k, .int .i64 p.n, .string p.t] rfl rfl (World.news_of_block (cs := #[.int .i64 p.k, .int .i64 p.n, .string p.t]) (t := 45) (fr := (0, 0)) (heap_alloc_new wr _)) (by simp [Value.oneCell']) (by decide) ?c3 ?c4 ?c5 _ rfl ?_)
        case c3 => unfold maxLen; omega
        case c4 => omega
        case c5 => first | omega | (simp; omega)
        intro g cap1 w2 hown2 hgrow hat hlt
        have hL2 := HL1.out.append (p := p) hgrow hown2 (or_at hat (by simp))
        have HB2 : Hid (Below B w w2) := HL1.out.below (HB.out.alloc hBw _) hgrow
        have y0 : w2.cell? ⟨R, 0, none⟩ = some (.slice (some ⟨b, off, none⟩) (r.length + 1) c') := by rw [cell_of_row _ _ _ _ _ _ hL2.wk.cell]; rfl
        have yf : ∀ o, w2.frozen? ⟨R, o, none⟩ = false := fun o => frozen_of_row _ _ _ _ _ hL2.wk.cell
        have hR2 : R < w2.heap.size := lt_of_heap hL2.wk.cell
        have HL2 : Hid (LAt w2 B R w.heap.size (l' ++ [p]) (p :: r) 0 (some ⟨g, 0, none⟩) cap1 (some ⟨b, off, none⟩) c' (.cells #[.int .i64 k, .int .i64 n, .string t] 45 (0, 0))) := hL2
        have HXR : Hid (w.heap.size ≠ R) := by show _ ≠ _; omega
        clear hown2 hgrow hat hlt hL2 hAs x0 c1 c2 c3 HL1
        by_cases hc : c' = 1
        · have HW3 : Hid (WkAt (w2.setCell ⟨R, 0, none⟩ (.slice (some ⟨b, off, none⟩) r.length 0)) B R r 0 (some ⟨b, off, none⟩) 0) := by
            have hr0 : r = [] := List.length_eq_zero_iff.1 (by omega)
            have h := HL2.out.wk.set0 (r := r) (a' := some ⟨b, off, none⟩) (c' := 0) (by rw [hr0]; exact parts_none HL2.out.wk.parts.2.1) (by rw [hr0]; simp)
            exact h
          go_wp2_with fail
          go_roundw
          case rel => exact ⟨m, l' ++ [p], r, 0, some ⟨g, 0, none⟩, cap1, some ⟨b, off, none⟩, 0, rfl, by simp, HL2.out.walk HXR.out (grown_set _ _ _ _) HW3.out, HPC.out, HB2.out.setCell (p := ⟨R, 0, none⟩) hBR _⟩
          case measure => have h1 := HAL.out; have h2 := HW3.out.len; simp [intOf]; omega
        · have hc1 : 1 < c' := by omega
          have HW3 : Hid (WkAt (w2.setCell ⟨R, 0, none⟩ (.slice (some ⟨b, off + 3, none⟩) r.length (c' - 1))) B R r 0 (some ⟨b, off + 3, none⟩) (c' - 1)) := HL2.out.wk.set0 (r := r) HL2.out.wk.parts.tail (by omega)
          go_wp2_with fail
          go_roundw
          case rel => exact ⟨m, l' ++ [p], r, 0, some ⟨g, 0, none⟩, cap1, some ⟨b, off + 3, none⟩, c' - 1, rfl, by simp, HL2.out.walk HXR.out (grown_set _ _ _ _) HW3.out, HPC.out, HB2.out.setCell (p := ⟨R, 0, none⟩) hBR _⟩
          case measure => have h1 := HAL.out; have h2 := HW3.out.len; simp [intOf]; omega
      · have q3 : (p.k == 3) = false := by simp [hk3]
        have hk12 : p.k = 1 ∨ p.k = 2 := by omega
        have hdw := hpn hk3
        have h2n := (hP.ra p (by simp)).2.1
        obtain ⟨q, hq⟩ : ∃ q, q = min m (wd p - d') := ⟨_, rfl⟩
        have hq1 : d' + q ≤ wd p := by omega
        have hq0 : 0 < q := by omega
        have hqm : q ≤ m := by omega
        have HQ : Hid (q = min m (wd p - d')) := hq
        have HK12 : Hid (p.k = 1 ∨ p.k = 2) := hk12
        have H2N : Hid (p.k = 2 → p.n = 0) := h2n
        have hm5 : m ≤ 500 := by omega
        have HL : Hid (LAt wr B R w.heap.size l' (p :: r) d' ao' ca' (some ⟨b, off, none⟩) c' (.cells #[.int .i64 k, .int .i64 n, .string t] 45 (0, 0))) := hL
        have HK3 : Hid (¬ p.k = 3) := hk3
        clear hL hP hb hk3 hp3 hpn hpk hq hk12 h2n
        go_wp2_with fail
        refine (next_any B R p r d' (some ⟨b, off, none⟩) c' m wr HL.out.wk HK12.out pb1 pb2 pb3 H2N.out hdw hm hm5 q HQ.out).mono ?_
        rintro e w2 ⟨rfl, a2, c2', hW2, hg2⟩
        have hXR : w.heap.size ≠ R := by omega
        have hL2 := HL.out.walk hXR hg2 hW2
        have HB2 : Hid (Below B w w2) := HL.out.below2 HB.out hg2
        have hz2 := HB2.out.size
        have b0 : w2.cell? ⟨w.heap.size, 0, none⟩ = some (.int .i64 k) := by rw [cell_of_row _ _ _ _ _ _ hL2.box]; rfl
        have hX2 : w.heap.size < w2.heap.size := lt_of_heap hL2.box
        have htk := takeP_k (d := d') (q := q) HK12.out
        have HAL2 : Hid (aheadLen w2 R ≤ r.length + 1) := by
          show _ ≤ _
          rw [hW2.len]; unfold nextA; split <;> simp
        obtain ⟨P0, HP0'⟩ : ∃ P0, Hid (takeP p d' q = P0) := ⟨_, rfl⟩
        rw [HP0'.out] at htk ⊢
        have HL2 : Hid (LAt w2 B R w.heap.size l' (nextA p r d' q) (nextD p d' q) ao' ca' a2 c2' (.cells #[.int .i64 k, .int .i64 n, .string t] 45 (0, 0))) := hL2
        have HMQ : Hid ((m : Int) - (q : Int) = ((m - q : Nat) : Int)) := by show _ = _; omega
        clear hL2 hW2 hg2 x0 c1 c2 c3 HL
        rcases hkT with ⟨hk1, hT⟩ | ⟨hk1, hT⟩
        · have q1 : (k == 1) = true := by simp [hk1]
          subst hT
          have HPC : Hid (PInv .K l ah d n (l' ++ [P0]) (nextA p r d' q) (nextD p d' q) (m - q)) := by have h := HP.out.keep HK3.out hq1 hq0 hqm; rw [HP0'.out] at h; exact h
          have HL3 : Hid (LAt ((w2.alloc (.cells #[.int .i64 P0.k, .int .i64 P0.n, .string P0.t] 45)).alloc (.cells #[.int .i64 P0.k, .int .i64 P0.n, .string P0.t] 45)) B R w.heap.size l' (nextA p r d' q) (nextD p d' q) ao' ca' a2 c2' (.cells #[.int .i64 k, .int .i64 n, .string t] 45 (0, 0))) := (HL2.out.alloc _).alloc _
          have hAs := HL3.out.own
          clear hk1 htk
          go_wp2_with (at_builtin; refine wpList_append_lies _ rfl _ _ 25 rfl B 45 ip _ 3 32 Try.underlying25 hip hp0 hp1 hp2 rfl (by decide) _ _ _ rfl hAs ⟨w2.heap.size + 1, 0, none⟩ 1 1 [.int .i64 P0.k, .int .i64 P0.n, .string P0.t] rfl rfl ?c2 (by simp [Value.oneCell']) (by decide) ?c3 ?c4 ?c5 _ rfl ?_)
          case c2 => exact World.news_of_block (cs := #[.int .i64 P0.k, .int .i64 P0.n, .string P0.t]) (t := 45) (fr := (0, 0)) (by have h := heap_alloc_new (w2.alloc (.cells #[.int .i64 P0.k, .int .i64 P0.n, .string P0.t] 45)) (.cells #[.int .i64 P0.k, .int .i64 P0.n, .string P0.t] 45); rw [show (w2.alloc (.cells #[.int .i64 P0.k, .int .i64 P0.n, .string P0.t] 45)).heap.size = w2.heap.size + 1 from Deep.nblk_alloc _ _] at h; exact h)
          case c3 => unfold maxLen; omega
          case c4 => omega
          case c5 => first | omega | (simp; omega)
          intro g cap1 w3 hown3 hgrow hat hlt
          have HL4 : Hid (LAt w3 B R w.heap.size (l' ++ [P0]) (nextA p r d' q) (nextD p d' q) (some ⟨g, 0, none⟩) cap1 a2 c2' (.cells #[.int .i64 k, .int .i64 n, .string t] 45 (0, 0))) := HL3.out.append (p := P0) hgrow hown3 (or_at hat (by simp))
          have HB3 : Hid (Below B w w3) := HL3.out.below ((HB2.out.alloc (by omega) _).alloc (by simp; omega) _) hgrow
          clear hown3 hgrow hat hlt hAs HL3
          go_wp2_with fail
          go_roundw
          case rel => exact ⟨m - q, l' ++ [P0], _, _, some ⟨g, 0, none⟩, cap1, a2, c2', by rw [HMQ.out], by simp, HL4.out, HPC.out, HB3.out⟩
          case measure => have h1 := HAL.out; have h2 := HL4.out.wk.len; have h3 := HAL2.out; have h4 := HL2.out.wk.len; simp [intOf]; omega
        · have q1 : (k == 1) = false := by simp [hk1]
          subst hT
          have hPD := HP.out.drop HK3.out hq1 hq0 hqm
          by_cases hp1' : p.k = 1
          · have q4 : (P0.k == 1) = true := by simp [htk, hp1']
            rw [if_pos hp1'] at hPD
            have HPC : Hid (PInv .X l ah d n (l' ++ [⟨3, q, ByteArray.empty⟩]) (nextA p r d' q) (nextD p d' q) (m - q)) := hPD
            have HL3 : Hid (LAt ((w2.alloc (.cells #[.int .i64 P0.k, .int .i64 P0.n, .string P0.t] 45)).alloc (.cells #[.int .i64 3, .int .i64 q, .string ⟨#[]⟩] 45)) B R w.heap.size l' (nextA p r d' q) (nextD p d' q) ao' ca' a2 c2' (.cells #[.int .i64 k, .int .i64 n, .string t] 45 (0, 0))) := (HL2.out.alloc _).alloc _
            have hAs := HL3.out.own
            clear hk1 htk hPD hp1'
            go_wp2_with (at_builtin; refine wpList_append_lies _ rfl _ _ 25 rfl B 45 ip _ 3 32 Try.underlying25 hip hp0 hp1 hp2 rfl (by decide) _ _ _ rfl hAs ⟨w2.heap.size + 1, 0, none⟩ 1 1 [.int .i64 3, .int .i64 q, .string ⟨#[]⟩] rfl rfl ?c2 (by simp [Value.oneCell']) (by decide) ?c3 ?c4 ?c5 _ rfl ?_)
            case c2 => exact World.news_of_block (cs := #[.int .i64 3, .int .i64 q, .string ⟨#[]⟩]) (t := 45) (fr := (0, 0)) (by have h := heap_alloc_new (w2.alloc (.cells #[.int .i64 P0.k, .int .i64 P0.n, .string P0.t] 45)) (.cells #[.int .i64 3, .int .i64 q, .string ⟨#[]⟩] 45); rw [show (w2.alloc (.cells #[.int .i64 P0.k, .int .i64 P0.n, .string P0.t] 45)).heap.size = w2.heap.size + 1 from Deep.nblk_alloc _ _] at h; exact h)
            case c3 => unfold maxLen; omega
            case c4 => omega
            case c5 => first | omega | (simp; omega)
            intro g cap1 w3 hown3 hgrow hat hlt
            have HL4 : Hid (LAt w3 B R w.heap.size (l' ++ [⟨3, q, ByteArray.empty⟩]) (nextA p r d' q) (nextD p d' q) (some ⟨g, 0, none⟩) cap1 a2 c2' (.cells #[.int .i64 k, .int .i64 n, .string t] 45 (0, 0))) := HL3.out.append (p := ⟨3, q, ByteArray.empty⟩) hgrow hown3 (or_at hat (by simp))
            have HB3 : Hid (Below B w w3) := HL3.out.below ((HB2.out.alloc (by omega) _).alloc (by simp; omega) _) hgrow
            clear hown3 hgrow hat hlt hAs HL3
            go_wp2_with fail
            go_roundw
            case rel => exact ⟨m - q, l' ++ [⟨3, q, ByteArray.empty⟩], _, _, some ⟨g, 0, none⟩, cap1, a2, c2', by rw [HMQ.out], by simp, HL4.out, HPC.out, HB3.out⟩
            case measure => have h1 := HAL.out; have h2 := HL4.out.wk.len; have h3 := HAL2.out; have h4 := HL2.out.wk.len; simp [intOf]; omega
          · have q4 : (P0.k == 1) = false := by simp [htk, hp1']
            rw [if_neg hp1'] at hPD
            have HPC : Hid (PInv .X l ah d n l' (nextA p r d' q) (nextD p d' q) (m - q)) := hPD
            clear hk1 htk hPD hp1'
            go_wp2_with fail
            go_roundw
            case rel => exact ⟨m - q, l', _, _, ao', ca', a2, c2', by rw [HMQ.out], rfl, HL2.out.alloc _, HPC.out, HB2.out.alloc (by omega) _⟩
            case measure => have h1 := HAL.out; have h2 := (HL2.out.alloc (.cells #[.int .i64 P0.k, .int .i64 P0.n, .string P0.t] 45)).wk.len; have h3 := HAL2.out; have h4 := HL2.out.wk.len; simp [intOf]; omega
    · have hm0 : m = 0 := by omega
      subst hm0
      have HL : Hid (LAt wr B R w.heap.size l' ah' d' ao' ca' a' c' (.cells #[.int .i64 k, .int .i64 n, .string t] 45 (0, 0))) := hL
      have HP : Hid (PInv T l ah d n l' ah' d' 0) := hP
      have HB : Hid (Below B w wr) := hb
      clear hL hP hb
      go_wp2_with fail
      go_ret
      exact ⟨ao', ca', l', ah', d', a', c', rfl, HL.out.wk, HL.out.own, HP.out, HB.out⟩

end Go.Proofs.Ytcghojnmnmmpoaa
