/- How comp walks through a delta while it passes the parts of another: as plain functions: no program in it. -/
import Derived.Test.YtcghojnmnmmpoaaCompL
namespace Go.Proofs.Ytcghojnmnmmpoaa
set_option linter.unusedSimpArgs false
set_option linter.unusedVariables false

def restW (ah : List Pt) (d : Nat) : List Tok := (wordL ah).drop d
def wd (p : Pt) : Nat := p.n.toNat + p.t.size
def takeP (p : Pt) (d q : Nat) : Pt := if p.k = 2 then ⟨2, 0, ⟨((p.t.data.toList.drop d).take q).toArray⟩⟩ else ⟨1, q, ByteArray.empty⟩
def nextA (p : Pt) (r : List Pt) (d q : Nat) : List Pt := if d + q = wd p then r else p :: r
def nextD (p : Pt) (d q : Nat) : Nat := if d + q = wd p then 0 else d + q
def HeadOK (ah : List Pt) (d : Nat) : Prop := d = 0 ∨ ∃ p r, ah = p :: r ∧ p.k ≠ 3 ∧ d < wd p

theorem Cmp.cuts {a b r : List Tok} (n : Nat) (h : Cmp a b r) : Cmp (List.replicate n .X ++ a) b (List.replicate n .X ++ r) := by
  induction n with
  | zero => exact h
  | succ n ih => exact .cut ih
theorem Cmp.kks {a b r : List Tok} (n : Nat) (h : Cmp a b r) : Cmp (List.replicate n .K ++ a) (List.replicate n .K ++ b) (List.replicate n .K ++ r) := by
  induction n with
  | zero => exact h
  | succ n ih => exact .kk ih
theorem Cmp.kxs {a b r : List Tok} (n : Nat) (h : Cmp a b r) : Cmp (List.replicate n .K ++ a) (List.replicate n .X ++ b) (List.replicate n .X ++ r) := by
  induction n with
  | zero => exact h
  | succ n ih => exact .kx ih
theorem Cmp.pks {a b r : List Tok} (t : List UInt8) (h : Cmp a b r) : Cmp (t.map .P ++ a) (List.replicate t.length .K ++ b) (t.map .P ++ r) := by
  induction t with
  | nil => exact h
  | cons c t ih => exact .pk c ih
theorem Cmp.pxs {a b r : List Tok} (t : List UInt8) (h : Cmp a b r) : Cmp (t.map .P ++ a) (List.replicate t.length .X ++ b) r := by
  induction t with
  | nil => exact h
  | cons c t ih => exact .px c ih
theorem Cmp.puts {a b r : List Tok} (t : List UInt8) (h : Cmp a b r) : Cmp a (t.map .P ++ b) (t.map .P ++ r) := by
  induction t with
  | nil => exact h
  | cons c t ih => exact .put c ih

theorem word_len {p : Pt} (hk : p.k ≠ 3) (h2 : p.k = 2 → p.n = 0) (h3 : p.k ≠ 2 → p.t.size = 0) (h1 : p.k = 1 ∨ p.k = 2 ∨ p.k = 3) : (wordP p).length = wd p := by
  have htl : p.t.data.toList.length = p.t.size := Array.length_toList
  unfold wordP wd
  rcases h1 with h | h | h
  · have := h3 (by omega); simp [h, this]
  · have := h2 h; simp [h, this, htl]
  · contradiction
theorem rest_head (p : Pt) (r : List Pt) (d : Nat) (h : d ≤ (wordP p).length) : restW (p :: r) d = (wordP p).drop d ++ wordL r := by
  unfold restW
  rw [wordL_cons, List.drop_append_of_le_length h]
/-- what is taken off the part ahead, and what is left -/
theorem rest_next {p : Pt} {r : List Pt} {d q : Nat} (hR : Right (p :: r)) (hk : p.k ≠ 3) (hq : d + q ≤ wd p) (hq0 : 0 < q) :
    restW (p :: r) d = wordP (takeP p d q) ++ restW (nextA p r d q) (nextD p d q) ∧ HeadOK (nextA p r d q) (nextD p d q) ∧ Right (nextA p r d q) ∧ Right [takeP p d q] ∧ (p.k = 1 → wordP (takeP p d q) = List.replicate q .K) ∧ (p.k = 2 → ∃ t : List UInt8, t.length = q ∧ wordP (takeP p d q) = t.map .P) ∧ (nextA p r d q).length ≤ r.length + 1 := by
  obtain ⟨h1, h2, h3, h4⟩ := hR p (by simp)
  have hr : Right r := fun x hx => hR x (List.mem_cons_of_mem _ hx)
  have hl := word_len hk h2 (fun e => (h3 e).1) h1
  have htl : p.t.data.toList.length = p.t.size := Array.length_toList
  have e2 : restW (nextA p r d q) (nextD p d q) = (wordP p).drop (d + q) ++ wordL r := by
    unfold nextA nextD
    split
    · rename_i e
      rw [List.drop_of_length_le (by omega)]; simp [restW]
    · rw [rest_head _ _ _ (by omega)]
  have e3 : (wordP p).drop d = wordP (takeP p d q) ++ (wordP p).drop (d + q) ∧ (p.k = 1 → wordP (takeP p d q) = List.replicate q .K) ∧ (p.k = 2 → ∃ t : List UInt8, t.length = q ∧ wordP (takeP p d q) = t.map .P) ∧ Right [takeP p d q] := by
    rcases h1 with h | h | h
    · have ht := (h3 (by omega)).1
      have hw : wordP p = List.replicate p.n.toNat .K := by simp [wordP, h]
      have hw2 : wordP (takeP p d q) = List.replicate q .K := by simp [takeP, wordP, h]
      have hwd : wd p = p.n.toNat := by simp [wd, ht]
      refine ⟨?_, fun _ => hw2, fun e => by omega, ?_⟩
      · rw [hw, hw2, List.drop_replicate, List.drop_replicate, List.replicate_append_replicate]
        congr 1; omega
      · intro x hx
        simp [takeP, h] at hx
        subst hx
        exact ⟨by simp, by simp, by simp; omega, by simp⟩
    · have hn := h2 h
      have hw : wordP p = p.t.data.toList.map .P := by simp [wordP, h]
      have hw2 : wordP (takeP p d q) = ((p.t.data.toList.drop d).take q).map .P := by simp [takeP, wordP, h]
      have hwd : wd p = p.t.size := by simp [wd, hn]
      have hl2 : ((p.t.data.toList.drop d).take q).length = q := by rw [List.length_take, List.length_drop]; omega
      refine ⟨?_, fun e => by omega, fun _ => ⟨_, hl2, hw2⟩, ?_⟩
      · rw [hw, hw2, ← List.map_drop, ← List.map_drop, ← List.map_append, ← List.drop_drop, List.take_append_drop]
      · intro x hx
        simp [takeP, h] at hx
        subst hx
        refine ⟨by simp, by simp, by simp, fun _ => ?_⟩
        show (List.toArray _).size ≠ 0
        rw [List.size_toArray, hl2]; omega
    · contradiction
  refine ⟨?_, ?_, ?_, e3.2.2.2, e3.2.1, e3.2.2.1, ?_⟩
  · rw [rest_head _ _ _ (by omega), e3.1, e2, List.append_assoc]
  · unfold nextA nextD
    split
    · exact .inl rfl
    · exact .inr ⟨p, r, rfl, hk, by omega⟩
  · unfold nextA
    split
    · exact hr
    · exact hR
  · unfold nextA
    split <;> simp

structure PInv (T : Tok) (l0 ah0 : List Pt) (d0 n : Nat) (l ah : List Pt) (d m : Nat) : Prop where
  rl : Right l
  ra : Right ah
  hd : HeadOK ah d
  mn : m ≤ n
  out : outW (restW ah d) + (n - m) = outW (restW ah0 d0)
  len : l.length + ah.length + m ≤ l0.length + ah0.length + n
  sub : ∀ p ∈ ah, p ∈ ah0
  word : ∃ W, wordL l = wordL l0 ++ W ∧ ∀ b r, Cmp (restW ah d) (List.replicate m T ++ b) r → Cmp (restW ah0 d0) (List.replicate n T ++ b) (W ++ r)
theorem PInv.start {T : Tok} {l ah : List Pt} {d n : Nat} (h1 : Right l) (h2 : Right ah) (h3 : HeadOK ah d) : PInv T l ah d n l ah d n :=
  ⟨h1, h2, h3, Nat.le_refl _, by omega, Nat.le_refl _, fun _ h => h, [], by simp, fun b r h => h⟩
theorem PInv.more {T : Tok} {l0 ah0 : List Pt} {d0 n : Nat} {l ah : List Pt} {d m : Nat} (h : PInv T l0 ah0 d0 n l ah d m) (hn : n ≤ outW (restW ah0 d0)) (hm : 0 < m) : ∃ p r, ah = p :: r ∧ (p.k = 3 → d = 0) ∧ (p.k ≠ 3 → d < wd p) ∧ (p.k = 1 ∨ p.k = 2 ∨ p.k = 3) := by
  have h1 := h.out
  have h2 := h.mn
  cases ah with
  | nil =>
    have h3 : outW (restW [] d) = 0 := by simp [restW, wordL, outW]
    omega
  | cons p r =>
    obtain ⟨k1, k2, k3, k4⟩ := h.ra p (by simp)
    refine ⟨p, r, rfl, fun e => ?_, fun e => ?_, k1⟩
    · rcases h.hd with h3 | ⟨p', r', h3, h4, h5⟩
      · exact h3
      · simp only [List.cons.injEq] at h3
        exact absurd (by rw [← h3.1]; exact e) h4
    · rcases h.hd with h3 | ⟨p', r', h3, h4, h5⟩
      · subst h3
        unfold wd
        rcases k1 with k | k | k
        · have := k3 (by omega); omega
        · have := k4 k; omega
        · contradiction
      · simp only [List.cons.injEq] at h3
        rw [h3.1]; exact h5
theorem right_snoc {l : List Pt} {p : Pt} (h : Right l) (hp : Right [p]) : Right (l ++ [p]) := fun q hq => by
  rcases List.mem_append.1 hq with h1 | h1
  · exact h q h1
  · exact hp q h1
theorem PInv.cut {T : Tok} {l0 ah0 : List Pt} {d0 n : Nat} {l r : List Pt} {p : Pt} {m : Nat} (h : PInv T l0 ah0 d0 n l (p :: r) 0 m) (hk : p.k = 3) : PInv T l0 ah0 d0 n (l ++ [p]) r 0 m := by
  obtain ⟨W, hw, hc⟩ := h.word
  have hp : wordP p = List.replicate p.n.toNat .X := by simp [wordP, hk]
  have hrest : restW (p :: r) 0 = List.replicate p.n.toNat .X ++ restW r 0 := by simp [restW, wordL_cons, hp]
  refine ⟨right_snoc h.rl (fun q hq => by simp at hq; subst hq; exact h.ra q (by simp)), fun q hq => h.ra q (List.mem_cons_of_mem _ hq), .inl rfl, h.mn, ?_, ?_, fun q hq => h.sub q (List.mem_cons_of_mem _ hq), W ++ List.replicate p.n.toNat .X, ?_, ?_⟩
  · have := h.out
    rw [hrest, (outW_rep _ _).2] at this
    exact this
  · have := h.len
    simp only [List.length_append, List.length_cons, List.length_nil] at this ⊢
    omega
  · rw [wordL_app, hw, List.append_assoc]
    congr 2
    simp [wordL, hp]
  · intro b x hx
    rw [List.append_assoc]
    exact hc b _ (by rw [hrest]; exact hx.cuts _)
theorem out_rep (n : Nat) : outW (List.replicate n .K) = n ∧ outW (List.replicate n .X) = 0 := by
  have := outW_rep n []
  simpa [outW] using this
theorem out_map (t : List UInt8) : outW (t.map .P) = t.length := by
  have := outW_map t []
  simpa [outW] using this
theorem PInv.keep {l0 ah0 : List Pt} {d0 n : Nat} {l r : List Pt} {p : Pt} {d m q : Nat} (h : PInv .K l0 ah0 d0 n l (p :: r) d m) (hk : p.k ≠ 3) (hq : d + q ≤ wd p) (hq0 : 0 < q) (hqm : q ≤ m) :
    PInv .K l0 ah0 d0 n (l ++ [takeP p d q]) (nextA p r d q) (nextD p d q) (m - q) := by
  obtain ⟨W, hw, hc⟩ := h.word
  obtain ⟨e1, e2, e3, e4, e5, e6, e7⟩ := rest_next h.ra hk hq hq0
  have hm := h.mn
  have hwo : outW (wordP (takeP p d q)) = q := by
    rcases (h.ra p (by simp)).1 with k | k | k
    · rw [e5 k, (out_rep _).1]
    · obtain ⟨t, ht, hw⟩ := e6 k; rw [hw, out_map, ht]
    · contradiction
  refine ⟨right_snoc h.rl e4, e3, e2, by omega, ?_, ?_, ?_, W ++ wordP (takeP p d q), ?_, ?_⟩
  · have := h.out
    rw [e1, outW_app, hwo] at this
    omega
  · have := h.len
    simp only [List.length_append, List.length_cons, List.length_nil] at this ⊢
    omega
  · intro x hx
    refine h.sub x ?_
    unfold nextA at hx
    split at hx
    · exact List.mem_cons_of_mem _ hx
    · exact hx
  · rw [wordL_app, hw, List.append_assoc]; simp [wordL]
  · intro b x hx
    rw [List.append_assoc]
    refine hc b _ ?_
    rw [e1, show m = q + (m - q) by omega, ← List.replicate_append_replicate, List.append_assoc]
    rcases (h.ra p (by simp)).1 with k | k | k
    · rw [e5 k]; exact hx.kks q
    · obtain ⟨t, ht, hw⟩ := e6 k
      rw [hw, ← ht]; rw [← ht] at hx; exact hx.pks t
    · contradiction
theorem PInv.drop {l0 ah0 : List Pt} {d0 n : Nat} {l r : List Pt} {p : Pt} {d m q : Nat} (h : PInv .X l0 ah0 d0 n l (p :: r) d m) (hk : p.k ≠ 3) (hq : d + q ≤ wd p) (hq0 : 0 < q) (hqm : q ≤ m) :
    PInv .X l0 ah0 d0 n (if p.k = 1 then l ++ [⟨3, q, ByteArray.empty⟩] else l) (nextA p r d q) (nextD p d q) (m - q) := by
  obtain ⟨W, hw, hc⟩ := h.word
  obtain ⟨e1, e2, e3, e4, e5, e6, e7⟩ := rest_next h.ra hk hq hq0
  have hm := h.mn
  have hwo : outW (wordP (takeP p d q)) = q := by
    rcases (h.ra p (by simp)).1 with k | k | k
    · rw [e5 k, (out_rep _).1]
    · obtain ⟨t, ht, hw⟩ := e6 k; rw [hw, out_map, ht]
    · contradiction
  have hout := h.out
  rw [e1, outW_app, hwo] at hout
  have hlen := h.len
  simp only [List.length_cons] at hlen
  have hsub : ∀ x ∈ nextA p r d q, x ∈ ah0 := by
    intro x hx
    refine h.sub x ?_
    unfold nextA at hx
    split at hx
    · exact List.mem_cons_of_mem _ hx
    · exact hx
  rcases (h.ra p (by simp)).1 with k | k | k
  · rw [if_pos k]
    refine ⟨right_snoc h.rl ?_, e3, e2, by omega, by omega, ?_, hsub, W ++ List.replicate q .X, ?_, ?_⟩
    · intro x hx
      simp at hx
      subst hx
      exact ⟨by simp, by simp, by simp; omega, by simp⟩
    · simp only [List.length_append, List.length_cons, List.length_nil]; omega
    · rw [wordL_app, hw, List.append_assoc]; simp [wordL, wordP]
    · intro b x hx
      rw [List.append_assoc]
      refine hc b _ ?_
      rw [e1, e5 k, show m = q + (m - q) by omega, ← List.replicate_append_replicate, List.append_assoc]
      exact hx.kxs q
  · rw [if_neg (by omega)]
    obtain ⟨t, ht, hwt⟩ := e6 k
    refine ⟨h.rl, e3, e2, by omega, by omega, by omega, hsub, W, hw, ?_⟩
    intro b x hx
    refine hc b _ ?_
    rw [e1, hwt, show m = t.length + (m - q) by omega, ← List.replicate_append_replicate, List.append_assoc]
    exact hx.pxs t
  · contradiction

/-- the walk through both -/
structure JInv (a b : List Pt) (k : Nat) (l ah : List Pt) (d : Nat) : Prop where
  rl : Right l
  ra : Right ah
  hd : HeadOK ah d
  out : (outW (restW ah d) : Int) = inI (b.drop k)
  len : (l.length : Int) + ah.length ≤ a.length + k + inI (b.take k)
  sub : ∀ p ∈ ah, p ∈ a
  word : ∀ r, Cmp (restW ah d) (wordL (b.drop k)) r → Cmp (wordL a) (wordL b) (wordL l ++ r)
theorem JInv.start {a b : List Pt} (h : compE a b = 0) : JInv a b 0 [] a 0 := by
  obtain ⟨h1, h2, h3⟩ := comp_zero h
  obtain ⟨ga, ca, ia, oa, la, ma⟩ := delta_facts h1
  refine ⟨by intro p hp; simp at hp, sizes_right h1, .inl rfl, ?_, by simp [inI], fun _ h => h, fun r hr => ?_⟩
  · simp only [restW, List.drop_zero]; omega
  · simpa [restW, wordL] using hr
theorem JInv.put {a b : List Pt} {k : Nat} {l ah : List Pt} {d : Nat} {p : Pt} (h : JInv a b k l ah d) (hp : b[k]? = some p) (hR : Right b) (hk : p.k = 2) : JInv a b (k + 1) (l ++ [p]) ah d := by
  have hw : wordL (b.drop k) = p.t.data.toList.map .P ++ wordL (b.drop (k + 1)) := by rw [drop_cons hp, wordL_cons]; simp [wordP, hk]
  have hpr := hR p (List.mem_of_getElem? hp)
  refine ⟨right_snoc h.rl (fun q hq => by simp at hq; subst hq; exact hpr), h.ra, h.hd, ?_, ?_, h.sub, fun r hr => ?_⟩
  · rw [h.out, drop_cons hp, inI, hpr.2.1 hk]; omega
  · have := h.len
    rw [inI_snoc hp, hpr.2.1 hk]
    simp only [List.length_append, List.length_cons, List.length_nil]
    omega
  · rw [wordL_app, List.append_assoc]
    have h1 := h.word (p.t.data.toList.map .P ++ r) (by rw [hw]; exact hr.puts _)
    rwa [show wordL [p] = p.t.data.toList.map .P by simp [wordL, wordP, hk]]
theorem JInv.pass {a b : List Pt} {k : Nat} {l ah l' ah' : List Pt} {d d' n : Nat} {p : Pt} {T : Tok} (h : JInv a b k l ah d) (hp : b[k]? = some p) (hT : wordP p = List.replicate n T) (hn : p.n = n)
    (h' : PInv T l ah d n l' ah' d' 0) : JInv a b (k + 1) l' ah' d' := by
  obtain ⟨W, hw, hc⟩ := h'.word
  have hlen := h'.len
  have hlen0 := h.len
  have hout := h'.out
  have hout0 := h.out
  rw [drop_cons hp, inI] at hout0
  refine ⟨h'.rl, h'.ra, h'.hd, by omega, ?_, fun x hx => h.sub x (h'.sub x hx), fun r hr => ?_⟩
  · rw [inI_snoc hp]; omega
  · rw [hw, List.append_assoc]
    refine h.word _ ?_
    rw [drop_cons hp, wordL_cons, hT]
    exact hc _ _ (by simpa using hr)
theorem JInv.done {a b : List Pt} {l ah : List Pt} {d : Nat} (h : JInv a b b.length l ah d) : Right (l ++ ah) ∧ Cmp (wordL a) (wordL b) (wordL (l ++ ah)) := by
  have hR : Right (l ++ ah) := fun p hp => by
    rcases List.mem_append.1 hp with h1 | h1
    · exact h.rl p h1
    · exact h.ra p h1
  have hout := h.out
  rw [List.drop_of_length_le (Nat.le_refl _)] at hout
  simp only [inI] at hout
  have hd : d = 0 := by
    rcases h.hd with h1 | ⟨p, r, rfl, hk, hlt⟩
    · exact h1
    · exfalso
      obtain ⟨k1, k2, k3, k4⟩ := h.ra p (by simp)
      have hl := word_len hk k2 (fun e => (k3 e).1) k1
      rw [rest_head _ _ _ (by omega), outW_app] at hout
      have : outW ((wordP p).drop d) ≠ 0 := by
        rcases k1 with e | e | e
        · have hw : wordP p = List.replicate p.n.toNat .K := by simp [wordP, e]
          rw [hw, List.length_replicate] at hl
          rw [hw, List.drop_replicate, (out_rep _).1]; omega
        · have hw : wordP p = p.t.data.toList.map .P := by simp [wordP, e]
          rw [hw, List.length_map] at hl
          rw [hw, ← List.map_drop, out_map, List.length_drop]; omega
        · contradiction
      omega
  subst hd
  have honly : ∀ w : List Tok, outW w = 0 → Cmp w [] w := by
    intro w hw
    induction w with
    | nil => exact .nil
    | cons t w ih =>
      cases t using Tok.by3 with
      | K => simp [outW] at hw
      | X => exact .cut (ih hw)
      | P c => simp [outW] at hw
  refine ⟨hR, ?_⟩
  rw [wordL_app]
  refine h.word _ ?_
  rw [List.drop_of_length_le (Nat.le_refl _)]
  have h0 : restW ah 0 = wordL ah := rfl
  rw [h0] at hout ⊢
  exact honly _ (by omega)

end Go.Proofs.Ytcghojnmnmmpoaa
