/- Deltas byte by byte, as words: what a word keeps, and makes; the form that a word has; two words as one; a word the other way: no program in it. -/
import Derived.Test.YtgffippimmokiaaPlaces
namespace Go.Proofs.Ytgffippimmokiaa
set_option linter.unusedSimpArgs false
set_option linter.unusedVariables false

/-- a byte's turn: it is kept, it is cut, or a byte is put -/
structure Tok where
  v : Sum Bool UInt8
abbrev Tok.K : Tok := ⟨.inl true⟩
abbrev Tok.X : Tok := ⟨.inl false⟩
abbrev Tok.P (c : UInt8) : Tok := ⟨.inr c⟩
theorem Tok.by3 {motive : Tok → Prop} (K : motive Tok.K) (X : motive Tok.X) (P : ∀ c, motive (Tok.P c)) (t : Tok) : motive t := by
  obtain ⟨v⟩ := t
  rcases v with b | c
  · cases b
    · exact X
    · exact K
  · exact P c

def wordP (p : Pt) : List Tok := if p.k = 1 then List.replicate p.n.toNat .K else if p.k = 2 then p.t.data.toList.map .P else List.replicate p.n.toNat .X
def wordL (l : List Pt) : List Tok := l.flatMap wordP
theorem wordL_app (a b : List Pt) : wordL (a ++ b) = wordL a ++ wordL b := by simp [wordL]
theorem wordL_cons (p : Pt) (r : List Pt) : wordL (p :: r) = wordP p ++ wordL r := rfl

def inW : List Tok → Nat
  | [] => 0
  | ⟨.inl true⟩ :: w => inW w + 1
  | ⟨.inl false⟩ :: w => inW w + 1
  | ⟨.inr _⟩ :: w => inW w
def outW : List Tok → Nat
  | [] => 0
  | ⟨.inl true⟩ :: w => outW w + 1
  | ⟨.inl false⟩ :: w => outW w
  | ⟨.inr _⟩ :: w => outW w + 1
def doW : List Tok → List UInt8 → List UInt8
  | [], _ => []
  | ⟨.inl true⟩ :: w, s => s.take 1 ++ doW w (s.drop 1)
  | ⟨.inl false⟩ :: w, s => doW w (s.drop 1)
  | ⟨.inr c⟩ :: w, s => c :: doW w s
def pairsW : List Tok → Nat → Nat → List (Nat × Nat)
  | [], _, _ => []
  | ⟨.inl true⟩ :: w, i, k => (i, k) :: pairsW w (i + 1) (k + 1)
  | ⟨.inl false⟩ :: w, i, k => pairsW w (i + 1) k
  | ⟨.inr _⟩ :: w, i, k => pairsW w i (k + 1)

theorem inW_app (a b : List Tok) : inW (a ++ b) = inW a + inW b := by
  induction a with
  | nil => simp [inW]
  | cons t a ih => cases t using Tok.by3 <;> simp [inW, ih] <;> omega
theorem outW_app (a b : List Tok) : outW (a ++ b) = outW a + outW b := by
  induction a with
  | nil => simp [outW]
  | cons t a ih => cases t using Tok.by3 <;> simp [outW, ih] <;> omega
theorem doW_app (a b : List Tok) (x : List UInt8) : doW (a ++ b) x = doW a x ++ doW b (x.drop (inW a)) := by
  induction a generalizing x with
  | nil => simp [doW, inW]
  | cons t a ih => cases t using Tok.by3 <;> simp [doW, inW, ih, List.drop_drop, Nat.add_comm]
theorem doW_pre (a : List Tok) (x y : List UInt8) (h : x.length = inW a) : doW a (x ++ y) = doW a x := by
  induction a generalizing x with
  | nil => simp [doW]
  | cons t a ih =>
    cases t using Tok.by3 with
    | K =>
      cases x with
      | nil => simp [inW] at h
      | cons c x => simp [doW, ih x (by simpa [inW] using h)]
    | X =>
      cases x with
      | nil => simp [inW] at h
      | cons c x => simp [doW, ih x (by simpa [inW] using h)]
    | P c => simp [doW, ih x (by simpa [inW] using h)]
theorem doW_len (a : List Tok) (x : List UInt8) (h : x.length = inW a) : (doW a x).length = outW a := by
  induction a generalizing x with
  | nil => simp [doW, outW]
  | cons t a ih =>
    cases t using Tok.by3 with
    | K =>
      cases x with
      | nil => simp [inW] at h
      | cons c x => simp [doW, outW, ih x (by simpa [inW] using h)]
    | X =>
      cases x with
      | nil => simp [inW] at h
      | cons c x => simp [doW, outW, ih x (by simpa [inW] using h)]
    | P c => simp [doW, outW, ih x (by simpa [inW] using h)]
theorem pairsW_app (a b : List Tok) (i k : Nat) : pairsW (a ++ b) i k = pairsW a i k ++ pairsW b (i + inW a) (k + outW a) := by
  induction a generalizing i k with
  | nil => simp [pairsW, inW, outW]
  | cons t a ih => cases t using Tok.by3 <;> simp [pairsW, inW, outW, ih, Nat.add_assoc, Nat.add_comm 1]
theorem pairsW_ge (a : List Tok) (i k : Nat) : ∀ p ∈ pairsW a i k, i ≤ p.1 ∧ k ≤ p.2 := by
  induction a generalizing i k with
  | nil => simp [pairsW]
  | cons t a ih =>
    intro p hp
    cases t using Tok.by3 with
    | K =>
      simp only [pairsW, List.mem_cons] at hp
      rcases hp with rfl | hp
      · simp
      · have := ih _ _ p hp; omega
    | X => have := ih _ _ p hp; omega
    | P c => have := ih _ _ p hp; omega
theorem pairsW_lt (a : List Tok) (i k : Nat) : ∀ p ∈ pairsW a i k, p.1 < i + inW a ∧ p.2 < k + outW a := by
  induction a generalizing i k with
  | nil => simp [pairsW]
  | cons t a ih =>
    intro p hp
    cases t using Tok.by3 with
    | K =>
      simp only [pairsW, List.mem_cons] at hp
      rcases hp with rfl | hp
      · simp [inW, outW]
      · have := ih _ _ p hp; simp only [inW, outW]; omega
    | X => have := ih _ _ p hp; simp only [inW, outW]; omega
    | P c => have := ih _ _ p hp; simp only [inW, outW]; omega

/-- the form of a word -/
def gTok (s : GSt) : Tok → GSt
  | ⟨.inl true⟩ => ⟨keepL (settleL s.sl s.tx s.ct) 1, [], 0⟩
  | ⟨.inl false⟩ => ⟨s.sl, s.tx, s.ct + 1⟩
  | ⟨.inr c⟩ => ⟨s.sl, s.tx ++ [c], s.ct⟩
def canonF (s : GSt) (w : List Tok) : List Pt := settleL (w.foldl gTok s).sl (w.foldl gTok s).tx (w.foldl gTok s).ct
def canonW (w : List Tok) : List Pt := canonF ⟨[], [], 0⟩ w

theorem fold_K (m : Nat) (s : GSt) : (List.replicate (m + 1) Tok.K).foldl gTok s = ⟨keepL (settleL s.sl s.tx s.ct) (m + 1 : Nat), [], 0⟩ := by
  induction m generalizing s with
  | zero => simp [List.replicate, gTok]
  | succ m ih =>
    rw [List.replicate_succ, List.foldl_cons, ih]
    simp only [gTok, settle_none, keep_keep]
    congr 2
    omega
theorem fold_X (m : Nat) (s : GSt) : (List.replicate m Tok.X).foldl gTok s = ⟨s.sl, s.tx, s.ct + m⟩ := by
  induction m generalizing s with
  | zero => simp
  | succ m ih =>
    rw [List.replicate_succ, List.foldl_cons, ih]
    simp only [gTok]
    congr 1
    omega
theorem fold_P (t : List UInt8) (s : GSt) : (t.map Tok.P).foldl gTok s = ⟨s.sl, s.tx ++ t, s.ct⟩ := by
  induction t generalizing s with
  | nil => simp
  | cons c t ih => rw [List.map_cons, List.foldl_cons, ih]; simp [gTok]
theorem fold_word (p : Pt) (h : 0 ≤ p.n ∧ (p.k = 1 ∨ p.k = 2 ∨ p.k = 3)) (s : GSt) : (wordP p).foldl gTok s = gStep s p := by
  obtain ⟨h0, h | h | h⟩ := h
  · simp only [wordP, h, if_true, gStep]
    by_cases hn : p.n = 0
    · simp [hn]
    · obtain ⟨m, hm⟩ : ∃ m, p.n.toNat = m + 1 := ⟨p.n.toNat - 1, by omega⟩
      rw [hm, fold_K, if_neg hn, show ((m + 1 : Nat) : Int) = p.n by omega]
  · simp [wordP, h, gStep, fold_P]
  · have h1 : ¬ (3 : Int) = 1 := by omega
    have h2 : ¬ (3 : Int) = 2 := by omega
    simp only [wordP, h, h1, h2, if_false, gStep, fold_X]
    congr 1
    omega
def Kinds (l : List Pt) : Prop := ∀ p ∈ l, 0 ≤ p.n ∧ (p.k = 1 ∨ p.k = 2 ∨ p.k = 3)
theorem gather_canon {l : List Pt} (hk : Kinds l) : gatherL l = canonW (wordL l) := by
  suffices H : ∀ s : GSt, l.foldl gStep s = (wordL l).foldl gTok s by unfold gatherL gAll canonW canonF; rw [H]
  induction l with
  | nil => intro s; rfl
  | cons p r ih =>
    intro s
    rw [List.foldl_cons, wordL_cons, List.foldl_append, fold_word p (hk p (by simp)), ih (fun q hq => hk q (List.mem_cons_of_mem _ hq))]

/-- the form of what keeps some bytes and comes to a text -/
def madeF (n : Nat) (text : List UInt8) : List (Nat × Nat) → Nat → Nat → GSt → List Pt
  | [], a, f, s => settleL s.sl (s.tx ++ text.drop a) (s.ct + ((n - f : Nat) : Int))
  | (i, j) :: r, a, f, s => madeF n text r (j + 1) (i + 1) ⟨keepL (settleL s.sl (s.tx ++ (text.drop a).take (j - a)) (s.ct + ((i - f : Nat) : Int))) 1, [], 0⟩
def madeL (n : Nat) (kept : List (Nat × Nat)) (text : List UInt8) : List Pt := madeF n text kept 0 0 ⟨[], [], 0⟩

theorem made_canon (w : List Tok) : ∀ (i k a f : Nat) (s : GSt) (text x : List UInt8), a ≤ k → f ≤ i → text.drop k = doW w x → x.length = inW w → k ≤ text.length →
    madeF (i + inW w) text (pairsW w i k) a f s = canonF ⟨s.sl, s.tx ++ (text.drop a).take (k - a), s.ct + ((i - f : Nat) : Int)⟩ w := by
  induction w with
  | nil =>
    intro i k a f s text x ha hf ht hx hk
    have h1 : text.length ≤ k := by simpa [doW] using ht
    simp only [pairsW, madeF, canonF, List.foldl_nil, inW, Nat.add_zero]
    rw [List.take_of_length_le (by rw [List.length_drop]; omega)]
  | cons t w ih =>
    intro i k a f s text x ha hf ht hx hk
    cases t using Tok.by3 with
    | K =>
      cases x with
      | nil => simp [inW] at hx
      | cons c x =>
        have hd : text.drop k = c :: doW w x := by simpa [doW] using ht
        have hlt : k < text.length := by
          have := congrArg List.length hd
          simp at this; omega
        have hd' : text.drop (k + 1) = doW w x := by
          have := congrArg (List.drop 1) hd
          simpa [List.drop_drop, Nat.add_comm] using this
        have h := ih (i + 1) (k + 1) (k + 1) (i + 1) ⟨keepL (settleL s.sl (s.tx ++ (text.drop a).take (k - a)) (s.ct + ((i - f : Nat) : Int))) 1, [], 0⟩ text x (Nat.le_refl _) (Nat.le_refl _) hd' (by simpa [inW] using hx) hlt
        simp only [pairsW, madeF, inW]
        rw [show i + (inW w + 1) = i + 1 + inW w by omega, h]
        simp [canonF, gTok]
    | X =>
      cases x with
      | nil => simp [inW] at hx
      | cons c x =>
        have h := ih (i + 1) k a f s text x ha (by omega) (by simpa [doW] using ht) (by simpa [inW] using hx) hk
        simp only [pairsW, inW]
        rw [show i + (inW w + 1) = i + 1 + inW w by omega, h]
        simp only [canonF, List.foldl_cons, gTok]
        rw [show s.ct + ((i + 1 - f : Nat) : Int) = s.ct + ((i - f : Nat) : Int) + 1 by omega]
    | P c =>
      have hd : text.drop k = c :: doW w x := by simpa [doW] using ht
      have hlt : k < text.length := by
        have := congrArg List.length hd
        simp at this; omega
      have hd' : text.drop (k + 1) = doW w x := by
        have := congrArg (List.drop 1) hd
        simpa [List.drop_drop, Nat.add_comm] using this
      have h := ih i (k + 1) a f s text x (by omega) hf hd' (by simpa [inW] using hx) hlt
      simp only [pairsW, inW]
      rw [h]
      simp only [canonF, List.foldl_cons, gTok]
      have e : (text.drop a).take (k + 1 - a) = (text.drop a).take (k - a) ++ [c] := by
        rw [show k + 1 - a = (k - a) + 1 by omega]
        have hg : (text.drop a)[k - a]? = some c := by
          rw [List.getElem?_drop, show a + (k - a) = k + 0 by omega, ← List.getElem?_drop, hd]; simp
        obtain ⟨hl, he⟩ := List.getElem?_eq_some_iff.1 hg
        rw [List.take_succ_eq_append_getElem hl, he]
      rw [e, List.append_assoc]
theorem canon_made (w : List Tok) (x : List UInt8) (h : x.length = inW w) : madeL (inW w) (pairsW w 0 0) (doW w x) = canonW w := by
  have := made_canon w 0 0 0 0 ⟨[], [], 0⟩ (doW w x) x (Nat.le_refl _) (Nat.le_refl _) (by simp) h (Nat.zero_le _)
  simpa [madeL, canonW] using this

/-- two words that do the same -/
structure Sem (a b : List Tok) : Prop where
  ins : inW a = inW b
  outs : outW a = outW b
  dos : ∀ x : List UInt8, x.length = inW a → doW a x = doW b x
  prs : ∀ i k, pairsW a i k = pairsW b i k
theorem Sem.rfl' (a : List Tok) : Sem a a := ⟨rfl, rfl, fun _ _ => rfl, fun _ _ => rfl⟩
theorem Sem.of_eq {a b : List Tok} (h : a = b) : Sem a b := by subst h; exact Sem.rfl' a
theorem Sem.symm {a b : List Tok} (h : Sem a b) : Sem b a := ⟨h.ins.symm, h.outs.symm, fun x hx => (h.dos x (by rw [h.ins]; exact hx)).symm, fun i k => (h.prs i k).symm⟩
theorem Sem.trans {a b c : List Tok} (h : Sem a b) (h' : Sem b c) : Sem a c := ⟨h.ins.trans h'.ins, h.outs.trans h'.outs, fun x hx => (h.dos x hx).trans (h'.dos x (by rw [← h.ins]; exact hx)), fun i k => (h.prs i k).trans (h'.prs i k)⟩
theorem Sem.app {a a' b b' : List Tok} (h : Sem a a') (h' : Sem b b') : Sem (a ++ b) (a' ++ b') where
  ins := by rw [inW_app, inW_app, h.ins, h'.ins]
  outs := by rw [outW_app, outW_app, h.outs, h'.outs]
  dos := fun x hx => by
    rw [inW_app] at hx
    have e : x = x.take (inW a) ++ x.drop (inW a) := (List.take_append_drop _ _).symm
    have l1 : (x.take (inW a)).length = inW a := by rw [List.length_take]; omega
    have l2 : (x.drop (inW a)).length = inW b := by rw [List.length_drop]; omega
    rw [doW_app, doW_app, ← h.ins, h'.dos _ l2]
    congr 1
    rw [e, doW_pre a _ _ l1, doW_pre a' _ _ (by rw [l1, h.ins])]
    exact h.dos _ l1
  prs := fun i k => by rw [pairsW_app, pairsW_app, h.prs, h'.prs, h.ins, h.outs]
theorem canon_sem_eq {a b : List Tok} (h : Sem a b) : canonW a = canonW b := by
  have hx : (List.replicate (inW a) (0 : UInt8)).length = inW a := by simp
  rw [← canon_made a _ hx, ← canon_made b _ (by rw [hx, h.ins]), h.dos _ hx, h.prs, h.ins]

theorem sem_swap (c : UInt8) (n : Nat) : Sem (List.replicate n Tok.X ++ [.P c]) (.P c :: List.replicate n .X) := by
  induction n with
  | zero => exact Sem.rfl' _
  | succ n ih =>
    rw [List.replicate_succ, List.cons_append]
    have h1 : Sem ([Tok.X] ++ (List.replicate n Tok.X ++ [.P c])) ([Tok.X] ++ (.P c :: List.replicate n .X)) := (Sem.rfl' _).app ih
    have h2 : Sem ([Tok.X, .P c] ++ List.replicate n .X) ([Tok.P c, .X] ++ List.replicate n .X) := Sem.app ⟨rfl, rfl, fun x hx => by
      cases x with
      | nil => simp [inW] at hx
      | cons d x => simp [doW], fun i k => rfl⟩ (Sem.rfl' _)
    exact h1.trans h2

def gapW (tx : List UInt8) (ct : Int) : List Tok := tx.map .P ++ List.replicate ct.toNat .X
theorem word_settle (sl : List Pt) (tx : List UInt8) (ct : Int) : wordL (settleL sl tx ct) = wordL sl ++ gapW tx ct := by
  unfold settleL gapW
  rw [wordL_app, wordL_app, List.append_assoc]
  congr 1
  congr 1
  · split
    · rename_i h; subst h; rfl
    · simp [wordL, wordP]
  · split
    · simp [wordL, wordP]
    · rw [show ct.toNat = 0 by omega]; rfl
def Whole (l : List Pt) : Prop := ∀ p ∈ l, 0 ≤ p.n
theorem word_keep (sl : List Pt) (h : Whole sl) : wordL (keepL sl 1) = wordL sl ++ [.K] := by
  unfold keepL
  split
  · rename_i p hp
    have h1 : sl = sl.dropLast ++ [p] := by
      have h2 : sl ≠ [] := fun e => by subst e; simp at hp
      rw [List.getLast?_eq_some_getLast h2] at hp
      have h3 := List.dropLast_concat_getLast h2
      have h4 : sl.getLast h2 = p := Option.some.inj hp
      rw [h4] at h3; exact h3.symm
    have hp0 := h p (List.mem_of_getLast? hp)
    split
    · rename_i hk
      rw [wordL_app]
      have e : wordL sl = wordL sl.dropLast ++ wordP p := by
        have : wordL sl = wordL (sl.dropLast ++ [p]) := by rw [← h1]
        rw [this, wordL_app]; simp [wordL]
      rw [e, List.append_assoc]
      congr 1
      simp only [wordL, List.flatMap_cons, List.flatMap_nil, List.append_nil, wordP, hk, if_true]
      rw [show (p.n + 1).toNat = p.n.toNat + 1 by omega, List.replicate_succ']
    · rw [wordL_app]; simp [wordL, wordP]
  · rw [wordL_app]; simp [wordL, wordP]
theorem settle_whole {sl : List Pt} {tx : List UInt8} {ct : Int} (h : Whole sl) (hc : 0 ≤ ct) : Whole (settleL sl tx ct) := by
  intro p hp
  simp only [settleL, List.mem_append] at hp
  rcases hp with (hp | hp) | hp
  · exact h p hp
  · split at hp
    · simp at hp
    · simp at hp; subst hp; simp
  · split at hp
    · simp at hp; subst hp; exact hc
    · simp at hp
theorem keep_whole {sl : List Pt} {n : Int} (h : Whole sl) (hn : 0 ≤ n) : Whole (keepL sl n) := by
  intro p hp
  unfold keepL at hp
  split at hp
  · rename_i q hq
    have hqm := h q (List.mem_of_getLast? hq)
    split at hp
    · simp only [List.mem_append, List.mem_singleton] at hp
      rcases hp with hp | hp
      · exact h p (List.dropLast_subset _ hp)
      · subst hp; show 0 ≤ q.n + n; omega
    · simp only [List.mem_append, List.mem_singleton] at hp
      rcases hp with hp | hp
      · exact h p hp
      · subst hp; exact hn
  · simp only [List.mem_append, List.mem_singleton] at hp
    rcases hp with hp | hp
    · exact h p hp
    · subst hp; exact hn
theorem canonF_sem (w : List Tok) : ∀ s : GSt, Whole s.sl → 0 ≤ s.ct → Sem (wordL (canonF s w)) (wordL s.sl ++ gapW s.tx s.ct ++ w) := by
  induction w with
  | nil => intro s hs hc; simp only [canonF, List.foldl_nil, List.append_nil]; exact Sem.of_eq (word_settle _ _ _)
  | cons t w ih =>
    intro s hs hc
    have e : canonF s (t :: w) = canonF (gTok s t) w := rfl
    rw [e]
    cases t using Tok.by3 with
    | K =>
      have h := ih (gTok s .K) (keep_whole (settle_whole hs hc) (by omega)) (by simp [gTok])
      refine h.trans (Sem.of_eq ?_)
      simp only [gTok, word_keep _ (settle_whole hs hc), word_settle, gapW]
      simp
    | X =>
      have h := ih (gTok s .X) hs (by simp only [gTok]; omega)
      refine h.trans (Sem.of_eq ?_)
      simp only [gTok, gapW]
      rw [show (s.ct + 1).toNat = s.ct.toNat + 1 by omega, List.replicate_succ']
      simp
    | P c =>
      have h := ih (gTok s (.P c)) hs hc
      refine h.trans ?_
      simp only [gTok, gapW]
      have h1 := ((Sem.rfl' (wordL s.sl ++ s.tx.map Tok.P)).app (sem_swap c s.ct.toNat).symm).app (Sem.rfl' w)
      refine (Sem.of_eq ?_).trans (h1.trans (Sem.of_eq ?_)) <;> simp
theorem canon_sem (w : List Tok) : Sem (wordL (canonW w)) w := by
  have h := canonF_sem w ⟨[], [], 0⟩ (by intro p hp; simp at hp) (by simp)
  refine h.trans (Sem.of_eq ?_)
  simp [wordL, gapW]

end Go.Proofs.Ytgffippimmokiaa

/- Two words as one, a word the other way, and their laws: no program in it. -/
namespace Go.Proofs.Ytgffippimmokiaa
set_option linter.unusedSimpArgs false
set_option linter.unusedVariables false

/-- r does what a does, and then b: the least relation that the seven rows below build -/
def Cmp (a b r : List Tok) : Prop := ∀ R : List Tok → List Tok → List Tok → Prop, R [] [] [] →
  (∀ (c : UInt8) (a b r : List Tok), R a b r → R a (Tok.P c :: b) (Tok.P c :: r)) →
  (∀ a b r : List Tok, R a b r → R (Tok.X :: a) b (Tok.X :: r)) →
  (∀ a b r : List Tok, R a b r → R (Tok.K :: a) (Tok.K :: b) (Tok.K :: r)) →
  (∀ a b r : List Tok, R a b r → R (Tok.K :: a) (Tok.X :: b) (Tok.X :: r)) →
  (∀ (c : UInt8) (a b r : List Tok), R a b r → R (Tok.P c :: a) (Tok.K :: b) (Tok.P c :: r)) →
  (∀ (c : UInt8) (a b r : List Tok), R a b r → R (Tok.P c :: a) (Tok.X :: b) r) → R a b r
theorem Cmp.nil : Cmp [] [] [] := fun _ h _ _ _ _ _ _ => h
theorem Cmp.put (c : UInt8) {a b r : List Tok} (h : Cmp a b r) : Cmp a (Tok.P c :: b) (Tok.P c :: r) := fun R h0 h1 h2 h3 h4 h5 h6 => h1 c _ _ _ (h R h0 h1 h2 h3 h4 h5 h6)
theorem Cmp.cut {a b r : List Tok} (h : Cmp a b r) : Cmp (Tok.X :: a) b (Tok.X :: r) := fun R h0 h1 h2 h3 h4 h5 h6 => h2 _ _ _ (h R h0 h1 h2 h3 h4 h5 h6)
theorem Cmp.kk {a b r : List Tok} (h : Cmp a b r) : Cmp (Tok.K :: a) (Tok.K :: b) (Tok.K :: r) := fun R h0 h1 h2 h3 h4 h5 h6 => h3 _ _ _ (h R h0 h1 h2 h3 h4 h5 h6)
theorem Cmp.kx {a b r : List Tok} (h : Cmp a b r) : Cmp (Tok.K :: a) (Tok.X :: b) (Tok.X :: r) := fun R h0 h1 h2 h3 h4 h5 h6 => h4 _ _ _ (h R h0 h1 h2 h3 h4 h5 h6)
theorem Cmp.pk (c : UInt8) {a b r : List Tok} (h : Cmp a b r) : Cmp (Tok.P c :: a) (Tok.K :: b) (Tok.P c :: r) := fun R h0 h1 h2 h3 h4 h5 h6 => h5 c _ _ _ (h R h0 h1 h2 h3 h4 h5 h6)
theorem Cmp.px (c : UInt8) {a b r : List Tok} (h : Cmp a b r) : Cmp (Tok.P c :: a) (Tok.X :: b) r := fun R h0 h1 h2 h3 h4 h5 h6 => h6 c _ _ _ (h R h0 h1 h2 h3 h4 h5 h6)

theorem Cmp.ins {a b r : List Tok} (h : Cmp a b r) : inW r = inW a := by
  refine h (fun a b r => inW r = inW a) rfl ?_ ?_ ?_ ?_ ?_ ?_ <;> intros <;> simp [inW, *]
theorem Cmp.outs {a b r : List Tok} (h : Cmp a b r) : outW r = outW b := by
  refine h (fun a b r => outW r = outW b) rfl ?_ ?_ ?_ ?_ ?_ ?_ <;> intros <;> simp [outW, *]
theorem Cmp.mid {a b r : List Tok} (h : Cmp a b r) : outW a = inW b := by
  refine h (fun a b r => outW a = inW b) rfl ?_ ?_ ?_ ?_ ?_ ?_ <;> intros <;> simp [outW, inW, *]
theorem Cmp.dos {a b r : List Tok} (h : Cmp a b r) : ∀ x : List UInt8, x.length = inW a → doW r x = doW b (doW a x) := by
  refine h (fun a b r => ∀ x : List UInt8, x.length = inW a → doW r x = doW b (doW a x)) (fun x _ => rfl) ?_ ?_ ?_ ?_ ?_ ?_
  · intro c a b r ih x hx
    simp only [doW]; rw [ih x hx]
  · intro a b r ih x hx
    cases x with
    | nil => simp [inW] at hx
    | cons d x => simpa [doW] using ih x (by simpa [inW] using hx)
  · intro a b r ih x hx
    cases x with
    | nil => simp [inW] at hx
    | cons d x => simpa [doW] using ih x (by simpa [inW] using hx)
  · intro a b r ih x hx
    cases x with
    | nil => simp [inW] at hx
    | cons d x => simpa [doW] using ih x (by simpa [inW] using hx)
  · intro c a b r ih x hx
    simpa [doW] using ih x (by simpa [inW] using hx)
  · intro c a b r ih x hx
    simpa [doW] using ih x (by simpa [inW] using hx)

/-- which bytes both keep -/
def oneP (p : Nat × Nat) (B : List (Nat × Nat)) : List (Nat × Nat) := (B.filter (fun q => p.2 == q.1)).map (fun q => (p.1, q.2))
def joinP (A B : List (Nat × Nat)) : List (Nat × Nat) := A.flatMap (fun p => oneP p B)
theorem one_none {p : Nat × Nat} {B : List (Nat × Nat)} (h : ∀ q ∈ B, p.2 ≠ q.1) : oneP p B = [] := by
  unfold oneP
  rw [List.filter_eq_nil_iff.2 (by intro q hq; simpa using h q hq)]; rfl
theorem one_cons_ne {p q : Nat × Nat} {B : List (Nat × Nat)} (h : p.2 ≠ q.1) : oneP p (q :: B) = oneP p B := by simp [oneP, h]
theorem one_cons_eq {p q : Nat × Nat} {B : List (Nat × Nat)} (h : p.2 = q.1) : oneP p (q :: B) = (p.1, q.2) :: oneP p B := by simp [oneP, h]
theorem join_cons (p : Nat × Nat) (A B : List (Nat × Nat)) : joinP (p :: A) B = oneP p B ++ joinP A B := rfl
theorem join_skip {A B : List (Nat × Nat)} {q : Nat × Nat} (h : ∀ p ∈ A, p.2 ≠ q.1) : joinP A (q :: B) = joinP A B := by
  unfold joinP
  induction A with
  | nil => rfl
  | cons p A ih =>
    rw [List.flatMap_cons, List.flatMap_cons, one_cons_ne (h p (by simp)), ih (fun r hr => h r (List.mem_cons_of_mem _ hr))]
theorem Cmp.prs {a b r : List Tok} (h : Cmp a b r) : ∀ i j k, pairsW r i k = joinP (pairsW a i j) (pairsW b j k) := by
  refine h (fun a b r => ∀ i j k, pairsW r i k = joinP (pairsW a i j) (pairsW b j k)) (fun i j k => rfl) ?_ ?_ ?_ ?_ ?_ ?_
  · intro c a b r ih i j k
    exact ih i j (k + 1)
  · intro a b r ih i j k
    exact ih (i + 1) j k
  · intro a b r ih i j k
    simp only [pairsW]
    rw [join_cons, one_cons_eq rfl, one_none (fun q hq => by have := (pairsW_ge _ _ _ q hq).1; simp only; omega), join_skip (fun p hp => by have := (pairsW_ge _ _ _ p hp).2; simp only; omega), ← ih]
    rfl
  · intro a b r ih i j k
    simp only [pairsW]
    rw [join_cons, one_none (fun q hq => by have := (pairsW_ge _ _ _ q hq).1; simp only; omega), ← ih]
    rfl
  · intro c a b r ih i j k
    simp only [pairsW]
    rw [join_skip (fun p hp => by have := (pairsW_ge _ _ _ p hp).2; simp only; omega), ← ih]
  · intro c a b r ih i j k
    simp only [pairsW]
    rw [← ih]
def swapP (A : List (Nat × Nat)) : List (Nat × Nat) := A.map (fun p => (p.2, p.1))
theorem swap_swap (A : List (Nat × Nat)) : swapP (swapP A) = A := by simp [swapP, Function.comp_def]
theorem swap_ge (a : List Tok) (i k : Nat) : ∀ p ∈ swapP (pairsW a i k), k ≤ p.1 ∧ i ≤ p.2 := by
  intro p hp
  simp only [swapP, List.mem_map] at hp
  obtain ⟨q, hq, rfl⟩ := hp
  have := pairsW_ge a i k q hq
  exact ⟨this.2, this.1⟩
theorem Cmp.swaps {a b r : List Tok} (h : Cmp a b r) : ∀ i j k, swapP (pairsW r i k) = joinP (swapP (pairsW b j k)) (swapP (pairsW a i j)) := by
  refine h (fun a b r => ∀ i j k, swapP (pairsW r i k) = joinP (swapP (pairsW b j k)) (swapP (pairsW a i j))) (fun i j k => rfl) ?_ ?_ ?_ ?_ ?_ ?_
  · intro c a b r ih i j k
    exact ih i j (k + 1)
  · intro a b r ih i j k
    exact ih (i + 1) j k
  · intro a b r ih i j k
    show (k, i) :: swapP (pairsW r (i + 1) (k + 1)) = joinP ((k, j) :: swapP (pairsW b (j + 1) (k + 1))) ((j, i) :: swapP (pairsW a (i + 1) (j + 1)))
    rw [join_cons, one_cons_eq rfl, one_none (fun q hq => by have := (swap_ge _ _ _ q hq).1; simp only; omega), join_skip (fun p hp => by have := (swap_ge _ _ _ p hp).2; simp only; omega), ← ih]
    rfl
  · intro a b r ih i j k
    show swapP (pairsW r (i + 1) k) = joinP (swapP (pairsW b (j + 1) k)) ((j, i) :: swapP (pairsW a (i + 1) (j + 1)))
    rw [join_skip (fun p hp => by have := (swap_ge _ _ _ p hp).2; simp only; omega), ← ih]
  · intro c a b r ih i j k
    show swapP (pairsW r i (k + 1)) = joinP ((k, j) :: swapP (pairsW b (j + 1) (k + 1))) (swapP (pairsW a i (j + 1)))
    rw [join_cons, one_none (fun q hq => by have := (swap_ge _ _ _ q hq).1; simp only; omega), ← ih]
    rfl
  · intro c a b r ih i j k
    exact ih i (j + 1) k
theorem Cmp.app {a b r c d t : List Tok} (h : Cmp a b r) (h' : Cmp c d t) : Cmp (a ++ c) (b ++ d) (r ++ t) := by
  refine h (fun a b r => Cmp (a ++ c) (b ++ d) (r ++ t)) h' ?_ ?_ ?_ ?_ ?_ ?_
  · exact fun e _ _ _ ih => .put e ih
  · exact fun _ _ _ ih => .cut ih
  · exact fun _ _ _ ih => .kk ih
  · exact fun _ _ _ ih => .kx ih
  · exact fun e _ _ _ ih => .pk e ih
  · exact fun e _ _ _ ih => .px e ih
theorem Cmp.sem {a b r a' b' r' : List Tok} (h : Cmp a b r) (h' : Cmp a' b' r') (ha : Sem a a') (hb : Sem b b') : Sem r r' where
  ins := by rw [h.ins, h'.ins, ha.ins]
  outs := by rw [h.outs, h'.outs, hb.outs]
  dos := fun x hx => by
    have hx' : x.length = inW a := by rw [hx, h.ins]
    rw [h.dos x hx', h'.dos x (by rw [hx', ha.ins]), ← ha.dos x hx', hb.dos _ (by rw [doW_len _ _ hx', h.mid])]
  prs := fun i k => by rw [h.prs i 0 k, h'.prs i 0 k, ha.prs, hb.prs]
theorem Cmp.onlyX (n : Nat) : Cmp (List.replicate n .X) [] (List.replicate n .X) := by
  induction n with
  | zero => exact .nil
  | succ n ih => exact .cut ih
theorem cmp_exists (a b : List Tok) (h : outW a = inW b) : ∃ r, Cmp a b r := by
  induction b generalizing a with
  | nil =>
    induction a with
    | nil => exact ⟨[], .nil⟩
    | cons t a ih =>
      cases t using Tok.by3 with
      | X => obtain ⟨r, hr⟩ := ih (by simpa [outW, inW] using h); exact ⟨_, .cut hr⟩
      | K => simp [outW, inW] at h
      | P c => simp [outW, inW] at h
  | cons t b ih =>
    cases t using Tok.by3 with
    | P c => obtain ⟨r, hr⟩ := ih a (by simpa [inW] using h); exact ⟨_, .put c hr⟩
    | K =>
      induction a with
      | nil => simp [outW, inW] at h
      | cons u a iha =>
        cases u using Tok.by3 with
        | X => obtain ⟨r, hr⟩ := iha (by simpa [outW] using h); exact ⟨_, .cut hr⟩
        | K => obtain ⟨r, hr⟩ := ih a (by simpa [outW, inW] using h); exact ⟨_, .kk hr⟩
        | P c => obtain ⟨r, hr⟩ := ih a (by simpa [outW, inW] using h); exact ⟨_, .pk c hr⟩
    | X =>
      induction a with
      | nil => simp [outW, inW] at h
      | cons u a iha =>
        cases u using Tok.by3 with
        | X => obtain ⟨r, hr⟩ := iha (by simpa [outW] using h); exact ⟨_, .cut hr⟩
        | K => obtain ⟨r, hr⟩ := ih a (by simpa [outW, inW] using h); exact ⟨_, .kx hr⟩
        | P c => obtain ⟨r, hr⟩ := ih a (by simpa [outW, inW] using h); exact ⟨_, .px c hr⟩
theorem Cmp.unitL (b : List Tok) : Cmp (List.replicate (inW b) .K) b b := by
  induction b with
  | nil => exact .nil
  | cons t b ih =>
    cases t using Tok.by3 with
    | K => exact .kk ih
    | X => exact .kx ih
    | P c => exact .put c ih
theorem Cmp.unitR (a : List Tok) : Cmp a (List.replicate (outW a) .K) a := by
  induction a with
  | nil => exact .nil
  | cons t a ih =>
    cases t using Tok.by3 with
    | K => exact .kk ih
    | X => exact .cut ih
    | P c => exact .pk c ih
theorem join_assoc (A B C : List (Nat × Nat)) : joinP (joinP A B) C = joinP A (joinP B C) := by
  have h1 : ∀ (p : Nat × Nat) (B : List (Nat × Nat)), joinP (oneP p B) C = oneP p (joinP B C) := by
    intro p B
    induction B with
    | nil => rfl
    | cons q B ih =>
      have h2 : oneP p (joinP (q :: B) C) = oneP p (oneP q C) ++ oneP p (joinP B C) := by rw [join_cons]; simp [oneP]
      rw [h2]
      by_cases h : p.2 = q.1
      · rw [one_cons_eq h, join_cons, ih]
        congr 1
        simp [oneP, h, List.filter_map, Function.comp_def]
      · rw [one_cons_ne h, ih]
        have : oneP p (oneP q C) = [] := one_none (fun r hr => by
          simp only [oneP, List.mem_map] at hr
          obtain ⟨x, _, rfl⟩ := hr
          exact h)
        rw [this]; rfl
  induction A with
  | nil => rfl
  | cons p A ih =>
    have h3 : joinP (oneP p B ++ joinP A B) C = joinP (oneP p B) C ++ joinP (joinP A B) C := by simp [joinP]
    rw [join_cons, h3, ih, h1, join_cons]
theorem Cmp.assoc {a b c x y p q : List Tok} (hx : Cmp a b x) (hy : Cmp b c y) (hp : Cmp x c p) (hq : Cmp a y q) : Sem p q where
  ins := by rw [hp.ins, hx.ins, hq.ins]
  outs := by rw [hp.outs, hq.outs, hy.outs]
  dos := fun z hz => by
    have hz' : z.length = inW a := by rw [hz, hp.ins, hx.ins]
    rw [hp.dos z (by rw [hz', hx.ins]), hx.dos z hz', hq.dos z hz', hy.dos _ (by rw [doW_len _ _ hz', hx.mid])]
  prs := fun i k => by rw [hp.prs i 0 k, hx.prs i 0 0, hq.prs i 0 k, hy.prs 0 0 k, join_assoc]

/-- a word the other way -/
def turnW : List Tok → List UInt8 → List Tok
  | [], _ => []
  | ⟨.inl true⟩ :: w, s => .K :: turnW w (s.drop 1)
  | ⟨.inl false⟩ :: w, s => (s.take 1).map .P ++ turnW w (s.drop 1)
  | ⟨.inr _⟩ :: w, s => .X :: turnW w s
theorem turn_app (a b : List Tok) (x y : List UInt8) (h : x.length = inW a) : turnW (a ++ b) (x ++ y) = turnW a x ++ turnW b y := by
  induction a generalizing x with
  | nil =>
    have : x = [] := List.length_eq_zero_iff.1 h
    subst this; rfl
  | cons t a ih =>
    cases t using Tok.by3 with
    | K =>
      cases x with
      | nil => simp [inW] at h
      | cons c x => simp [turnW, ih x (by simpa [inW] using h)]
    | X =>
      cases x with
      | nil => simp [inW] at h
      | cons c x => simp [turnW, ih x (by simpa [inW] using h)]
    | P c => simp [turnW, ih x (by simpa [inW] using h)]
theorem turn_props (w : List Tok) (s : List UInt8) (h : s.length = inW w) : inW (turnW w s) = outW w ∧ outW (turnW w s) = inW w ∧ doW (turnW w s) (doW w s) = s ∧ ∀ i k, pairsW (turnW w s) k i = swapP (pairsW w i k) := by
  induction w generalizing s with
  | nil =>
    have : s = [] := List.length_eq_zero_iff.1 h
    subst this
    exact ⟨rfl, rfl, rfl, fun _ _ => rfl⟩
  | cons t w ih =>
    cases t using Tok.by3 with
    | K =>
      cases s with
      | nil => simp [inW] at h
      | cons c s =>
        obtain ⟨h1, h2, h3, h4⟩ := ih s (by simpa [inW] using h)
        exact ⟨by simp [turnW, inW, outW, h1], by simp [turnW, inW, outW, h2], by simp [turnW, doW, h3], fun i k => by simp [turnW, pairsW, swapP] at h4 ⊢; rw [h4]⟩
    | X =>
      cases s with
      | nil => simp [inW] at h
      | cons c s =>
        obtain ⟨h1, h2, h3, h4⟩ := ih s (by simpa [inW] using h)
        exact ⟨by simp [turnW, inW, outW, h1], by simp [turnW, inW, outW, h2], by simp [turnW, doW, h3], fun i k => by simp [turnW, pairsW]; rw [h4]⟩
    | P c =>
      obtain ⟨h1, h2, h3, h4⟩ := ih s (by simpa [inW] using h)
      exact ⟨by simp [turnW, inW, outW, h1], by simp [turnW, inW, outW, h2], by simp [turnW, doW, h3], fun i k => by simp [turnW, pairsW]; rw [h4]⟩
/-- the form of a word the other way: what the document says -/
theorem turn_made (w : List Tok) (s : List UInt8) (h : s.length = inW w) : canonW (turnW w s) = madeL (outW w) (swapP (pairsW w 0 0)) s := by
  obtain ⟨h1, h2, h3, h4⟩ := turn_props w s h
  have hx : (doW w s).length = inW (turnW w s) := by rw [doW_len _ _ h, h1]
  rw [← canon_made _ _ hx, h1, h3, h4]
theorem turn_sem {w w' : List Tok} (hs : Sem w w') (s : List UInt8) (h : s.length = inW w) : canonW (turnW w s) = canonW (turnW w' s) := by
  rw [turn_made w s h, turn_made w' s (by rw [h, hs.ins]), hs.outs, hs.prs]
theorem turn_twice (w : List Tok) (s : List UInt8) (h : s.length = inW w) : canonW (turnW (turnW w s) (doW w s)) = canonW w := by
  obtain ⟨h1, h2, h3, h4⟩ := turn_props w s h
  rw [turn_made _ _ (by rw [doW_len _ _ h, h1]), h4, swap_swap, h2, canon_made _ _ h]
theorem turn_cmp {a b r q : List Tok} (hr : Cmp a b r) (s : List UInt8) (h : s.length = inW a) (hq : Cmp (turnW b (doW a s)) (turnW a s) q) : canonW (turnW r s) = canonW q := by
  have hb : (doW a s).length = inW b := by rw [doW_len _ _ h, hr.mid]
  obtain ⟨a1, a2, a3, a4⟩ := turn_props a s h
  obtain ⟨b1, b2, b3, b4⟩ := turn_props b (doW a s) hb
  have hu : (doW b (doW a s)).length = inW (turnW b (doW a s)) := by rw [doW_len _ _ hb, b1]
  rw [turn_made r s (by rw [h, hr.ins]), ← canon_made q (doW b (doW a s)) (by rw [hu, hq.ins]), hq.ins, b1, hr.outs, hq.dos _ hu, b3, a3, hq.prs 0 0 0, a4, b4, hr.swaps 0 0 0]

end Go.Proofs.Ytgffippimmokiaa
