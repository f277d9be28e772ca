/- Two words as one, a word the other way, and their laws: no program in it. -/
import Derived.Test.YtjfeaedjifpahaaWords
namespace Go.Proofs.Ytjfeaedjifpahaa
set_option linter.unusedSimpArgs false
set_option linter.unusedVariables false

/-- r does what a does, and then b: the least relation that the seven rows below build -/
def Cmp (a b r : List Tok) : Prop := ∀ R : List Tok → List Tok → List Tok → Prop, R [] [] [] →
  (∀ (c : UInt8) (a b r : List Tok), R a b r → R a (Tok.P c :: b) (Tok.P c :: r)) →
  (∀ a b r : List Tok, R a b r → R (Tok.X :: a) b (Tok.X :: r)) →
  (∀ a b r : List Tok, R a b r → R (Tok.K :: a) (Tok.K :: b) (Tok.K :: r)) →
  (∀ a b r : List Tok, R a b r → R (Tok.K :: a) (Tok.X :: b) (Tok.X :: r)) →
  (∀ (c : UInt8) (a b r : List Tok), R a b r → R (Tok.P c :: a) (Tok.K :: b) (Tok.P c :: r)) →
  (∀ (c : UInt8) (a b r : List Tok), R a b r → R (Tok.P c :: a) (Tok.X :: b) r) → R a b r
theorem Cmp.nil : Cmp [] [] [] := fun _ h _ _ _ _ _ _ => h
theorem Cmp.put (c : UInt8) {a b r : List Tok} (h : Cmp a b r) : Cmp a (Tok.P c :: b) (Tok.P c :: r) := fun R h0 h1 h2 h3 h4 h5 h6 => h1 c _ _ _ (h R h0 h1 h2 h3 h4 h5 h6)
theorem Cmp.cut {a b r : List Tok} (h : Cmp a b r) : Cmp (Tok.X :: a) b (Tok.X :: r) := fun R h0 h1 h2 h3 h4 h5 h6 => h2 _ _ _ (h R h0 h1 h2 h3 h4 h5 h6)
theorem Cmp.kk {a b r : List Tok} (h : Cmp a b r) : Cmp (Tok.K :: a) (Tok.K :: b) (Tok.K :: r) := fun R h0 h1 h2 h3 h4 h5 h6 => h3 _ _ _ (h R h0 h1 h2 h3 h4 h5 h6)
theorem Cmp.kx {a b r : List Tok} (h : Cmp a b r) : Cmp (Tok.K :: a) (Tok.X :: b) (Tok.X :: r) := fun R h0 h1 h2 h3 h4 h5 h6 => h4 _ _ _ (h R h0 h1 h2 h3 h4 h5 h6)
theorem Cmp.pk (c : UInt8) {a b r : List Tok} (h : Cmp a b r) : Cmp (Tok.P c :: a) (Tok.K :: b) (Tok.P c :: r) := fun R h0 h1 h2 h3 h4 h5 h6 => h5 c _ _ _ (h R h0 h1 h2 h3 h4 h5 h6)
theorem Cmp.px (c : UInt8) {a b r : List Tok} (h : Cmp a b r) : Cmp (Tok.P c :: a) (Tok.X :: b) r := fun R h0 h1 h2 h3 h4 h5 h6 => h6 c _ _ _ (h R h0 h1 h2 h3 h4 h5 h6)

theorem Cmp.ins {a b r : List Tok} (h : Cmp a b r) : inW r = inW a := by
  refine h (fun a b r => inW r = inW a) rfl ?_ ?_ ?_ ?_ ?_ ?_ <;> intros <;> simp [inW, *]
theorem Cmp.outs {a b r : List Tok} (h : Cmp a b r) : outW r = outW b := by
  refine h (fun a b r => outW r = outW b) rfl ?_ ?_ ?_ ?_ ?_ ?_ <;> intros <;> simp [outW, *]
theorem Cmp.mid {a b r : List Tok} (h : Cmp a b r) : outW a = inW b := by
  refine h (fun a b r => outW a = inW b) rfl ?_ ?_ ?_ ?_ ?_ ?_ <;> intros <;> simp [outW, inW, *]
theorem Cmp.dos {a b r : List Tok} (h : Cmp a b r) : ∀ x : List UInt8, x.length = inW a → doW r x = doW b (doW a x) := by
  refine h (fun a b r => ∀ x : List UInt8, x.length = inW a → doW r x = doW b (doW a x)) (fun x _ => rfl) ?_ ?_ ?_ ?_ ?_ ?_
  · intro c a b r ih x hx
    simp only [doW]; rw [ih x hx]
  · intro a b r ih x hx
    cases x with
    | nil => simp [inW] at hx
    | cons d x => simpa [doW] using ih x (by simpa [inW] using hx)
  · intro a b r ih x hx
    cases x with
    | nil => simp [inW] at hx
    | cons d x => simpa [doW] using ih x (by simpa [inW] using hx)
  · intro a b r ih x hx
    cases x with
    | nil => simp [inW] at hx
    | cons d x => simpa [doW] using ih x (by simpa [inW] using hx)
  · intro c a b r ih x hx
    simpa [doW] using ih x (by simpa [inW] using hx)
  · intro c a b r ih x hx
    simpa [doW] using ih x (by simpa [inW] using hx)

/-- which bytes both keep -/
def oneP (p : Nat × Nat) (B : List (Nat × Nat)) : List (Nat × Nat) := (B.filter (fun q => p.2 == q.1)).map (fun q => (p.1, q.2))
def joinP (A B : List (Nat × Nat)) : List (Nat × Nat) := A.flatMap (fun p => oneP p B)
theorem one_none {p : Nat × Nat} {B : List (Nat × Nat)} (h : ∀ q ∈ B, p.2 ≠ q.1) : oneP p B = [] := by
  unfold oneP
  rw [List.filter_eq_nil_iff.2 (by intro q hq; simpa using h q hq)]; rfl
theorem one_cons_ne {p q : Nat × Nat} {B : List (Nat × Nat)} (h : p.2 ≠ q.1) : oneP p (q :: B) = oneP p B := by simp [oneP, h]
theorem one_cons_eq {p q : Nat × Nat} {B : List (Nat × Nat)} (h : p.2 = q.1) : oneP p (q :: B) = (p.1, q.2) :: oneP p B := by simp [oneP, h]
theorem join_cons (p : Nat × Nat) (A B : List (Nat × Nat)) : joinP (p :: A) B = oneP p B ++ joinP A B := rfl
theorem join_skip {A B : List (Nat × Nat)} {q : Nat × Nat} (h : ∀ p ∈ A, p.2 ≠ q.1) : joinP A (q :: B) = joinP A B := by
  unfold joinP
  induction A with
  | nil => rfl
  | cons p A ih =>
    rw [List.flatMap_cons, List.flatMap_cons, one_cons_ne (h p (by simp)), ih (fun r hr => h r (List.mem_cons_of_mem _ hr))]
theorem Cmp.prs {a b r : List Tok} (h : Cmp a b r) : ∀ i j k, pairsW r i k = joinP (pairsW a i j) (pairsW b j k) := by
  refine h (fun a b r => ∀ i j k, pairsW r i k = joinP (pairsW a i j) (pairsW b j k)) (fun i j k => rfl) ?_ ?_ ?_ ?_ ?_ ?_
  · intro c a b r ih i j k
    exact ih i j (k + 1)
  · intro a b r ih i j k
    exact ih (i + 1) j k
  · intro a b r ih i j k
    simp only [pairsW]
    rw [join_cons, one_cons_eq rfl, one_none (fun q hq => by have := (pairsW_ge _ _ _ q hq).1; simp only; omega), join_skip (fun p hp => by have := (pairsW_ge _ _ _ p hp).2; simp only; omega), ← ih]
    rfl
  · intro a b r ih i j k
    simp only [pairsW]
    rw [join_cons, one_none (fun q hq => by have := (pairsW_ge _ _ _ q hq).1; simp only; omega), ← ih]
    rfl
  · intro c a b r ih i j k
    simp only [pairsW]
    rw [join_skip (fun p hp => by have := (pairsW_ge _ _ _ p hp).2; simp only; omega), ← ih]
  · intro c a b r ih i j k
    simp only [pairsW]
    rw [← ih]
def swapP (A : List (Nat × Nat)) : List (Nat × Nat) := A.map (fun p => (p.2, p.1))
theorem swap_swap (A : List (Nat × Nat)) : swapP (swapP A) = A := by simp [swapP, Function.comp_def]
theorem swap_ge (a : List Tok) (i k : Nat) : ∀ p ∈ swapP (pairsW a i k), k ≤ p.1 ∧ i ≤ p.2 := by
  intro p hp
  simp only [swapP, List.mem_map] at hp
  obtain ⟨q, hq, rfl⟩ := hp
  have := pairsW_ge a i k q hq
  exact ⟨this.2, this.1⟩
theorem Cmp.swaps {a b r : List Tok} (h : Cmp a b r) : ∀ i j k, swapP (pairsW r i k) = joinP (swapP (pairsW b j k)) (swapP (pairsW a i j)) := by
  refine h (fun a b r => ∀ i j k, swapP (pairsW r i k) = joinP (swapP (pairsW b j k)) (swapP (pairsW a i j))) (fun i j k => rfl) ?_ ?_ ?_ ?_ ?_ ?_
  · intro c a b r ih i j k
    exact ih i j (k + 1)
  · intro a b r ih i j k
    exact ih (i + 1) j k
  · intro a b r ih i j k
    show (k, i) :: swapP (pairsW r (i + 1) (k + 1)) = joinP ((k, j) :: swapP (pairsW b (j + 1) (k + 1))) ((j, i) :: swapP (pairsW a (i + 1) (j + 1)))
    rw [join_cons, one_cons_eq rfl, one_none (fun q hq => by have := (swap_ge _ _ _ q hq).1; simp only; omega), join_skip (fun p hp => by have := (swap_ge _ _ _ p hp).2; simp only; omega), ← ih]
    rfl
  · intro a b r ih i j k
    show swapP (pairsW r (i + 1) k) = joinP (swapP (pairsW b (j + 1) k)) ((j, i) :: swapP (pairsW a (i + 1) (j + 1)))
    rw [join_skip (fun p hp => by have := (swap_ge _ _ _ p hp).2; simp only; omega), ← ih]
  · intro c a b r ih i j k
    show swapP (pairsW r i (k + 1)) = joinP ((k, j) :: swapP (pairsW b (j + 1) (k + 1))) (swapP (pairsW a i (j + 1)))
    rw [join_cons, one_none (fun q hq => by have := (swap_ge _ _ _ q hq).1; simp only; omega), ← ih]
    rfl
  · intro c a b r ih i j k
    exact ih i (j + 1) k
theorem Cmp.app {a b r c d t : List Tok} (h : Cmp a b r) (h' : Cmp c d t) : Cmp (a ++ c) (b ++ d) (r ++ t) := by
  refine h (fun a b r => Cmp (a ++ c) (b ++ d) (r ++ t)) h' ?_ ?_ ?_ ?_ ?_ ?_
  · exact fun e _ _ _ ih => .put e ih
  · exact fun _ _ _ ih => .cut ih
  · exact fun _ _ _ ih => .kk ih
  · exact fun _ _ _ ih => .kx ih
  · exact fun e _ _ _ ih => .pk e ih
  · exact fun e _ _ _ ih => .px e ih
theorem Cmp.sem {a b r a' b' r' : List Tok} (h : Cmp a b r) (h' : Cmp a' b' r') (ha : Sem a a') (hb : Sem b b') : Sem r r' where
  ins := by rw [h.ins, h'.ins, ha.ins]
  outs := by rw [h.outs, h'.outs, hb.outs]
  dos := fun x hx => by
    have hx' : x.length = inW a := by rw [hx, h.ins]
    rw [h.dos x hx', h'.dos x (by rw [hx', ha.ins]), ← ha.dos x hx', hb.dos _ (by rw [doW_len _ _ hx', h.mid])]
  prs := fun i k => by rw [h.prs i 0 k, h'.prs i 0 k, ha.prs, hb.prs]
theorem Cmp.onlyX (n : Nat) : Cmp (List.replicate n .X) [] (List.replicate n .X) := by
  induction n with
  | zero => exact .nil
  | succ n ih => exact .cut ih
theorem cmp_exists (a b : List Tok) (h : outW a = inW b) : ∃ r, Cmp a b r := by
  induction b generalizing a with
  | nil =>
    induction a with
    | nil => exact ⟨[], .nil⟩
    | cons t a ih =>
      cases t using Tok.by3 with
      | X => obtain ⟨r, hr⟩ := ih (by simpa [outW, inW] using h); exact ⟨_, .cut hr⟩
      | K => simp [outW, inW] at h
      | P c => simp [outW, inW] at h
  | cons t b ih =>
    cases t using Tok.by3 with
    | P c => obtain ⟨r, hr⟩ := ih a (by simpa [inW] using h); exact ⟨_, .put c hr⟩
    | K =>
      induction a with
      | nil => simp [outW, inW] at h
      | cons u a iha =>
        cases u using Tok.by3 with
        | X => obtain ⟨r, hr⟩ := iha (by simpa [outW] using h); exact ⟨_, .cut hr⟩
        | K => obtain ⟨r, hr⟩ := ih a (by simpa [outW, inW] using h); exact ⟨_, .kk hr⟩
        | P c => obtain ⟨r, hr⟩ := ih a (by simpa [outW, inW] using h); exact ⟨_, .pk c hr⟩
    | X =>
      induction a with
      | nil => simp [outW, inW] at h
      | cons u a iha =>
        cases u using Tok.by3 with
        | X => obtain ⟨r, hr⟩ := iha (by simpa [outW] using h); exact ⟨_, .cut hr⟩
        | K => obtain ⟨r, hr⟩ := ih a (by simpa [outW, inW] using h); exact ⟨_, .kx hr⟩
        | P c => obtain ⟨r, hr⟩ := ih a (by simpa [outW, inW] using h); exact ⟨_, .px c hr⟩
theorem Cmp.unitL (b : List Tok) : Cmp (List.replicate (inW b) .K) b b := by
  induction b with
  | nil => exact .nil
  | cons t b ih =>
    cases t using Tok.by3 with
    | K => exact .kk ih
    | X => exact .kx ih
    | P c => exact .put c ih
theorem Cmp.unitR (a : List Tok) : Cmp a (List.replicate (outW a) .K) a := by
  induction a with
  | nil => exact .nil
  | cons t a ih =>
    cases t using Tok.by3 with
    | K => exact .kk ih
    | X => exact .cut ih
    | P c => exact .pk c ih
theorem join_assoc (A B C : List (Nat × Nat)) : joinP (joinP A B) C = joinP A (joinP B C) := by
  have h1 : ∀ (p : Nat × Nat) (B : List (Nat × Nat)), joinP (oneP p B) C = oneP p (joinP B C) := by
    intro p B
    induction B with
    | nil => rfl
    | cons q B ih =>
      have h2 : oneP p (joinP (q :: B) C) = oneP p (oneP q C) ++ oneP p (joinP B C) := by rw [join_cons]; simp [oneP]
      rw [h2]
      by_cases h : p.2 = q.1
      · rw [one_cons_eq h, join_cons, ih]
        congr 1
        simp [oneP, h, List.filter_map, Function.comp_def]
      · rw [one_cons_ne h, ih]
        have : oneP p (oneP q C) = [] := one_none (fun r hr => by
          simp only [oneP, List.mem_map] at hr
          obtain ⟨x, _, rfl⟩ := hr
          exact h)
        rw [this]; rfl
  induction A with
  | nil => rfl
  | cons p A ih =>
    have h3 : joinP (oneP p B ++ joinP A B) C = joinP (oneP p B) C ++ joinP (joinP A B) C := by simp [joinP]
    rw [join_cons, h3, ih, h1, join_cons]
theorem Cmp.assoc {a b c x y p q : List Tok} (hx : Cmp a b x) (hy : Cmp b c y) (hp : Cmp x c p) (hq : Cmp a y q) : Sem p q where
  ins := by rw [hp.ins, hx.ins, hq.ins]
  outs := by rw [hp.outs, hq.outs, hy.outs]
  dos := fun z hz => by
    have hz' : z.length = inW a := by rw [hz, hp.ins, hx.ins]
    rw [hp.dos z (by rw [hz', hx.ins]), hx.dos z hz', hq.dos z hz', hy.dos _ (by rw [doW_len _ _ hz', hx.mid])]
  prs := fun i k => by rw [hp.prs i 0 k, hx.prs i 0 0, hq.prs i 0 k, hy.prs 0 0 k, join_assoc]

/-- a word the other way -/
def turnW : List Tok → List UInt8 → List Tok
  | [], _ => []
  | ⟨.inl true⟩ :: w, s => .K :: turnW w (s.drop 1)
  | ⟨.inl false⟩ :: w, s => (s.take 1).map .P ++ turnW w (s.drop 1)
  | ⟨.inr _⟩ :: w, s => .X :: turnW w s
theorem turn_app (a b : List Tok) (x y : List UInt8) (h : x.length = inW a) : turnW (a ++ b) (x ++ y) = turnW a x ++ turnW b y := by
  induction a generalizing x with
  | nil =>
    have : x = [] := List.length_eq_zero_iff.1 h
    subst this; rfl
  | cons t a ih =>
    cases t using Tok.by3 with
    | K =>
      cases x with
      | nil => simp [inW] at h
      | cons c x => simp [turnW, ih x (by simpa [inW] using h)]
    | X =>
      cases x with
      | nil => simp [inW] at h
      | cons c x => simp [turnW, ih x (by simpa [inW] using h)]
    | P c => simp [turnW, ih x (by simpa [inW] using h)]
theorem turn_props (w : List Tok) (s : List UInt8) (h : s.length = inW w) : inW (turnW w s) = outW w ∧ outW (turnW w s) = inW w ∧ doW (turnW w s) (doW w s) = s ∧ ∀ i k, pairsW (turnW w s) k i = swapP (pairsW w i k) := by
  induction w generalizing s with
  | nil =>
    have : s = [] := List.length_eq_zero_iff.1 h
    subst this
    exact ⟨rfl, rfl, rfl, fun _ _ => rfl⟩
  | cons t w ih =>
    cases t using Tok.by3 with
    | K =>
      cases s with
      | nil => simp [inW] at h
      | cons c s =>
        obtain ⟨h1, h2, h3, h4⟩ := ih s (by simpa [inW] using h)
        exact ⟨by simp [turnW, inW, outW, h1], by simp [turnW, inW, outW, h2], by simp [turnW, doW, h3], fun i k => by simp [turnW, pairsW, swapP] at h4 ⊢; rw [h4]⟩
    | X =>
      cases s with
      | nil => simp [inW] at h
      | cons c s =>
        obtain ⟨h1, h2, h3, h4⟩ := ih s (by simpa [inW] using h)
        exact ⟨by simp [turnW, inW, outW, h1], by simp [turnW, inW, outW, h2], by simp [turnW, doW, h3], fun i k => by simp [turnW, pairsW]; rw [h4]⟩
    | P c =>
      obtain ⟨h1, h2, h3, h4⟩ := ih s (by simpa [inW] using h)
      exact ⟨by simp [turnW, inW, outW, h1], by simp [turnW, inW, outW, h2], by simp [turnW, doW, h3], fun i k => by simp [turnW, pairsW]; rw [h4]⟩
/-- the form of a word the other way: what the document says -/
theorem turn_made (w : List Tok) (s : List UInt8) (h : s.length = inW w) : canonW (turnW w s) = madeL (outW w) (swapP (pairsW w 0 0)) s := by
  obtain ⟨h1, h2, h3, h4⟩ := turn_props w s h
  have hx : (doW w s).length = inW (turnW w s) := by rw [doW_len _ _ h, h1]
  rw [← canon_made _ _ hx, h1, h3, h4]
theorem turn_sem {w w' : List Tok} (hs : Sem w w') (s : List UInt8) (h : s.length = inW w) : canonW (turnW w s) = canonW (turnW w' s) := by
  rw [turn_made w s h, turn_made w' s (by rw [h, hs.ins]), hs.outs, hs.prs]
theorem turn_twice (w : List Tok) (s : List UInt8) (h : s.length = inW w) : canonW (turnW (turnW w s) (doW w s)) = canonW w := by
  obtain ⟨h1, h2, h3, h4⟩ := turn_props w s h
  rw [turn_made _ _ (by rw [doW_len _ _ h, h1]), h4, swap_swap, h2, canon_made _ _ h]
theorem turn_cmp {a b r q : List Tok} (hr : Cmp a b r) (s : List UInt8) (h : s.length = inW a) (hq : Cmp (turnW b (doW a s)) (turnW a s) q) : canonW (turnW r s) = canonW q := by
  have hb : (doW a s).length = inW b := by rw [doW_len _ _ h, hr.mid]
  obtain ⟨a1, a2, a3, a4⟩ := turn_props a s h
  obtain ⟨b1, b2, b3, b4⟩ := turn_props b (doW a s) hb
  have hu : (doW b (doW a s)).length = inW (turnW b (doW a s)) := by rw [doW_len _ _ hb, b1]
  rw [turn_made r s (by rw [h, hr.ins]), ← canon_made q (doW b (doW a s)) (by rw [hu, hq.ins]), hq.ins, b1, hr.outs, hq.dos _ hu, b3, a3, hq.prs 0 0 0, a4, b4, hr.swaps 0 0 0]

end Go.Proofs.Ytjfeaedjifpahaa
