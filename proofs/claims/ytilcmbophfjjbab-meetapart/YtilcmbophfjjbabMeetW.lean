/- Two words of one text, done together: what is left of each; and their laws: no program in it. -/
import Derived.Test.YtilcmbophfjjbabCompL
namespace Go.Proofs.Ytilcmbophfjjbab
set_option linter.unusedSimpArgs false
set_option linter.unusedVariables false

/-- nothing is put at the place where the word stands -/
def NoPut : List Tok → Prop
  | ⟨.inr _⟩ :: _ => False
  | _ => True
/-- a and b are of one text: x is left of a behind b, y is left of b behind a; of what both put at one place a's comes first -/
def Mt (a b x y : List Tok) : Prop := ∀ R : List Tok → List Tok → List Tok → List Tok → Prop, R [] [] [] [] →
  (∀ (c : UInt8) (a b x y : List Tok), R a b x y → R (Tok.P c :: a) b (Tok.P c :: x) (Tok.K :: y)) →
  (∀ (c : UInt8) (a b x y : List Tok), NoPut a → R a b x y → R a (Tok.P c :: b) (Tok.K :: x) (Tok.P c :: y)) →
  (∀ a b x y : List Tok, R a b x y → R (Tok.K :: a) (Tok.K :: b) (Tok.K :: x) (Tok.K :: y)) →
  (∀ a b x y : List Tok, R a b x y → R (Tok.K :: a) (Tok.X :: b) x (Tok.X :: y)) →
  (∀ a b x y : List Tok, R a b x y → R (Tok.X :: a) (Tok.K :: b) (Tok.X :: x) y) →
  (∀ a b x y : List Tok, R a b x y → R (Tok.X :: a) (Tok.X :: b) x y) → R a b x y
theorem Mt.nil : Mt [] [] [] [] := fun _ h _ _ _ _ _ _ => h
theorem Mt.pa (c : UInt8) {a b x y : List Tok} (h : Mt a b x y) : Mt (Tok.P c :: a) b (Tok.P c :: x) (Tok.K :: y) := fun R h0 h1 h2 h3 h4 h5 h6 => h1 c _ _ _ _ (h R h0 h1 h2 h3 h4 h5 h6)
theorem Mt.pb (c : UInt8) {a b x y : List Tok} (hn : NoPut a) (h : Mt a b x y) : Mt a (Tok.P c :: b) (Tok.K :: x) (Tok.P c :: y) := fun R h0 h1 h2 h3 h4 h5 h6 => h2 c _ _ _ _ hn (h R h0 h1 h2 h3 h4 h5 h6)
theorem Mt.kk {a b x y : List Tok} (h : Mt a b x y) : Mt (Tok.K :: a) (Tok.K :: b) (Tok.K :: x) (Tok.K :: y) := fun R h0 h1 h2 h3 h4 h5 h6 => h3 _ _ _ _ (h R h0 h1 h2 h3 h4 h5 h6)
theorem Mt.kx {a b x y : List Tok} (h : Mt a b x y) : Mt (Tok.K :: a) (Tok.X :: b) x (Tok.X :: y) := fun R h0 h1 h2 h3 h4 h5 h6 => h4 _ _ _ _ (h R h0 h1 h2 h3 h4 h5 h6)
theorem Mt.xk {a b x y : List Tok} (h : Mt a b x y) : Mt (Tok.X :: a) (Tok.K :: b) (Tok.X :: x) y := fun R h0 h1 h2 h3 h4 h5 h6 => h5 _ _ _ _ (h R h0 h1 h2 h3 h4 h5 h6)
theorem Mt.xx {a b x y : List Tok} (h : Mt a b x y) : Mt (Tok.X :: a) (Tok.X :: b) x y := fun R h0 h1 h2 h3 h4 h5 h6 => h6 _ _ _ _ (h R h0 h1 h2 h3 h4 h5 h6)

theorem Mt.sizes {a b x y : List Tok} (h : Mt a b x y) : inW a = inW b ∧ inW x = outW b ∧ inW y = outW a ∧ outW x = outW y := by
  refine h (fun a b x y => inW a = inW b ∧ inW x = outW b ∧ inW y = outW a ∧ outW x = outW y) ⟨rfl, rfl, rfl, rfl⟩ ?_ ?_ ?_ ?_ ?_ ?_
  · intro c a b x y ih; simp only [inW, outW]; omega
  · intro c a b x y _ ih; simp only [inW, outW]; omega
  · intro a b x y ih; simp only [inW, outW]; omega
  · intro a b x y ih; simp only [inW, outW]; omega
  · intro a b x y ih; simp only [inW, outW]; omega
  · intro a b x y ih; simp only [inW, outW]; omega
/-- one and then what is left of the other is the other and then what is left of the one -/
theorem Mt.same {a b x y : List Tok} (h : Mt a b x y) : ∃ r, Cmp a y r ∧ Cmp b x r := by
  refine h (fun a b x y => ∃ r, Cmp a y r ∧ Cmp b x r) ⟨[], .nil, .nil⟩ ?_ ?_ ?_ ?_ ?_ ?_
  · rintro c a b x y ⟨r, h1, h2⟩; exact ⟨_, .pk c h1, .put c h2⟩
  · rintro c a b x y _ ⟨r, h1, h2⟩; exact ⟨_, .put c h1, .pk c h2⟩
  · rintro a b x y ⟨r, h1, h2⟩; exact ⟨_, .kk h1, .kk h2⟩
  · rintro a b x y ⟨r, h1, h2⟩; exact ⟨_, .kx h1, .cut h2⟩
  · rintro a b x y ⟨r, h1, h2⟩; exact ⟨_, .cut h1, .kx h2⟩
  · rintro a b x y ⟨r, h1, h2⟩; exact ⟨_, .cut h1, .cut h2⟩
theorem mt_exists (a b : List Tok) (h : inW a = inW b) : ∃ x y, Mt a b x y := by
  induction a generalizing b with
  | nil =>
    induction b with
    | nil => exact ⟨[], [], .nil⟩
    | cons t b ih =>
      cases t using Tok.by3 with
      | K => simp [inW] at h
      | X => simp [inW] at h
      | P c => obtain ⟨x, y, hm⟩ := ih (by simpa [inW] using h); exact ⟨_, _, .pb c trivial hm⟩
  | cons t a ih =>
    cases t using Tok.by3 with
    | P c => obtain ⟨x, y, hm⟩ := ih b (by simpa [inW] using h); exact ⟨_, _, .pa c hm⟩
    | K =>
      induction b with
      | nil => simp [inW] at h
      | cons u b ihb =>
        cases u using Tok.by3 with
        | P c => obtain ⟨x, y, hm⟩ := ihb (by simpa [inW] using h); exact ⟨_, _, .pb c trivial hm⟩
        | K => obtain ⟨x, y, hm⟩ := ih b (by simpa [inW] using h); exact ⟨_, _, .kk hm⟩
        | X => obtain ⟨x, y, hm⟩ := ih b (by simpa [inW] using h); exact ⟨_, _, .kx hm⟩
    | X =>
      induction b with
      | nil => simp [inW] at h
      | cons u b ihb =>
        cases u using Tok.by3 with
        | P c => obtain ⟨x, y, hm⟩ := ihb (by simpa [inW] using h); exact ⟨_, _, .pb c trivial hm⟩
        | K => obtain ⟨x, y, hm⟩ := ih b (by simpa [inW] using h); exact ⟨_, _, .xk hm⟩
        | X => obtain ⟨x, y, hm⟩ := ih b (by simpa [inW] using h); exact ⟨_, _, .xx hm⟩
/-- there is but one answer: by the words themselves -/
def meetF : Nat → List Tok → List Tok → List Tok × List Tok
  | 0, _, _ => ([], [])
  | n + 1, a, b =>
    match a, b with
    | ⟨.inr c⟩ :: a, b => (Tok.P c :: (meetF n a b).1, Tok.K :: (meetF n a b).2)
    | a, ⟨.inr c⟩ :: b => (Tok.K :: (meetF n a b).1, Tok.P c :: (meetF n a b).2)
    | ⟨.inl true⟩ :: a, ⟨.inl true⟩ :: b => (Tok.K :: (meetF n a b).1, Tok.K :: (meetF n a b).2)
    | ⟨.inl true⟩ :: a, ⟨.inl false⟩ :: b => ((meetF n a b).1, Tok.X :: (meetF n a b).2)
    | ⟨.inl false⟩ :: a, ⟨.inl true⟩ :: b => (Tok.X :: (meetF n a b).1, (meetF n a b).2)
    | ⟨.inl false⟩ :: a, ⟨.inl false⟩ :: b => ((meetF n a b).1, (meetF n a b).2)
    | _, _ => ([], [])
theorem Mt.is {a b x y : List Tok} (h : Mt a b x y) : ∀ n, a.length + b.length < n → meetF n a b = (x, y) := by
  refine h (fun a b x y => ∀ n, a.length + b.length < n → meetF n a b = (x, y)) ?_ ?_ ?_ ?_ ?_ ?_ ?_
  · intro n hn
    cases n with
    | zero => omega
    | succ n => rfl
  · intro c a b x y ih n hn
    cases n with
    | zero => omega
    | succ n => simp only [List.length_cons] at hn; simp [meetF, ih n (by omega)]
  · intro c a b x y hp ih n hn
    cases n with
    | zero => omega
    | succ n =>
      simp only [List.length_cons] at hn
      cases a with
      | nil => simp [meetF, ih n (by simp at hn ⊢; omega)]
      | cons t a =>
        cases t using Tok.by3 with
        | P c => exact absurd hp (by simp [NoPut])
        | K => simp [meetF, ih n (by simp at hn ⊢; omega)]
        | X => simp [meetF, ih n (by simp at hn ⊢; omega)]
  · intro a b x y ih n hn
    cases n with
    | zero => omega
    | succ n => simp only [List.length_cons] at hn; simp [meetF, ih n (by omega)]
  · intro a b x y ih n hn
    cases n with
    | zero => omega
    | succ n => simp only [List.length_cons] at hn; simp [meetF, ih n (by omega)]
  · intro a b x y ih n hn
    cases n with
    | zero => omega
    | succ n => simp only [List.length_cons] at hn; simp [meetF, ih n (by omega)]
  · intro a b x y ih n hn
    cases n with
    | zero => omega
    | succ n => simp only [List.length_cons] at hn; simp [meetF, ih n (by omega)]
def meetX (a b : List Tok) : List Tok := (meetF (a.length + b.length + 1) a b).1
def meetY (a b : List Tok) : List Tok := (meetF (a.length + b.length + 1) a b).2
theorem Mt.one {a b x y : List Tok} (h : Mt a b x y) : x = meetX a b ∧ y = meetY a b := by
  have e := h.is (a.length + b.length + 1) (by omega)
  exact ⟨by rw [meetX, e], by rw [meetY, e]⟩
theorem mt_meet {a b : List Tok} (h : inW a = inW b) : Mt a b (meetX a b) (meetY a b) := by
  obtain ⟨x, y, hm⟩ := mt_exists a b h
  obtain ⟨rfl, rfl⟩ := hm.one
  exact hm
/-- with one that keeps all -/
theorem Mt.idle (a : List Tok) : Mt a (List.replicate (inW a) .K) a (List.replicate (outW a) .K) := by
  induction a with
  | nil => exact .nil
  | cons t a ih =>
    cases t using Tok.by3 with
    | K => exact .kk ih
    | X => exact .xk ih
    | P c => exact .pa c ih
theorem Mt.idleR (b : List Tok) : Mt (List.replicate (inW b) .K) b (List.replicate (outW b) .K) b := by
  induction b with
  | nil => exact .nil
  | cons t b ih =>
    cases t using Tok.by3 with
    | K => exact .kk ih
    | X => exact .kx ih
    | P c =>
      refine .pb c ?_ ih
      show NoPut (List.replicate (inW b) .K)
      cases inW b with
      | zero => trivial
      | succ n => trivial

/-- whatever a word is, its form is a delta or too great: nothing else is wrong with it -/
def WellF : Int → List Pt → Prop
  | _, [] => True
  | a, p :: r => formedB p.k p.n p.t = true ∧ widthI p.k p.n p.t ≠ 0 ∧ followB a p.k = true ∧ WellF p.k r
theorem wellF_app {a : Int} {l r : List Pt} : WellF a (l ++ r) ↔ WellF a l ∧ WellF (endK a l) r := by
  induction l generalizing a with
  | nil => simp [WellF, endK]
  | cons p l ih =>
    show (_ ∧ _ ∧ _ ∧ WellF p.k (l ++ r)) ↔ (_ ∧ _ ∧ _ ∧ WellF p.k l) ∧ WellF (endK p.k l) r
    rw [ih]
    constructor
    · rintro ⟨h1, h2, h3, h4, h5⟩; exact ⟨⟨h1, h2, h3, h4⟩, h5⟩
    · rintro ⟨⟨h1, h2, h3, h4⟩, h5⟩; exact ⟨h1, h2, h3, h4, h5⟩
theorem wellF_scan {a : Int} {l : List Pt} (h : WellF a l) : scanE a l = 0 ∨ scanE a l = 2 := by
  induction l generalizing a with
  | nil => exact .inl rfl
  | cons p r ih =>
    obtain ⟨h1, h2, h3, h4⟩ := h
    by_cases h5 : 500 < widthI p.k p.n p.t
    · right
      have e := step_great h1 h2 h3 h5
      show (if stepE a p = 0 then _ else _) = _
      rw [if_neg (by omega), e]
    · have e := step_ok h1 h2 h3 h5
      have := ih h4
      show (if stepE a p = 0 then scanE p.k r else _) = 0 ∨ (if stepE a p = 0 then scanE p.k r else _) = 2
      rw [if_pos e]
      exact this
theorem wellF_one {a : Int} {p : Pt} (h1 : formedB p.k p.n p.t = true) (h2 : widthI p.k p.n p.t ≠ 0) (h3 : followB a p.k = true) : WellF a [p] := ⟨h1, h2, h3, trivial⟩
theorem follow_is {a k : Int} (h : k ≠ a) (h' : ¬ (a = 3 ∧ k = 2)) : followB a k = true := by
  simp only [followB, Bool.and_eq_true, decide_eq_true_eq, Bool.not_eq_true', Bool.and_eq_false_iff, decide_eq_false_iff_not]; omega
theorem wellF_put {e : Int} {t : List UInt8} (he : e = 0 ∨ e = 1) (h0 : t ≠ []) : WellF e [⟨2, 0, ⟨t.toArray⟩⟩] := by
  have hs : (⟨t.toArray⟩ : ByteArray).size = t.length := by show (List.toArray t).size = _; simp
  have hp : 0 < t.length := List.length_pos_iff.2 h0
  exact wellF_one (by simp [formedB]) (by simp only [widthI, if_true, hs]; omega) (follow_is (by simp only; omega) (by simp only; omega))
theorem wellF_cut {e n : Int} (he : e ≠ 3) (h0 : 0 < n) : WellF e [⟨3, n, ByteArray.empty⟩] := by
  have : (0 : Int) ≤ n := by omega
  exact wellF_one (by simp [formedB, this]) (by simp [widthI]; omega) (follow_is (by simp only; omega) (by simp only; omega))
theorem wellF_keep {e n : Int} (he : e ≠ 1) (h0 : 0 < n) : WellF e [⟨1, n, ByteArray.empty⟩] := by
  have : (0 : Int) ≤ n := by omega
  exact wellF_one (by simp [formedB, this]) (by simp [widthI]; omega) (follow_is (by simp only; omega) (by simp only; omega))
theorem settle_well {sl : List Pt} {tx : List UInt8} {ct : Int} (h : WellF 0 sl) (he : endK 0 sl = 0 ∨ endK 0 sl = 1) : WellF 0 (settleL sl tx ct) := by
  unfold settleL
  by_cases h1 : tx = []
  · by_cases h2 : 0 < ct
    · rw [if_pos h1, if_pos h2, List.append_nil]
      exact wellF_app.2 ⟨h, wellF_cut (by omega) h2⟩
    · rw [if_pos h1, if_neg h2, List.append_nil, List.append_nil]
      exact h
  · have h3 : WellF 0 (sl ++ [⟨2, 0, ⟨tx.toArray⟩⟩]) := wellF_app.2 ⟨h, wellF_put he h1⟩
    have h4 : endK 0 (sl ++ [⟨2, 0, ⟨tx.toArray⟩⟩]) = 2 := by rw [endK_app]; rfl
    by_cases h2 : 0 < ct
    · rw [if_neg h1, if_pos h2]
      exact wellF_app.2 ⟨h3, wellF_cut (by omega) h2⟩
    · rw [if_neg h1, if_neg h2, List.append_nil]
      exact h3
theorem keep_well {S : List Pt} (h : WellF 0 S) (hw : Whole S) : WellF 0 (keepL S 1) ∧ endK 0 (keepL S 1) = 1 := by
  unfold keepL
  split
  · rename_i p hp
    have h1 := snoc_of hp
    have hp0 := hw p (List.mem_of_getLast? hp)
    generalize S.dropLast = D at *
    subst h1
    have h2 := wellF_app.1 h
    split
    · rename_i hk
      refine ⟨wellF_app.2 ⟨h2.1, ?_⟩, by rw [endK_app]; exact hk⟩
      obtain ⟨f1, f2, f3, _⟩ := h2.2
      obtain ⟨k, n, t⟩ := p
      simp only at hk hp0 f1 f3 ⊢
      subst hk
      refine wellF_one ?_ ?_ f3
      · unfold formedB at f1 ⊢
        rw [if_pos (Or.inl rfl)] at f1 ⊢
        simp only [Bool.and_eq_true, decide_eq_true_eq] at f1 ⊢
        exact ⟨by omega, f1.2⟩
      · simp [widthI]; omega
    · rename_i hk
      refine ⟨wellF_app.2 ⟨h, wellF_keep ?_ (by omega)⟩, by rw [endK_app]; rfl⟩
      rw [endK_app]; exact hk
  · rename_i hp
    have : S = [] := by
      cases S with
      | nil => rfl
      | cons q r => simp [List.getLast?_cons] at hp
    subst this
    exact ⟨wellF_keep (by omega) (by omega), rfl⟩
theorem canonF_well (w : List Tok) : ∀ s : GSt, WellF 0 s.sl → (endK 0 s.sl = 0 ∨ endK 0 s.sl = 1) → Whole s.sl → 0 ≤ s.ct → WellF 0 (canonF s w) := by
  induction w with
  | nil => intro s h1 h2 h3 h4; exact settle_well (tx := s.tx) (ct := s.ct) h1 h2
  | cons t w ih =>
    intro s h1 h2 h3 h4
    show WellF 0 (canonF (gTok s t) w)
    cases t using Tok.by3 with
    | K =>
      have hk := keep_well (settle_well (tx := s.tx) (ct := s.ct) h1 h2) (settle_whole h3 h4)
      exact ih _ hk.1 (Or.inr hk.2) (keep_whole (settle_whole h3 h4) (by omega)) (by simp [gTok])
    | X => exact ih _ h1 h2 h3 (by simp only [gTok]; omega)
    | P c => exact ih _ h1 h2 h3 h4
theorem wellF_right {a : Int} {l : List Pt} (h : WellF a l) : Right l ∧ Whole l := by
  induction l generalizing a with
  | nil => exact ⟨by intro p hp; simp at hp, by intro p hp; simp at hp⟩
  | cons p r ih =>
    obtain ⟨h1, h2, h3, h4⟩ := h
    obtain ⟨i1, i2⟩ := ih h4
    have hp : ((p.k = 1 ∨ p.k = 2 ∨ p.k = 3) ∧ (p.k = 2 → p.n = 0) ∧ (p.k ≠ 2 → p.t.size = 0 ∧ 0 < p.n) ∧ (p.k = 2 → p.t.size ≠ 0)) ∧ 0 ≤ p.n := by
      unfold formedB at h1
      unfold widthI at h2
      split at h1 <;> simp only [Bool.and_eq_true, decide_eq_true_eq] at h1 <;> split at h2 <;> omega
    refine ⟨fun q hq => ?_, fun q hq => ?_⟩
    · rcases List.mem_cons.1 hq with rfl | hq
      · exact hp.1
      · exact i1 q hq
    · rcases List.mem_cons.1 hq with rfl | hq
      · exact hp.2
      · exact i2 q hq
theorem canon_right (w : List Tok) : Right (canonW w) ∧ Good (canonW w) ∧ inI (canonW w) = inW w ∧ outI (canonW w) = outW w := by
  have hs := canonF_well w ⟨[], [], 0⟩ trivial (Or.inl rfl) (by intro p hp; simp at hp) (by simp)
  obtain ⟨hR, hW⟩ := wellF_right (l := canonW w) hs
  have hG : Good (canonW w) := fun p hp => ⟨(hR p hp).1, hW p hp, (hR p hp).2.1, fun e => ((hR p hp).2.2.1 e).1⟩
  have hsem := canon_sem w
  exact ⟨hR, hG, by rw [inI_word hG, hsem.ins], by rw [outI_word hG, hsem.outs]⟩
/-- of a word that is too great the form is told to be too great, and nothing else -/
theorem canon_sizes (w : List Tok) (h : inW w + outW w ≤ 1600) : sizesE (canonW w) = if inW w ≤ 500 ∧ outW w ≤ 500 then 0 else 2 := by
  by_cases hb : inW w ≤ 500 ∧ outW w ≤ 500
  · rw [if_pos hb]; exact (canon_facts hb.1 hb.2).1
  · rw [if_neg hb]
    have hs : WellF 0 (canonW w) := canonF_well w ⟨[], [], 0⟩ trivial (Or.inl rfl) (by intro p hp; simp at hp) (by simp)
    obtain ⟨hR, hG, e1, e2⟩ := canon_right w
    obtain ⟨r0, r1, r2, r3⟩ := right_len hR
    have hl : ¬ 1600 < (canonW w).length := by omega
    rcases wellF_scan hs with h0 | h2
    · obtain ⟨q1, q2⟩ := right_in h0
      have hp : partsE (canonW w) = 0 := by rw [partsE, if_neg hl]; exact h0
      rw [sizesE, if_pos hp, if_pos (by omega)]
    · have hp : partsE (canonW w) = 2 := by rw [partsE, if_neg hl]; exact h2
      rw [sizesE, if_neg (by omega), hp]

end Go.Proofs.Ytilcmbophfjjbab
