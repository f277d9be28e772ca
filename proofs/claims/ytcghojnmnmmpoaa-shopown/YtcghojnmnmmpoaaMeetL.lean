/- The document's places as words: no program in it. -/
import Derived.Test.YtcghojnmnmmpoaaCompL
import Derived.Test.YtcghojnmnmmpoaaDelta
import Derived.Test.YtcghojnmnmmpoaaPtOwn
import Derived.Deep.Heap
import Derived.Test.YtcghojnmnmmpoaaLoose
namespace Go.Proofs.Ytcghojnmnmmpoaa
set_option linter.unusedSimpArgs false
set_option linter.unusedVariables false

/-- places as a word -/
def placesW : List ByteArray → List Bool → List Tok
  | q :: qs, b :: ks => q.data.toList.map .P ++ (if b = true then Tok.K else Tok.X) :: placesW qs ks
  | q :: _, [] => q.data.toList.map .P
  | [], _ => []
theorem placesW_app (qs qs' : List ByteArray) (ks ks' : List Bool) (h : qs.length = ks.length) : ∃ W, placesW (qs ++ qs') (ks ++ ks') = W ++ placesW qs' ks' ∧ ∀ qs' ks', placesW (qs ++ qs') (ks ++ ks') = W ++ placesW qs' ks' := by
  suffices H : ∃ W, ∀ qs' ks', placesW (qs ++ qs') (ks ++ ks') = W ++ placesW qs' ks' by
    obtain ⟨W, hW⟩ := H
    exact ⟨W, hW _ _, hW⟩
  clear qs' ks'
  induction ks generalizing qs with
  | nil =>
    have h3 : qs = [] := List.length_eq_zero_iff.1 (by simpa using h)
    subst h3
    exact ⟨[], fun _ _ => by simp⟩
  | cons b ks ih =>
    cases qs with
    | nil => simp at h
    | cons q qs =>
      obtain ⟨W, hW⟩ := ih qs (by simpa using h)
      exact ⟨q.data.toList.map .P ++ (if b = true then Tok.K else Tok.X) :: W, fun qs' ks' => by simp [placesW, hW]⟩
theorem placesW_rep (n : Nat) (q : ByteArray) (b : Bool) : placesW (q :: List.replicate n ByteArray.empty) (List.replicate n b) = q.data.toList.map .P ++ List.replicate n (if b = true then Tok.K else Tok.X) := by
  induction n generalizing q with
  | zero => simp [placesW]
  | succ n ih =>
    rw [List.replicate_succ, List.replicate_succ, List.replicate_succ, placesW, ih]
    simp [empty_data]
theorem placesW_step (qs : List ByteArray) (q : ByteArray) (ks : List Bool) (p : Pt) (h : qs.length = ks.length) (hp : 0 ≤ p.n ∧ (p.k = 1 ∨ p.k = 2 ∨ p.k = 3)) :
    ∃ qs' q' ks', ofStep (qs ++ [q], ks) p = (qs' ++ [q'], ks') ∧ qs'.length = ks'.length ∧ placesW (qs' ++ [q']) ks' = placesW (qs ++ [q]) ks ++ wordP p := by
  obtain ⟨W, _, hW⟩ := placesW_app qs [] ks [] h
  by_cases hk : p.k = 2
  · refine ⟨qs, q ++ p.t, ks, by simp [ofStep, hk, setLast_snoc], h, ?_⟩
    have e1 := hW [q ++ p.t] []
    have e2 := hW [q] []
    rw [List.append_nil] at e1 e2
    rw [e1, e2]
    simp [placesW, wordP, hk, data_append]
  · have htok : (if decide (p.k = 1) = true then Tok.K else Tok.X) = (if p.k = 1 then Tok.K else Tok.X) := by by_cases h1 : p.k = 1 <;> simp [h1]
    have hw : wordP p = List.replicate p.n.toNat (if p.k = 1 then Tok.K else Tok.X) := by
      unfold wordP
      by_cases h1 : p.k = 1 <;> simp [h1, hk]
    by_cases hn : p.n.toNat = 0
    · exact ⟨qs, q, ks, by simp [ofStep, hk, hn], h, by simp [hw, hn]⟩
    · obtain ⟨m, hm⟩ : ∃ m, p.n.toNat = m + 1 := ⟨p.n.toNat - 1, by omega⟩
      refine ⟨qs ++ q :: List.replicate m ByteArray.empty, ByteArray.empty, ks ++ List.replicate (m + 1) (decide (p.k = 1)), by simp [ofStep, hk, hm, rep_split, List.append_assoc], by simp; omega, ?_⟩
      have e1 := hW (q :: List.replicate (m + 1) ByteArray.empty) (List.replicate (m + 1) (decide (p.k = 1)))
      have e2 := hW [q] []
      rw [List.append_nil] at e2
      rw [show (qs ++ q :: List.replicate m ByteArray.empty) ++ [ByteArray.empty] = qs ++ q :: List.replicate (m + 1) ByteArray.empty by simp [rep_split], e1, e2, placesW_rep, hw, hm, htok]
      simp [placesW]
theorem places_word {l : List Pt} (h : Kinds l) : placesW (ofAll l).1 (ofAll l).2 = wordL l := by
  suffices H : ∀ (qs : List ByteArray) (q : ByteArray) (ks : List Bool), qs.length = ks.length → placesW (l.foldl ofStep (qs ++ [q], ks)).1 (l.foldl ofStep (qs ++ [q], ks)).2 = placesW (qs ++ [q]) ks ++ wordL l by
    have := H [] ByteArray.empty [] rfl
    simpa [placesW, ofAll, empty_data] using this
  induction l with
  | nil => intro qs q ks _; simp [wordL]
  | cons p r ih =>
    intro qs q ks hl
    obtain ⟨qs', q', ks', e, hl', hw⟩ := placesW_step qs q ks p hl (h p (by simp))
    rw [List.foldl_cons, e, ih (fun x hx => h x (List.mem_cons_of_mem _ hx)) qs' q' ks' hl', hw, wordL_cons, List.append_assoc]

def pairsP : List ByteArray → List Bool → Nat → Nat → List (Nat × Nat)
  | q :: qs, b :: ks, i, t => if b = true then (i, t + q.size) :: pairsP qs ks (i + 1) (t + q.size + 1) else pairsP qs ks (i + 1) (t + q.size)
  | _, _, _, _ => []
theorem pairsW_P (t : List UInt8) (w : List Tok) (i k : Nat) : pairsW (t.map .P ++ w) i k = pairsW w i (k + t.length) := by
  induction t generalizing k with
  | nil => simp
  | cons c t ih => simp only [List.map_cons, List.cons_append, pairsW, ih, List.length_cons]; congr 1; omega
theorem pairsP_word (qs : List ByteArray) (ks : List Bool) (i t : Nat) (h : qs.length = ks.length + 1) : pairsP qs ks i t = pairsW (placesW qs ks) i t := by
  induction ks generalizing qs i t with
  | nil =>
    match qs, h with
    | [q], _ =>
      have := pairsW_P q.data.toList [] i t
      simp only [List.append_nil, pairsW] at this
      simp [pairsP, placesW, this]
  | cons b ks ih =>
    cases qs with
    | nil => simp at h
    | cons q qs =>
      have hl : q.data.toList.length = q.size := Array.length_toList
      rw [placesW, pairsW_P, hl]
      cases b
      · simp [pairsP, pairsW, ih qs _ _ (by simpa using h)]
      · simp [pairsP, pairsW, ih qs _ _ (by simpa using h)]
theorem pairsP_of {l : List Pt} (h : Kinds l) : pairsP (ofAll l).1 (ofAll l).2 0 0 = pairsL l := by
  rw [pairsP_word _ _ _ _ (ofAll_len l), places_word h]; rfl
theorem pairsP_step {qs : List ByteArray} {ks : List Bool} {k t : Nat} {q : ByteArray} {b : Bool} (hq : qs[k]? = some q) (hb : ks[k]? = some b) :
    pairsP (qs.drop k) (ks.drop k) k t = if b = true then (k, t + q.size) :: pairsP (qs.drop (k + 1)) (ks.drop (k + 1)) (k + 1) (t + q.size + 1) else pairsP (qs.drop (k + 1)) (ks.drop (k + 1)) (k + 1) (t + q.size) := by
  obtain ⟨l1, rfl⟩ := List.getElem?_eq_some_iff.1 hq
  obtain ⟨l2, rfl⟩ := List.getElem?_eq_some_iff.1 hb
  rw [List.drop_eq_getElem_cons l1, List.drop_eq_getElem_cons l2]
  rfl

end Go.Proofs.Ytcghojnmnmmpoaa

/- Two words of one text, done together: what is left of each; and their laws: no program in it. -/
namespace Go.Proofs.Ytcghojnmnmmpoaa
set_option linter.unusedSimpArgs false
set_option linter.unusedVariables false

/-- nothing is put at the place where the word stands -/
def NoPut : List Tok → Prop
  | ⟨.inr _⟩ :: _ => False
  | _ => True
/-- a and b are of one text: x is left of a behind b, y is left of b behind a; of what both put at one place a's comes first -/
def Mt (a b x y : List Tok) : Prop := ∀ R : List Tok → List Tok → List Tok → List Tok → Prop, R [] [] [] [] →
  (∀ (c : UInt8) (a b x y : List Tok), R a b x y → R (Tok.P c :: a) b (Tok.P c :: x) (Tok.K :: y)) →
  (∀ (c : UInt8) (a b x y : List Tok), NoPut a → R a b x y → R a (Tok.P c :: b) (Tok.K :: x) (Tok.P c :: y)) →
  (∀ a b x y : List Tok, R a b x y → R (Tok.K :: a) (Tok.K :: b) (Tok.K :: x) (Tok.K :: y)) →
  (∀ a b x y : List Tok, R a b x y → R (Tok.K :: a) (Tok.X :: b) x (Tok.X :: y)) →
  (∀ a b x y : List Tok, R a b x y → R (Tok.X :: a) (Tok.K :: b) (Tok.X :: x) y) →
  (∀ a b x y : List Tok, R a b x y → R (Tok.X :: a) (Tok.X :: b) x y) → R a b x y
theorem Mt.nil : Mt [] [] [] [] := fun _ h _ _ _ _ _ _ => h
theorem Mt.pa (c : UInt8) {a b x y : List Tok} (h : Mt a b x y) : Mt (Tok.P c :: a) b (Tok.P c :: x) (Tok.K :: y) := fun R h0 h1 h2 h3 h4 h5 h6 => h1 c _ _ _ _ (h R h0 h1 h2 h3 h4 h5 h6)
theorem Mt.pb (c : UInt8) {a b x y : List Tok} (hn : NoPut a) (h : Mt a b x y) : Mt a (Tok.P c :: b) (Tok.K :: x) (Tok.P c :: y) := fun R h0 h1 h2 h3 h4 h5 h6 => h2 c _ _ _ _ hn (h R h0 h1 h2 h3 h4 h5 h6)
theorem Mt.kk {a b x y : List Tok} (h : Mt a b x y) : Mt (Tok.K :: a) (Tok.K :: b) (Tok.K :: x) (Tok.K :: y) := fun R h0 h1 h2 h3 h4 h5 h6 => h3 _ _ _ _ (h R h0 h1 h2 h3 h4 h5 h6)
theorem Mt.kx {a b x y : List Tok} (h : Mt a b x y) : Mt (Tok.K :: a) (Tok.X :: b) x (Tok.X :: y) := fun R h0 h1 h2 h3 h4 h5 h6 => h4 _ _ _ _ (h R h0 h1 h2 h3 h4 h5 h6)
theorem Mt.xk {a b x y : List Tok} (h : Mt a b x y) : Mt (Tok.X :: a) (Tok.K :: b) (Tok.X :: x) y := fun R h0 h1 h2 h3 h4 h5 h6 => h5 _ _ _ _ (h R h0 h1 h2 h3 h4 h5 h6)
theorem Mt.xx {a b x y : List Tok} (h : Mt a b x y) : Mt (Tok.X :: a) (Tok.X :: b) x y := fun R h0 h1 h2 h3 h4 h5 h6 => h6 _ _ _ _ (h R h0 h1 h2 h3 h4 h5 h6)

theorem Mt.sizes {a b x y : List Tok} (h : Mt a b x y) : inW a = inW b ∧ inW x = outW b ∧ inW y = outW a ∧ outW x = outW y := by
  refine h (fun a b x y => inW a = inW b ∧ inW x = outW b ∧ inW y = outW a ∧ outW x = outW y) ⟨rfl, rfl, rfl, rfl⟩ ?_ ?_ ?_ ?_ ?_ ?_
  · intro c a b x y ih; simp only [inW, outW]; omega
  · intro c a b x y _ ih; simp only [inW, outW]; omega
  · intro a b x y ih; simp only [inW, outW]; omega
  · intro a b x y ih; simp only [inW, outW]; omega
  · intro a b x y ih; simp only [inW, outW]; omega
  · intro a b x y ih; simp only [inW, outW]; omega
/-- one and then what is left of the other is the other and then what is left of the one -/
theorem Mt.same {a b x y : List Tok} (h : Mt a b x y) : ∃ r, Cmp a y r ∧ Cmp b x r := by
  refine h (fun a b x y => ∃ r, Cmp a y r ∧ Cmp b x r) ⟨[], .nil, .nil⟩ ?_ ?_ ?_ ?_ ?_ ?_
  · rintro c a b x y ⟨r, h1, h2⟩; exact ⟨_, .pk c h1, .put c h2⟩
  · rintro c a b x y _ ⟨r, h1, h2⟩; exact ⟨_, .put c h1, .pk c h2⟩
  · rintro a b x y ⟨r, h1, h2⟩; exact ⟨_, .kk h1, .kk h2⟩
  · rintro a b x y ⟨r, h1, h2⟩; exact ⟨_, .kx h1, .cut h2⟩
  · rintro a b x y ⟨r, h1, h2⟩; exact ⟨_, .cut h1, .kx h2⟩
  · rintro a b x y ⟨r, h1, h2⟩; exact ⟨_, .cut h1, .cut h2⟩
theorem mt_exists (a b : List Tok) (h : inW a = inW b) : ∃ x y, Mt a b x y := by
  induction a generalizing b with
  | nil =>
    induction b with
    | nil => exact ⟨[], [], .nil⟩
    | cons t b ih =>
      cases t using Tok.by3 with
      | K => simp [inW] at h
      | X => simp [inW] at h
      | P c => obtain ⟨x, y, hm⟩ := ih (by simpa [inW] using h); exact ⟨_, _, .pb c trivial hm⟩
  | cons t a ih =>
    cases t using Tok.by3 with
    | P c => obtain ⟨x, y, hm⟩ := ih b (by simpa [inW] using h); exact ⟨_, _, .pa c hm⟩
    | K =>
      induction b with
      | nil => simp [inW] at h
      | cons u b ihb =>
        cases u using Tok.by3 with
        | P c => obtain ⟨x, y, hm⟩ := ihb (by simpa [inW] using h); exact ⟨_, _, .pb c trivial hm⟩
        | K => obtain ⟨x, y, hm⟩ := ih b (by simpa [inW] using h); exact ⟨_, _, .kk hm⟩
        | X => obtain ⟨x, y, hm⟩ := ih b (by simpa [inW] using h); exact ⟨_, _, .kx hm⟩
    | X =>
      induction b with
      | nil => simp [inW] at h
      | cons u b ihb =>
        cases u using Tok.by3 with
        | P c => obtain ⟨x, y, hm⟩ := ihb (by simpa [inW] using h); exact ⟨_, _, .pb c trivial hm⟩
        | K => obtain ⟨x, y, hm⟩ := ih b (by simpa [inW] using h); exact ⟨_, _, .xk hm⟩
        | X => obtain ⟨x, y, hm⟩ := ih b (by simpa [inW] using h); exact ⟨_, _, .xx hm⟩
/-- there is but one answer: by the words themselves -/
def meetF : Nat → List Tok → List Tok → List Tok × List Tok
  | 0, _, _ => ([], [])
  | n + 1, a, b =>
    match a, b with
    | ⟨.inr c⟩ :: a, b => (Tok.P c :: (meetF n a b).1, Tok.K :: (meetF n a b).2)
    | a, ⟨.inr c⟩ :: b => (Tok.K :: (meetF n a b).1, Tok.P c :: (meetF n a b).2)
    | ⟨.inl true⟩ :: a, ⟨.inl true⟩ :: b => (Tok.K :: (meetF n a b).1, Tok.K :: (meetF n a b).2)
    | ⟨.inl true⟩ :: a, ⟨.inl false⟩ :: b => ((meetF n a b).1, Tok.X :: (meetF n a b).2)
    | ⟨.inl false⟩ :: a, ⟨.inl true⟩ :: b => (Tok.X :: (meetF n a b).1, (meetF n a b).2)
    | ⟨.inl false⟩ :: a, ⟨.inl false⟩ :: b => ((meetF n a b).1, (meetF n a b).2)
    | _, _ => ([], [])
theorem Mt.is {a b x y : List Tok} (h : Mt a b x y) : ∀ n, a.length + b.length < n → meetF n a b = (x, y) := by
  refine h (fun a b x y => ∀ n, a.length + b.length < n → meetF n a b = (x, y)) ?_ ?_ ?_ ?_ ?_ ?_ ?_
  · intro n hn
    cases n with
    | zero => omega
    | succ n => rfl
  · intro c a b x y ih n hn
    cases n with
    | zero => omega
    | succ n => simp only [List.length_cons] at hn; simp [meetF, ih n (by omega)]
  · intro c a b x y hp ih n hn
    cases n with
    | zero => omega
    | succ n =>
      simp only [List.length_cons] at hn
      cases a with
      | nil => simp [meetF, ih n (by simp at hn ⊢; omega)]
      | cons t a =>
        cases t using Tok.by3 with
        | P c => exact absurd hp (by simp [NoPut])
        | K => simp [meetF, ih n (by simp at hn ⊢; omega)]
        | X => simp [meetF, ih n (by simp at hn ⊢; omega)]
  · intro a b x y ih n hn
    cases n with
    | zero => omega
    | succ n => simp only [List.length_cons] at hn; simp [meetF, ih n (by omega)]
  · intro a b x y ih n hn
    cases n with
    | zero => omega
    | succ n => simp only [List.length_cons] at hn; simp [meetF, ih n (by omega)]
  · intro a b x y ih n hn
    cases n with
    | zero => omega
    | succ n => simp only [List.length_cons] at hn; simp [meetF, ih n (by omega)]
  · intro a b x y ih n hn
    cases n with
    | zero => omega
    | succ n => simp only [List.length_cons] at hn; simp [meetF, ih n (by omega)]
def meetX (a b : List Tok) : List Tok := (meetF (a.length + b.length + 1) a b).1
def meetY (a b : List Tok) : List Tok := (meetF (a.length + b.length + 1) a b).2
theorem Mt.one {a b x y : List Tok} (h : Mt a b x y) : x = meetX a b ∧ y = meetY a b := by
  have e := h.is (a.length + b.length + 1) (by omega)
  exact ⟨by rw [meetX, e], by rw [meetY, e]⟩
theorem mt_meet {a b : List Tok} (h : inW a = inW b) : Mt a b (meetX a b) (meetY a b) := by
  obtain ⟨x, y, hm⟩ := mt_exists a b h
  obtain ⟨rfl, rfl⟩ := hm.one
  exact hm
/-- with one that keeps all -/
theorem Mt.idle (a : List Tok) : Mt a (List.replicate (inW a) .K) a (List.replicate (outW a) .K) := by
  induction a with
  | nil => exact .nil
  | cons t a ih =>
    cases t using Tok.by3 with
    | K => exact .kk ih
    | X => exact .xk ih
    | P c => exact .pa c ih
theorem Mt.idleR (b : List Tok) : Mt (List.replicate (inW b) .K) b (List.replicate (outW b) .K) b := by
  induction b with
  | nil => exact .nil
  | cons t b ih =>
    cases t using Tok.by3 with
    | K => exact .kk ih
    | X => exact .kx ih
    | P c =>
      refine .pb c ?_ ih
      show NoPut (List.replicate (inW b) .K)
      cases inW b with
      | zero => trivial
      | succ n => trivial

/-- whatever a word is, its form is a delta or too great: nothing else is wrong with it -/
def WellF : Int → List Pt → Prop
  | _, [] => True
  | a, p :: r => formedB p.k p.n p.t = true ∧ widthI p.k p.n p.t ≠ 0 ∧ followB a p.k = true ∧ WellF p.k r
theorem wellF_app {a : Int} {l r : List Pt} : WellF a (l ++ r) ↔ WellF a l ∧ WellF (endK a l) r := by
  induction l generalizing a with
  | nil => simp [WellF, endK]
  | cons p l ih =>
    show (_ ∧ _ ∧ _ ∧ WellF p.k (l ++ r)) ↔ (_ ∧ _ ∧ _ ∧ WellF p.k l) ∧ WellF (endK p.k l) r
    rw [ih]
    constructor
    · rintro ⟨h1, h2, h3, h4, h5⟩; exact ⟨⟨h1, h2, h3, h4⟩, h5⟩
    · rintro ⟨⟨h1, h2, h3, h4⟩, h5⟩; exact ⟨h1, h2, h3, h4, h5⟩
theorem wellF_scan {a : Int} {l : List Pt} (h : WellF a l) : scanE a l = 0 ∨ scanE a l = 2 := by
  induction l generalizing a with
  | nil => exact .inl rfl
  | cons p r ih =>
    obtain ⟨h1, h2, h3, h4⟩ := h
    by_cases h5 : 500 < widthI p.k p.n p.t
    · right
      have e := step_great h1 h2 h3 h5
      show (if stepE a p = 0 then _ else _) = _
      rw [if_neg (by omega), e]
    · have e := step_ok h1 h2 h3 h5
      have := ih h4
      show (if stepE a p = 0 then scanE p.k r else _) = 0 ∨ (if stepE a p = 0 then scanE p.k r else _) = 2
      rw [if_pos e]
      exact this
theorem wellF_one {a : Int} {p : Pt} (h1 : formedB p.k p.n p.t = true) (h2 : widthI p.k p.n p.t ≠ 0) (h3 : followB a p.k = true) : WellF a [p] := ⟨h1, h2, h3, trivial⟩
theorem follow_is {a k : Int} (h : k ≠ a) (h' : ¬ (a = 3 ∧ k = 2)) : followB a k = true := by
  simp only [followB, Bool.and_eq_true, decide_eq_true_eq, Bool.not_eq_true', Bool.and_eq_false_iff, decide_eq_false_iff_not]; omega
theorem wellF_put {e : Int} {t : List UInt8} (he : e = 0 ∨ e = 1) (h0 : t ≠ []) : WellF e [⟨2, 0, ⟨t.toArray⟩⟩] := by
  have hs : (⟨t.toArray⟩ : ByteArray).size = t.length := by show (List.toArray t).size = _; simp
  have hp : 0 < t.length := List.length_pos_iff.2 h0
  exact wellF_one (by simp [formedB]) (by simp only [widthI, if_true, hs]; omega) (follow_is (by simp only; omega) (by simp only; omega))
theorem wellF_cut {e n : Int} (he : e ≠ 3) (h0 : 0 < n) : WellF e [⟨3, n, ByteArray.empty⟩] := by
  have : (0 : Int) ≤ n := by omega
  exact wellF_one (by simp [formedB, this]) (by simp [widthI]; omega) (follow_is (by simp only; omega) (by simp only; omega))
theorem wellF_keep {e n : Int} (he : e ≠ 1) (h0 : 0 < n) : WellF e [⟨1, n, ByteArray.empty⟩] := by
  have : (0 : Int) ≤ n := by omega
  exact wellF_one (by simp [formedB, this]) (by simp [widthI]; omega) (follow_is (by simp only; omega) (by simp only; omega))
theorem settle_well {sl : List Pt} {tx : List UInt8} {ct : Int} (h : WellF 0 sl) (he : endK 0 sl = 0 ∨ endK 0 sl = 1) : WellF 0 (settleL sl tx ct) := by
  unfold settleL
  by_cases h1 : tx = []
  · by_cases h2 : 0 < ct
    · rw [if_pos h1, if_pos h2, List.append_nil]
      exact wellF_app.2 ⟨h, wellF_cut (by omega) h2⟩
    · rw [if_pos h1, if_neg h2, List.append_nil, List.append_nil]
      exact h
  · have h3 : WellF 0 (sl ++ [⟨2, 0, ⟨tx.toArray⟩⟩]) := wellF_app.2 ⟨h, wellF_put he h1⟩
    have h4 : endK 0 (sl ++ [⟨2, 0, ⟨tx.toArray⟩⟩]) = 2 := by rw [endK_app]; rfl
    by_cases h2 : 0 < ct
    · rw [if_neg h1, if_pos h2]
      exact wellF_app.2 ⟨h3, wellF_cut (by omega) h2⟩
    · rw [if_neg h1, if_neg h2, List.append_nil]
      exact h3
theorem keep_well {S : List Pt} (h : WellF 0 S) (hw : Whole S) : WellF 0 (keepL S 1) ∧ endK 0 (keepL S 1) = 1 := by
  unfold keepL
  split
  · rename_i p hp
    have h1 := snoc_of hp
    have hp0 := hw p (List.mem_of_getLast? hp)
    generalize S.dropLast = D at *
    subst h1
    have h2 := wellF_app.1 h
    split
    · rename_i hk
      refine ⟨wellF_app.2 ⟨h2.1, ?_⟩, by rw [endK_app]; exact hk⟩
      obtain ⟨f1, f2, f3, _⟩ := h2.2
      obtain ⟨k, n, t⟩ := p
      simp only at hk hp0 f1 f3 ⊢
      subst hk
      refine wellF_one ?_ ?_ f3
      · unfold formedB at f1 ⊢
        rw [if_pos (Or.inl rfl)] at f1 ⊢
        simp only [Bool.and_eq_true, decide_eq_true_eq] at f1 ⊢
        exact ⟨by omega, f1.2⟩
      · simp [widthI]; omega
    · rename_i hk
      refine ⟨wellF_app.2 ⟨h, wellF_keep ?_ (by omega)⟩, by rw [endK_app]; rfl⟩
      rw [endK_app]; exact hk
  · rename_i hp
    have : S = [] := by
      cases S with
      | nil => rfl
      | cons q r => simp [List.getLast?_cons] at hp
    subst this
    exact ⟨wellF_keep (by omega) (by omega), rfl⟩
theorem canonF_well (w : List Tok) : ∀ s : GSt, WellF 0 s.sl → (endK 0 s.sl = 0 ∨ endK 0 s.sl = 1) → Whole s.sl → 0 ≤ s.ct → WellF 0 (canonF s w) := by
  induction w with
  | nil => intro s h1 h2 h3 h4; exact settle_well (tx := s.tx) (ct := s.ct) h1 h2
  | cons t w ih =>
    intro s h1 h2 h3 h4
    show WellF 0 (canonF (gTok s t) w)
    cases t using Tok.by3 with
    | K =>
      have hk := keep_well (settle_well (tx := s.tx) (ct := s.ct) h1 h2) (settle_whole h3 h4)
      exact ih _ hk.1 (Or.inr hk.2) (keep_whole (settle_whole h3 h4) (by omega)) (by simp [gTok])
    | X => exact ih _ h1 h2 h3 (by simp only [gTok]; omega)
    | P c => exact ih _ h1 h2 h3 h4
theorem wellF_right {a : Int} {l : List Pt} (h : WellF a l) : Right l ∧ Whole l := by
  induction l generalizing a with
  | nil => exact ⟨by intro p hp; simp at hp, by intro p hp; simp at hp⟩
  | cons p r ih =>
    obtain ⟨h1, h2, h3, h4⟩ := h
    obtain ⟨i1, i2⟩ := ih h4
    have hp : ((p.k = 1 ∨ p.k = 2 ∨ p.k = 3) ∧ (p.k = 2 → p.n = 0) ∧ (p.k ≠ 2 → p.t.size = 0 ∧ 0 < p.n) ∧ (p.k = 2 → p.t.size ≠ 0)) ∧ 0 ≤ p.n := by
      unfold formedB at h1
      unfold widthI at h2
      split at h1 <;> simp only [Bool.and_eq_true, decide_eq_true_eq] at h1 <;> split at h2 <;> omega
    refine ⟨fun q hq => ?_, fun q hq => ?_⟩
    · rcases List.mem_cons.1 hq with rfl | hq
      · exact hp.1
      · exact i1 q hq
    · rcases List.mem_cons.1 hq with rfl | hq
      · exact hp.2
      · exact i2 q hq
theorem canon_right (w : List Tok) : Right (canonW w) ∧ Good (canonW w) ∧ inI (canonW w) = inW w ∧ outI (canonW w) = outW w := by
  have hs := canonF_well w ⟨[], [], 0⟩ trivial (Or.inl rfl) (by intro p hp; simp at hp) (by simp)
  obtain ⟨hR, hW⟩ := wellF_right (l := canonW w) hs
  have hG : Good (canonW w) := fun p hp => ⟨(hR p hp).1, hW p hp, (hR p hp).2.1, fun e => ((hR p hp).2.2.1 e).1⟩
  have hsem := canon_sem w
  exact ⟨hR, hG, by rw [inI_word hG, hsem.ins], by rw [outI_word hG, hsem.outs]⟩
/-- of a word that is too great the form is told to be too great, and nothing else -/
theorem canon_sizes (w : List Tok) (h : inW w + outW w ≤ 1600) : sizesE (canonW w) = if inW w ≤ 500 ∧ outW w ≤ 500 then 0 else 2 := by
  by_cases hb : inW w ≤ 500 ∧ outW w ≤ 500
  · rw [if_pos hb]; exact (canon_facts hb.1 hb.2).1
  · rw [if_neg hb]
    have hs : WellF 0 (canonW w) := canonF_well w ⟨[], [], 0⟩ trivial (Or.inl rfl) (by intro p hp; simp at hp) (by simp)
    obtain ⟨hR, hG, e1, e2⟩ := canon_right w
    obtain ⟨r0, r1, r2, r3⟩ := right_len hR
    have hl : ¬ 1600 < (canonW w).length := by omega
    rcases wellF_scan hs with h0 | h2
    · obtain ⟨q1, q2⟩ := right_in h0
      have hp : partsE (canonW w) = 0 := by rw [partsE, if_neg hl]; exact h0
      rw [sizesE, if_pos hp, if_pos (by omega)]
    · have hp : partsE (canonW w) = 2 := by rw [partsE, if_neg hl]; exact h2
      rw [sizesE, if_neg (by omega), hp]

end Go.Proofs.Ytcghojnmnmmpoaa

/- The laws on two deltas of one text: what meets two as one meets one, and then the other; two that put nowhere at one place: no program in it. -/
namespace Go.Proofs.Ytcghojnmnmmpoaa
set_option linter.unusedSimpArgs false
set_option linter.unusedVariables false

/-- behind a byte that is cut nothing is put ahead of the next that is kept: as a delta's own word has it -/
def Ord : List Tok → Prop
  | [] => True
  | ⟨.inl false⟩ :: w => NoPut w ∧ Ord w
  | _ :: w => Ord w
theorem noPut_K (w : List Tok) : NoPut (Tok.K :: w) := trivial
theorem noPut_X (w : List Tok) : NoPut (Tok.X :: w) := trivial
theorem ord_K {w : List Tok} : Ord (Tok.K :: w) ↔ Ord w := Iff.rfl
theorem ord_P {c : UInt8} {w : List Tok} : Ord (Tok.P c :: w) ↔ Ord w := Iff.rfl
theorem ord_X {w : List Tok} : Ord (Tok.X :: w) ↔ NoPut w ∧ Ord w := Iff.rfl
theorem ordF (w : List Tok) : ∀ s : GSt, Whole s.sl → 0 ≤ s.ct → Ord w → (s.ct = 0 ∨ NoPut w) → wordL (canonF s w) = wordL s.sl ++ gapW s.tx s.ct ++ w := by
  induction w with
  | nil => intro s hs hc _ _; simp only [canonF, List.foldl_nil, List.append_nil]; exact word_settle _ _ _
  | cons t w ih =>
    intro s hs hc ho hn
    have e : canonF s (t :: w) = canonF (gTok s t) w := rfl
    rw [e]
    cases t using Tok.by3 with
    | K =>
      have h := ih (gTok s .K) (keep_whole (settle_whole hs hc) (by omega)) (by simp [gTok]) ho (.inl rfl)
      rw [h]
      simp only [gTok, word_keep _ (settle_whole hs hc), word_settle, gapW]
      simp
    | X =>
      obtain ⟨o1, o2⟩ := ord_X.1 ho
      have h := ih (gTok s .X) hs (by simp only [gTok]; omega) o2 (.inr o1)
      rw [h]
      simp only [gTok, gapW]
      rw [show (s.ct + 1).toNat = s.ct.toNat + 1 by omega, List.replicate_succ']
      simp
    | P c =>
      have hc0 : s.ct = 0 := by
        rcases hn with h | h
        · exact h
        · exact absurd h (by simp [NoPut])
      have h := ih (gTok s (.P c)) hs hc ho (.inl hc0)
      rw [h]
      simp only [gTok, gapW, hc0]
      simp
theorem ord_word {w : List Tok} (h : Ord w) : wordL (canonW w) = w := by
  have := ordF w ⟨[], [], 0⟩ (by intro p hp; simp at hp) (by simp) h (.inl rfl)
  rw [canonW, this]
  simp [wordL, gapW]
theorem ord_X_rep (n : Nat) {w : List Tok} (h : NoPut w) (ho : Ord w) : Ord (List.replicate n .X ++ w) ∧ NoPut (List.replicate n .X ++ w) := by
  induction n with
  | zero => exact ⟨ho, h⟩
  | succ n ih => exact ⟨ord_X.2 ⟨ih.2, ih.1⟩, noPut_X _⟩
theorem ord_K_rep (n : Nat) {w : List Tok} (ho : Ord w) : Ord (List.replicate n .K ++ w) := by
  induction n with
  | zero => exact ho
  | succ n ih => exact ord_K.2 ih
theorem ord_P_map (t : List UInt8) {w : List Tok} (ho : Ord w) : Ord (t.map .P ++ w) := by
  induction t with
  | nil => exact ho
  | cons c t ih => exact ord_P.2 ih
theorem scan_ord {a : Int} {l : List Pt} (h : scanE a l = 0) : Ord (wordL l) ∧ (a = 3 → NoPut (wordL l)) := by
  induction l generalizing a with
  | nil => exact ⟨trivial, fun _ => trivial⟩
  | cons p r ih =>
    have e : scanE a (p :: r) = if stepE a p = 0 then scanE p.k r else stepE a p := rfl
    have hst : stepE a p = 0 := by
      rw [e] at h
      split at h
      · assumption
      · contradiction
    rw [e, if_pos hst] at h
    obtain ⟨i1, i2⟩ := ih h
    obtain ⟨f1, f2, f3, f4⟩ := step_part hst
    have hR : Right [p] := scan_right (a := a) (scan_one.2 hst)
    obtain ⟨k1, k2, k3, k4⟩ := hR p (by simp)
    simp only [followB, Bool.and_eq_true, decide_eq_true_eq, Bool.not_eq_true', Bool.and_eq_false_iff, decide_eq_false_iff_not] at f3
    rw [wordL_cons, wordP]
    rcases k1 with k | k | k
    · have hn := (k3 (by omega)).2
      rw [if_pos k]
      refine ⟨ord_K_rep _ i1, fun _ => ?_⟩
      obtain ⟨m, hm⟩ : ∃ m, p.n.toNat = m + 1 := ⟨p.n.toNat - 1, by omega⟩
      rw [hm]; trivial
    · rw [if_neg (by omega), if_pos k]
      exact ⟨ord_P_map _ i1, fun e => by omega⟩
    · rw [if_neg (by omega), if_neg (by omega)]
      have hx := ord_X_rep p.n.toNat (i2 k) i1
      exact ⟨hx.1, fun _ => hx.2⟩
theorem delta_ord {l : List Pt} (h : sizesE l = 0) : Ord (wordL l) := (scan_ord (sizes_scan h).2).1

/-- nothing is cut -/
def NoCut : List Tok → Prop
  | [] => True
  | ⟨.inl false⟩ :: _ => False
  | _ :: w => NoCut w
/-- what meets two as one, of which the second cuts nothing, meets one, and then the other -/
theorem mt_joins : ∀ (n : Nat) (a b c : List Tok), a.length + b.length + c.length < n → outW a = inW b → inW a = inW c → NoCut b → NoCut c → Ord a →
    ∃ r p q a1 c1 b1, Cmp a b r ∧ Mt r c p q ∧ Mt a c a1 c1 ∧ Mt b c1 b1 q ∧ Cmp a1 b1 p ∧ Ord r ∧ (NoPut a → NoPut b → NoPut r) := by
  intro n
  induction n with
  | zero => intro a b c h; omega
  | succ n ih =>
    intro a b c hn h1 h2 hb hc ho
    have hput : ∀ (y : UInt8) (b' : List Tok), b = Tok.P y :: b' → ∃ r p q a1 c1 b1, Cmp a b r ∧ Mt r c p q ∧ Mt a c a1 c1 ∧ Mt b c1 b1 q ∧ Cmp a1 b1 p ∧ Ord r ∧ (NoPut a → NoPut b → NoPut r) := by
      rintro y b' rfl
      simp only [List.length_cons] at hn
      obtain ⟨r, p, q, a1, c1, b1, k1, k2, k3, k4, k5, k6, k7⟩ := ih a b' c (by omega) (by simpa [inW] using h1) h2 hb hc ho
      exact ⟨_, _, _, _, _, _, .put y k1, .pa y k2, k3, .pa y k4, .put y k5, ord_P.2 k6, fun _ h => absurd h (by simp [NoPut])⟩
    cases b with
    | cons u b' =>
      cases u using Tok.by3 with
      | P y => exact hput y b' rfl
      | X => exact absurd hb (by simp [NoCut])
      | K =>
        cases a with
        | nil => simp [outW, inW] at h1
        | cons t a' =>
          cases t using Tok.by3 with
          | P x =>
            simp only [List.length_cons] at hn
            obtain ⟨r, p, q, a1, c1, b1, k1, k2, k3, k4, k5, k6, k7⟩ := ih a' b' c (by omega) (by simpa [outW, inW] using h1) (by simpa [inW] using h2) hb hc ho
            exact ⟨_, _, _, _, _, _, .pk x k1, .pa x k2, .pa x k3, .kk k4, .pk x k5, ord_P.2 k6, fun h => absurd h (by simp [NoPut])⟩
          | K =>
            cases c with
            | nil => simp [inW] at h2
            | cons v c' =>
              cases v using Tok.by3 with
              | P z =>
                simp only [List.length_cons] at hn
                obtain ⟨r, p, q, a1, c1, b1, k1, k2, k3, k4, k5, k6, k7⟩ := ih (Tok.K :: a') (Tok.K :: b') c' (by simp only [List.length_cons]; omega) h1 (by simpa [inW] using h2) hb hc ho
                have hr : NoPut r := k7 (noPut_K _) (noPut_K _)
                exact ⟨_, _, _, _, _, _, k1, .pb z hr k2, .pb z (noPut_K _) k3, .pb z (noPut_K _) k4, .kk k5, k6, fun _ _ => hr⟩
              | X => exact absurd hc (by simp [NoCut])
              | K =>
                simp only [List.length_cons] at hn
                obtain ⟨r, p, q, a1, c1, b1, k1, k2, k3, k4, k5, k6, k7⟩ := ih a' b' c' (by omega) (by simpa [outW, inW] using h1) (by simpa [inW] using h2) hb hc ho
                exact ⟨_, _, _, _, _, _, .kk k1, .kk k2, .kk k3, .kk k4, .kk k5, ord_K.2 k6, fun _ _ => noPut_K _⟩
          | X =>
            obtain ⟨o1, o2⟩ := ord_X.1 ho
            cases c with
            | nil => simp [inW] at h2
            | cons v c' =>
              cases v using Tok.by3 with
              | P z =>
                simp only [List.length_cons] at hn
                obtain ⟨r, p, q, a1, c1, b1, k1, k2, k3, k4, k5, k6, k7⟩ := ih (Tok.X :: a') (Tok.K :: b') c' (by simp only [List.length_cons]; omega) h1 (by simpa [inW] using h2) hb hc ho
                have hr : NoPut r := k7 (noPut_X _) (noPut_K _)
                exact ⟨_, _, _, _, _, _, k1, .pb z hr k2, .pb z (noPut_X _) k3, .pb z (noPut_K _) k4, .kk k5, k6, fun _ _ => hr⟩
              | X => exact absurd hc (by simp [NoCut])
              | K =>
                simp only [List.length_cons] at hn
                obtain ⟨r, p, q, a1, c1, b1, k1, k2, k3, k4, k5, k6, k7⟩ := ih a' (Tok.K :: b') c' (by simp only [List.length_cons]; omega) (by simpa [outW] using h1) (by simpa [inW] using h2) hb hc o2
                have hr : NoPut r := k7 o1 (noPut_K _)
                exact ⟨_, _, _, _, _, _, .cut k1, .xk k2, .xk k3, k4, .cut k5, ord_X.2 ⟨hr, k6⟩, fun _ _ => noPut_X _⟩
    | nil =>
      cases a with
      | nil =>
        induction c with
        | nil => exact ⟨_, _, _, _, _, _, .nil, .nil, .nil, .nil, .nil, trivial, fun _ _ => trivial⟩
        | cons v c' ihc =>
          cases v using Tok.by3 with
          | K => simp [inW] at h2
          | X => simp [inW] at h2
          | P z =>
            simp only [List.length_cons, List.length_nil] at hn
            obtain ⟨r, p, q, a1, c1, b1, k1, k2, k3, k4, k5, k6, k7⟩ := ih [] [] c' (by simp only [List.length_nil]; omega) h1 (by simpa [inW] using h2) hb hc ho
            have hr : NoPut r := k7 trivial trivial
            exact ⟨_, _, _, _, _, _, k1, .pb z hr k2, .pb z trivial k3, .pb z trivial k4, .kk k5, k6, fun _ _ => hr⟩
      | cons t a' =>
        cases t using Tok.by3 with
        | K => simp [outW, inW] at h1
        | P x => simp [outW, inW] at h1
        | X =>
          obtain ⟨o1, o2⟩ := ord_X.1 ho
          cases c with
          | nil => simp [inW] at h2
          | cons v c' =>
            cases v using Tok.by3 with
            | P z =>
              simp only [List.length_cons, List.length_nil] at hn
              obtain ⟨r, p, q, a1, c1, b1, k1, k2, k3, k4, k5, k6, k7⟩ := ih (Tok.X :: a') [] c' (by simp only [List.length_cons, List.length_nil]; omega) h1 (by simpa [inW] using h2) hb hc ho
              have hr : NoPut r := k7 (noPut_X _) trivial
              exact ⟨_, _, _, _, _, _, k1, .pb z hr k2, .pb z (noPut_X _) k3, .pb z trivial k4, .kk k5, k6, fun _ _ => hr⟩
            | X => exact absurd hc (by simp [NoCut])
            | K =>
              simp only [List.length_cons, List.length_nil] at hn
              obtain ⟨r, p, q, a1, c1, b1, k1, k2, k3, k4, k5, k6, k7⟩ := ih a' [] c' (by simp only [List.length_nil]; omega) (by simpa [outW] using h1) (by simpa [inW] using h2) hb hc o2
              have hr : NoPut r := k7 o1 trivial
              exact ⟨_, _, _, _, _, _, .cut k1, .xk k2, .xk k3, k4, .cut k5, ord_X.2 ⟨hr, k6⟩, fun _ _ => noPut_X _⟩

/-- the places at which a word puts -/
def putsW : List Tok → Nat → List Nat
  | [], _ => []
  | ⟨.inr _⟩ :: w, i => i :: putsW w i
  | ⟨.inl _⟩ :: w, i => putsW w (i + 1)
/-- of two that put nowhere at one place it does not matter which is named first -/
theorem Mt.apart {a b x y : List Tok} (h : Mt a b x y) : ∀ i, (∀ j ∈ putsW a i, j ∉ putsW b i) → Mt b a y x := by
  refine h (fun a b x y => ∀ i, (∀ j ∈ putsW a i, j ∉ putsW b i) → Mt b a y x) (fun _ _ => .nil) ?_ ?_ ?_ ?_ ?_ ?_
  · intro c a b x y ih i hd
    have h1 : i ∉ putsW b i := hd i (by simp [putsW])
    have hb : NoPut b := by
      cases b with
      | nil => trivial
      | cons t b =>
        cases t using Tok.by3 with
        | K => trivial
        | X => trivial
        | P c => exact absurd (by simp [putsW]) h1
    exact .pb c hb (ih i (fun j hj => hd j (by simp [putsW, hj])))
  · intro c a b x y _ ih i hd
    exact .pa c (ih i (fun j hj hj2 => hd j hj (by simp [putsW, hj2])))
  · intro a b x y ih i hd
    exact .kk (ih (i + 1) hd)
  · intro a b x y ih i hd
    exact .xk (ih (i + 1) hd)
  · intro a b x y ih i hd
    exact .kx (ih (i + 1) hd)
  · intro a b x y ih i hd
    exact .xx (ih (i + 1) hd)
/-- as many bytes are put -/
def putN : List Tok → Nat
  | [] => 0
  | ⟨.inr _⟩ :: w => putN w + 1
  | ⟨.inl _⟩ :: w => putN w
theorem Mt.putN {a b x y : List Tok} (h : Mt a b x y) : putN x = putN a ∧ putN y = putN b := by
  refine h (fun a b x y => Go.Proofs.Ytcghojnmnmmpoaa.putN x = Go.Proofs.Ytcghojnmnmmpoaa.putN a ∧ Go.Proofs.Ytcghojnmnmmpoaa.putN y = Go.Proofs.Ytcghojnmnmmpoaa.putN b) ⟨rfl, rfl⟩ ?_ ?_ ?_ ?_ ?_ ?_
  · rintro c a b x y ⟨h1, h2⟩; exact ⟨by simp [Go.Proofs.Ytcghojnmnmmpoaa.putN, h1], by simpa [Go.Proofs.Ytcghojnmnmmpoaa.putN] using h2⟩
  · rintro c a b x y _ ⟨h1, h2⟩; exact ⟨by simpa [Go.Proofs.Ytcghojnmnmmpoaa.putN] using h1, by simp [Go.Proofs.Ytcghojnmnmmpoaa.putN, h2]⟩
  · rintro a b x y ⟨h1, h2⟩; exact ⟨h1, h2⟩
  · rintro a b x y ⟨h1, h2⟩; exact ⟨h1, h2⟩
  · rintro a b x y ⟨h1, h2⟩; exact ⟨h1, h2⟩
  · rintro a b x y ⟨h1, h2⟩; exact ⟨h1, h2⟩

end Go.Proofs.Ytcghojnmnmmpoaa

/- Places as a text changes, on words: no program in it. -/
namespace Go.Proofs.Ytcghojnmnmmpoaa
set_option linter.unusedSimpArgs false
set_option linter.unusedVariables false

/-- how many bytes of what a word makes are ahead of a place of its text; late: with what is put at this very place -/
def spotW : List Tok → Nat → Bool → Nat
  | [], _, _ => 0
  | ⟨.inr _⟩ :: w, 0, l => if l = true then spotW w 0 l + 1 else 0
  | ⟨.inr _⟩ :: w, n + 1, l => spotW w (n + 1) l + 1
  | ⟨.inl _⟩ :: _, 0, _ => 0
  | ⟨.inl true⟩ :: w, n + 1, l => spotW w n l + 1
  | ⟨.inl false⟩ :: w, n + 1, l => spotW w n l

theorem spot_zero (w : List Tok) : spotW w 0 false = 0 := by
  cases w with
  | nil => rfl
  | cons t w => cases t using Tok.by3 <;> simp [spotW]
theorem spot_end (w : List Tok) : spotW w (inW w) true = outW w := by
  induction w with
  | nil => rfl
  | cons t w ih =>
    cases t using Tok.by3 with
    | K => simp [spotW, inW, outW, ih]
    | X => simp [spotW, inW, outW, ih]
    | P c =>
      cases hn : inW w with
      | zero => rw [hn] at ih; simp [spotW, inW, outW, hn, ih]
      | succ n => rw [hn] at ih; simp [spotW, inW, outW, hn, ih]
theorem spot_late (w : List Tok) (n : Nat) : spotW w n false ≤ spotW w n true := by
  induction w generalizing n with
  | nil => simp [spotW]
  | cons t w ih =>
    cases n with
    | zero => rw [spot_zero]; omega
    | succ n =>
      cases t using Tok.by3 with
      | K => simpa [spotW] using ih n
      | X => simpa [spotW] using ih n
      | P c => simpa [spotW] using ih (n + 1)
/-- from one place to the next: a byte, if it is kept -/
def keptW : List Tok → Nat → Bool
  | [], _ => false
  | ⟨.inr _⟩ :: w, n => keptW w n
  | ⟨.inl b⟩ :: _, 0 => b
  | ⟨.inl _⟩ :: w, n + 1 => keptW w n
theorem spot_next (w : List Tok) (n : Nat) (h : n < inW w) : spotW w (n + 1) false = spotW w n true + (keptW w n).toNat := by
  induction w generalizing n with
  | nil => simp [inW] at h
  | cons t w ih =>
    cases t using Tok.by3 with
    | K =>
      cases n with
      | zero => simp [spotW, keptW, spot_zero]
      | succ n => have := ih n (by simpa [inW] using h); simp [spotW, keptW, this]; omega
    | X =>
      cases n with
      | zero => simp [spotW, keptW, spot_zero]
      | succ n => have := ih n (by simpa [inW] using h); simp [spotW, keptW, this]
    | P c =>
      have := ih n (by simpa [inW] using h)
      cases n with
      | zero => simp [spotW, keptW, this]; omega
      | succ n => simp [spotW, keptW, this]; omega
theorem spot_mono (w : List Tok) {i k : Nat} (h : i < k) (hk : k ≤ inW w) : spotW w i true ≤ spotW w k false := by
  induction k with
  | zero => omega
  | succ k ih =>
    have h1 := spot_next w k (by omega)
    rcases Nat.lt_or_ge i k with h2 | h2
    · have h3 := ih h2 (by omega)
      have h4 := spot_late w k
      omega
    · have : i = k := by omega
      subst this
      omega
theorem spot_le (w : List Tok) {k : Nat} (hk : k ≤ inW w) : spotW w k true ≤ outW w := by
  rcases Nat.lt_or_ge k (inW w) with h | h
  · have h1 := spot_mono w h (Nat.le_refl _)
    have h2 := spot_late w (inW w)
    rw [spot_end] at h2
    omega
  · have : k = inW w := by omega
    subst this
    rw [spot_end]
    omega
/-- a byte that is kept is where the pairs say -/
theorem spot_pair (w : List Tok) : ∀ (i0 k0 i j : Nat), (i, j) ∈ pairsW w i0 k0 → i0 ≤ i ∧ keptW w (i - i0) = true ∧ k0 + spotW w (i - i0) true = j := by
  induction w with
  | nil => intro i0 k0 i j h; simp [pairsW] at h
  | cons t w ih =>
    intro i0 k0 i j h
    cases t using Tok.by3 with
    | K =>
      simp only [pairsW, List.mem_cons, Prod.mk.injEq] at h
      rcases h with ⟨rfl, rfl⟩ | h
      · exact ⟨Nat.le_refl _, by simp [keptW], by simp [spotW]⟩
      · obtain ⟨h1, h2, h3⟩ := ih _ _ _ _ h
        obtain ⟨m, hm⟩ : ∃ m, i - i0 = m + 1 := ⟨i - i0 - 1, by omega⟩
        rw [show i - (i0 + 1) = m by omega] at h2 h3
        rw [hm]
        exact ⟨by omega, by simpa [keptW] using h2, by simp [spotW]; omega⟩
    | X =>
      obtain ⟨h1, h2, h3⟩ := ih _ _ _ _ h
      obtain ⟨m, hm⟩ : ∃ m, i - i0 = m + 1 := ⟨i - i0 - 1, by omega⟩
      rw [show i - (i0 + 1) = m by omega] at h2 h3
      rw [hm]
      exact ⟨by omega, by simpa [keptW] using h2, by simp [spotW]; omega⟩
    | P c =>
      obtain ⟨h1, h2, h3⟩ := ih _ _ _ _ h
      refine ⟨h1, by simpa [keptW] using h2, ?_⟩
      cases hm : i - i0 with
      | zero => rw [hm] at h3; simp [spotW]; omega
      | succ m => rw [hm] at h3; simp [spotW]; omega
theorem pair_of (w : List Tok) : ∀ (i0 k0 n : Nat), n < inW w → keptW w n = true → (i0 + n, k0 + spotW w n true) ∈ pairsW w i0 k0 := by
  induction w with
  | nil => intro i0 k0 n h; simp [inW] at h
  | cons t w ih =>
    intro i0 k0 n h hk
    cases t using Tok.by3 with
    | K =>
      cases n with
      | zero => simp [pairsW, spotW]
      | succ n =>
        have := ih (i0 + 1) (k0 + 1) n (by simpa [inW] using h) (by simpa [keptW] using hk)
        simp only [pairsW, spotW, List.mem_cons]
        right
        rw [show i0 + (n + 1) = i0 + 1 + n by omega, show k0 + (spotW w n true + 1) = k0 + 1 + spotW w n true by omega]
        exact this
    | X =>
      cases n with
      | zero => simp [keptW] at hk
      | succ n =>
        have := ih (i0 + 1) k0 n (by simpa [inW] using h) (by simpa [keptW] using hk)
        simp only [pairsW, spotW]
        rw [show i0 + (n + 1) = i0 + 1 + n by omega]
        exact this
    | P c =>
      have := ih i0 (k0 + 1) n (by simpa [inW] using h) (by simpa [keptW] using hk)
      cases n with
      | zero =>
        simp only [pairsW, spotW, if_true]
        rw [show k0 + (spotW w 0 true + 1) = k0 + 1 + spotW w 0 true by omega]
        exact this
      | succ n =>
        simp only [pairsW, spotW]
        rw [show k0 + (spotW w (n + 1) true + 1) = k0 + 1 + spotW w (n + 1) true by omega]
        exact this
/-- a byte that is kept is the byte that it was -/
theorem spot_byte (w : List Tok) : ∀ (s : List UInt8) (n : Nat), s.length = inW w → n < inW w → keptW w n = true → (doW w s)[spotW w n true]? = s[n]? := by
  induction w with
  | nil => intro s n _ h; simp [inW] at h
  | cons t w ih =>
    intro s n hs h hk
    cases t using Tok.by3 with
    | K =>
      cases s with
      | nil => simp [inW] at hs
      | cons d s =>
        cases n with
        | zero => simp [doW, spotW]
        | succ n => simpa [doW, spotW] using ih s n (by simpa [inW] using hs) (by simpa [inW] using h) (by simpa [keptW] using hk)
    | X =>
      cases s with
      | nil => simp [inW] at hs
      | cons d s =>
        cases n with
        | zero => simp [keptW] at hk
        | succ n => simpa [doW, spotW] using ih s n (by simpa [inW] using hs) (by simpa [inW] using h) (by simpa [keptW] using hk)
    | P c =>
      have := ih s n (by simpa [inW] using hs) (by simpa [inW] using h) (by simpa [keptW] using hk)
      cases n with
      | zero => simpa [doW, spotW] using this
      | succ n => simpa [doW, spotW] using this
/-- the way back: where a byte is kept, its place is told back -/
theorem spot_back {w v : List Tok} (h : ∀ i k, pairsW v k i = swapP (pairsW w i k)) {n : Nat} (hn : n < inW w) (hk : keptW w n = true) : spotW v (spotW w n true) true = n := by
  have h1 := pair_of w 0 0 n hn hk
  have h2 : (spotW w n true, n) ∈ pairsW v 0 0 := by
    rw [h 0 0]
    simp only [swapP, List.mem_map]
    exact ⟨_, h1, by simp⟩
  obtain ⟨_, _, h5⟩ := spot_pair v 0 0 _ _ h2
  simpa using h5

end Go.Proofs.Ytcghojnmnmmpoaa

/- What the document's road makes of two deltas of one text, place by place: it is what is left of each; and a place, as the text changes: no program in it. -/
namespace Go.Proofs.Ytcghojnmnmmpoaa
set_option linter.unusedSimpArgs false
set_option linter.unusedVariables false

theorem Mt.pas (t : List UInt8) {a b x y : List Tok} (h : Mt a b x y) : Mt (t.map .P ++ a) b (t.map .P ++ x) (List.replicate t.length .K ++ y) := by
  induction t with
  | nil => exact h
  | cons c t ih => exact .pa c ih
theorem Mt.pbs (t : List UInt8) {a b x y : List Tok} (hn : NoPut a) (h : Mt a b x y) : Mt a (t.map .P ++ b) (List.replicate t.length .K ++ x) (t.map .P ++ y) := by
  induction t with
  | nil => exact h
  | cons c t ih => exact .pb c hn ih
def keepQ (q : ByteArray) : Pt := ⟨1, q.size, ByteArray.empty⟩
def putQ (q : ByteArray) : Pt := ⟨2, 0, q⟩
def oneQ (b : Bool) : Pt := ⟨if b = true then 1 else 3, 1, ByteArray.empty⟩
/-- what is left of the one -/
def leftL : List ByteArray → List Bool → List ByteArray → List Bool → List Pt
  | q :: qs, b :: ks, u :: us, c :: ls => putQ q :: keepQ u :: (if c = true then [oneQ b] else []) ++ leftL qs ks us ls
  | q :: _, _, u :: _, _ => [putQ q, keepQ u]
  | _, _, _, _ => []
/-- what is left of the other -/
def leftR : List ByteArray → List Bool → List ByteArray → List Bool → List Pt
  | q :: qs, b :: ks, u :: us, c :: ls => keepQ q :: putQ u :: (if b = true then [oneQ c] else []) ++ leftR qs ks us ls
  | q :: _, _, u :: _, _ => [keepQ q, putQ u]
  | _, _, _, _ => []
theorem word_putQ (q : ByteArray) : wordP (putQ q) = q.data.toList.map .P := by simp [wordP, putQ]
theorem word_keepQ (q : ByteArray) : wordP (keepQ q) = List.replicate q.data.toList.length .K := by
  have h : q.data.toList.length = q.size := Array.length_toList
  rw [h]; simp [wordP, keepQ]
theorem word_oneQ (b : Bool) : wordP (oneQ b) = [if b = true then Tok.K else Tok.X] := by cases b <;> simp [wordP, oneQ]
theorem left_mt (qs us : List ByteArray) (ks ls : List Bool) (h1 : qs.length = ks.length + 1) (h2 : us.length = ls.length + 1) (h3 : ks.length = ls.length) :
    Mt (placesW qs ks) (placesW us ls) (wordL (leftL qs ks us ls)) (wordL (leftR qs ks us ls)) := by
  induction ks generalizing qs us ls with
  | nil =>
    match qs, h1 with
    | [q], _ =>
      cases ls with
      | cons _ _ => simp at h3
      | nil =>
        match us, h2 with
        | [u], _ =>
          have h := (Mt.pbs (a := []) u.data.toList trivial Mt.nil).pas q.data.toList
          simpa [placesW, leftL, leftR, wordL, word_putQ, word_keepQ] using h
  | cons b ks ih =>
    cases ls with
    | nil => simp at h3
    | cons c ls =>
      match qs, h1 with
      | q :: qs, h1 =>
        match us, h2 with
        | u :: us, h2 =>
          have hm := ih qs us ls (by simpa using h1) (by simpa using h2) (by simpa using h3)
          have hs : Mt ((if b = true then Tok.K else Tok.X) :: placesW qs ks) ((if c = true then Tok.K else Tok.X) :: placesW us ls) ((if c = true then [if b = true then Tok.K else Tok.X] else []) ++ wordL (leftL qs ks us ls)) ((if b = true then [if c = true then Tok.K else Tok.X] else []) ++ wordL (leftR qs ks us ls)) := by
            cases b <;> cases c <;> simp
            · exact .xx hm
            · exact .xk hm
            · exact .kx hm
            · exact .kk hm
          have hn : NoPut ((if b = true then Tok.K else Tok.X) :: placesW qs ks) := by cases b <;> trivial
          have h := (hs.pbs u.data.toList hn).pas q.data.toList
          have e1 : wordL (leftL (q :: qs) (b :: ks) (u :: us) (c :: ls)) = q.data.toList.map .P ++ (List.replicate u.data.toList.length .K ++ ((if c = true then [if b = true then Tok.K else Tok.X] else []) ++ wordL (leftL qs ks us ls))) := by
            simp only [leftL, wordL_cons, List.cons_append, wordL_app, word_putQ, word_keepQ]
            cases c <;> simp [wordL, word_oneQ]
          have e2 : wordL (leftR (q :: qs) (b :: ks) (u :: us) (c :: ls)) = List.replicate q.data.toList.length .K ++ (u.data.toList.map .P ++ ((if b = true then [if c = true then Tok.K else Tok.X] else []) ++ wordL (leftR qs ks us ls))) := by
            simp only [leftR, wordL_cons, List.cons_append, wordL_app, word_putQ, word_keepQ]
            cases b <;> simp [wordL, word_oneQ]
          rw [placesW, placesW, e1, e2]
          exact h
/-- the document's two answers -/
theorem left_meet {a b : List Pt} (ha : Good a) (hb : Good b) (h : inI a = inI b) :
    wordL (leftL (ofAll a).1 (ofAll a).2 (ofAll b).1 (ofAll b).2) = meetX (wordL a) (wordL b) ∧ wordL (leftR (ofAll a).1 (ofAll a).2 (ofAll b).1 (ofAll b).2) = meetY (wordL a) (wordL b) := by
  have l1 := ofAll_keptlen (l := a) (fun p hp => ⟨(ha p hp).2.1, (ha p hp).2.2.1⟩)
  have l2 := ofAll_keptlen (l := b) (fun p hp => ⟨(hb p hp).2.1, (hb p hp).2.2.1⟩)
  have hm := left_mt _ _ _ _ (ofAll_len a) (ofAll_len b) (by omega)
  rw [places_word ha.kinds, places_word hb.kinds] at hm
  exact hm.one

/-- a place by the document's road -/
def spotP : List ByteArray → List Bool → Nat → Bool → Nat
  | q :: _, _, 0, l => if l = true then q.size else 0
  | q :: qs, b :: ks, n + 1, l => q.size + b.toNat + spotP qs ks n l
  | _, _, _, _ => 0
theorem spot_puts (t : List UInt8) (w : List Tok) (n : Nat) (l : Bool) : spotW (t.map .P ++ w) n l = if n = 0 ∧ l = false then 0 else t.length + spotW w n l := by
  induction t with
  | nil =>
    by_cases h : n = 0 ∧ l = false
    · obtain ⟨rfl, rfl⟩ := h; simp [spot_zero]
    · simp [h]
  | cons c t ih =>
    cases n with
    | zero =>
      cases l
      · simp [spotW]
      · simp [spotW] at ih ⊢; omega
    | succ n => simp [spotW] at ih ⊢; omega
theorem spotP_word (qs : List ByteArray) (ks : List Bool) (h : qs.length = ks.length + 1) (n : Nat) (hn : n ≤ ks.length) (l : Bool) : spotP qs ks n l = spotW (placesW qs ks) n l := by
  induction ks generalizing qs n with
  | nil =>
    match qs, h with
    | [q], _ =>
      have hl : q.data.toList.length = q.size := Array.length_toList
      have h0 : n = 0 := by simpa using hn
      subst h0
      have := spot_puts q.data.toList [] 0 l
      simp only [List.append_nil] at this
      simp only [placesW, this, spotP]
      cases l <;> simp [spotW, hl]
  | cons b ks ih =>
    match qs, h with
    | q :: qs, h =>
      have hl : q.data.toList.length = q.size := Array.length_toList
      rw [placesW, spot_puts]
      cases n with
      | zero =>
        cases l
        · simp [spotP]
        · cases b <;> simp [spotP, spotW, hl]
      | succ n =>
        have := ih qs (by simpa using h) n (by simpa using hn)
        cases b <;> simp [spotP, spotW, hl, this] <;> omega
theorem spotP_of {d : List Pt} (h : Good d) (n : Nat) (hn : (n : Int) ≤ inI d) (l : Bool) : spotP (ofAll d).1 (ofAll d).2 n l = spotW (wordL d) n l := by
  have l1 := ofAll_keptlen (l := d) (fun p hp => ⟨(h p hp).2.1, (h p hp).2.2.1⟩)
  rw [spotP_word _ _ (ofAll_len d) n (by omega), places_word h.kinds]

end Go.Proofs.Ytcghojnmnmmpoaa

/- What Norm makes of parts that are not yet in form: no program in it. -/
namespace Go.Proofs.Ytcghojnmnmmpoaa
set_option linter.unusedSimpArgs false
set_option linter.unusedVariables false

/-- parts that Norm takes -/
theorem norm_loose {J : List Pt} (hG : Good J) (hl : J.length ≤ 1600) (hb : ∀ p ∈ J, p.n ≤ 500 ∧ p.t.size ≤ 500) : Small J ∧ gatherL J = canonW (wordL J) ∧ normE J = (if sizesE (canonW (wordL J)) = 0 then 0 else 2) ∧ (normE J = 0 → normL J = canonW (wordL J)) ∧ (normE J ≠ 0 → normL J = []) := by
  have h0 : looseE J = 0 := by
    rw [looseE, if_neg (by omega)]
    have h : ∀ p ∈ J, looseP p = 0 := by
      intro p hp
      obtain ⟨g1, g2, g3, g4⟩ := hG p hp
      obtain ⟨b1, b2⟩ := hb p hp
      have hf : formedB p.k p.n p.t = true := by
        unfold formedB
        rcases g1 with k | k | k
        · rw [if_pos (Or.inl k)]; simp only [Bool.and_eq_true, decide_eq_true_eq]; exact ⟨g2, g4 (by omega)⟩
        · rw [if_neg (by omega)]; simp only [Bool.and_eq_true, decide_eq_true_eq]; exact ⟨k, g3 k⟩
        · rw [if_pos (Or.inr k)]; simp only [Bool.and_eq_true, decide_eq_true_eq]; exact ⟨g2, g4 (by omega)⟩
      rw [looseP, if_pos hf, if_neg]
      unfold widthI
      split <;> omega
    clear hl hb hG
    induction J with
    | nil => rfl
    | cons p r ih =>
      show (if looseP p = 0 then looseS r else looseP p) = 0
      rw [if_pos (h p (by simp))]
      exact ih (fun q hq => h q (List.mem_cons_of_mem _ hq))
  have hg := gather_canon hG.kinds
  have hn : normE J = (if sizesE (canonW (wordL J)) = 0 then 0 else 2) := by rw [normE, if_pos h0, hg]
  exact ⟨⟨hl, fun p hp => ⟨(hG p hp).2.1, (hb p hp).1, (hb p hp).2⟩⟩, hg, hn, fun h => by rw [normL, if_pos h, hg], fun h => by rw [normL, if_neg h]⟩
end Go.Proofs.Ytcghojnmnmmpoaa

/- As many bytes come of a text as Out says; and what the laws' All answers. -/
namespace Go.Proofs.Ytcghojnmnmmpoaa
open Go.RowKit
set_option linter.unusedSimpArgs false
set_option linter.unusedVariables false

theorem doL_len {l : List Pt} (hs : ∀ p ∈ l, 0 ≤ p.n ∧ p.n ≤ 500 ∧ p.t.size ≤ 500) (hr : Right l) {s : List UInt8} (h : (s.length : Int) = inI l) : ((doL l s).length : Int) = outI l := by
  induction l generalizing s with
  | nil => simp [doL, outI]
  | cons p r ih =>
    have hp := hr p (by simp)
    have hb := hs p (by simp)
    have hs' : ∀ q ∈ r, 0 ≤ q.n ∧ q.n ≤ 500 ∧ q.t.size ≤ 500 := fun q hq => hs q (List.mem_cons_of_mem _ hq)
    have hr' : Right r := fun q hq => hr q (List.mem_cons_of_mem _ hq)
    have hge := (inI_bd hs').1
    have ih := fun (s : List UInt8) => ih hs' hr' (s := s)
    simp only [inI] at h
    have htl : p.t.data.toList.length = p.t.size := Array.length_toList
    rcases hp with ⟨h1 | h1 | h1, h2, h3, h4⟩
    · have e := ih (s.drop p.n.toNat) (by rw [List.length_drop]; omega)
      have ht := (h3 (by omega)).1
      rw [doL, if_pos h1, outI, if_neg (by omega), List.length_append, List.length_take, ht]
      omega
    · have e := ih s (by have := h2 h1; omega)
      have hn := h2 h1
      rw [doL, if_neg (by omega), if_pos h1, outI, if_neg (by omega), List.length_append, htl, hn]
      omega
    · have e := ih (s.drop p.n.toNat) (by rw [List.length_drop]; omega)
      rw [doL, if_neg (by omega), if_neg (by omega), outI, if_pos h1]
      omega

def allL (n : Int) : List Pt := if n = 0 then [] else [⟨1, n, ByteArray.empty⟩]



end Go.Proofs.Ytcghojnmnmmpoaa

/- Two deltas of one text, as lists of parts: what both roads make of them, and the laws: no program in it. -/
namespace Go.Proofs.Ytcghojnmnmmpoaa
set_option linter.unusedSimpArgs false
set_option linter.unusedVariables false

def meetE (a b : List Pt) : Int := if sizesE a = 0 then (if sizesE b = 0 then (if inI a = inI b then (if outW (meetX (wordL a) (wordL b)) ≤ 500 then 0 else 2) else 4) else sizesE b) else sizesE a
def meetL (a b : List Pt) : List Pt := if meetE a b = 0 then canonW (meetX (wordL a) (wordL b)) else []
def meetR (a b : List Pt) : List Pt := if meetE a b = 0 then canonW (meetY (wordL a) (wordL b)) else []
theorem meet_is {a b : List Pt} (h1 : sizesE a = 0) (h2 : sizesE b = 0) (h3 : inI a = inI b) : meetE a b = if outW (meetX (wordL a) (wordL b)) ≤ 500 then 0 else 2 := by rw [meetE, if_pos h1, if_pos h2, if_pos h3]
theorem meet_zero {a b : List Pt} (h : meetE a b = 0) : sizesE a = 0 ∧ sizesE b = 0 ∧ inI a = inI b ∧ outW (meetX (wordL a) (wordL b)) ≤ 500 := by
  unfold meetE at h
  split at h
  · rename_i h1
    split at h
    · rename_i h2
      split at h
      · rename_i h3
        split at h
        · rename_i h4; exact ⟨h1, h2, h3, h4⟩
        · omega
      · omega
    · contradiction
  · contradiction
theorem meet_mt {a b : List Pt} (h1 : sizesE a = 0) (h2 : sizesE b = 0) (h3 : inI a = inI b) : Mt (wordL a) (wordL b) (meetX (wordL a) (wordL b)) (meetY (wordL a) (wordL b)) := by
  obtain ⟨ga, ca, ia, oa, la, ma⟩ := delta_facts h1
  obtain ⟨gb, cb, ib, ob, lb, mb⟩ := delta_facts h2
  exact mt_meet (by omega)
theorem meet_facts {a b : List Pt} (h : meetE a b = 0) : sizesE (meetL a b) = 0 ∧ sizesE (meetR a b) = 0 ∧ inI (meetL a b) = outI b ∧ inI (meetR a b) = outI a ∧ outI (meetL a b) = outI (meetR a b) ∧
    Sem (wordL (meetL a b)) (meetX (wordL a) (wordL b)) ∧ Sem (wordL (meetR a b)) (meetY (wordL a) (wordL b)) := by
  obtain ⟨h1, h2, h3, h4⟩ := meet_zero h
  obtain ⟨ga, ca, ia, oa, la, ma⟩ := delta_facts h1
  obtain ⟨gb, cb, ib, ob, lb, mb⟩ := delta_facts h2
  obtain ⟨s1, s2, s3, s4⟩ := (meet_mt h1 h2 h3).sizes
  obtain ⟨x1, x2, x3, x4⟩ := canon_facts (w := meetX (wordL a) (wordL b)) (by omega) h4
  obtain ⟨y1, y2, y3, y4⟩ := canon_facts (w := meetY (wordL a) (wordL b)) (by omega) (by omega)
  rw [meetL, meetR, if_pos h, if_pos h]
  exact ⟨x1, y1, by omega, by omega, by omega, canon_sem _, canon_sem _⟩
theorem sizes_len {l : List Pt} (h : sizesE l = 0) : l.length ≤ 1600 := (sizes_zero h).1.1

theorem places_size {qs : List ByteArray} {ks : List Bool} (h : qs.length = ks.length + 1) : ∀ q ∈ qs, q.size ≤ outW (placesW qs ks) := by
  induction ks generalizing qs with
  | nil =>
    match qs, h with
    | [q], _ =>
      intro x hx
      simp only [List.mem_singleton] at hx
      subst hx
      have hl : x.data.toList.length = x.size := Array.length_toList
      have := outW_map x.data.toList []
      simp only [List.append_nil] at this
      rw [placesW, this]; omega
  | cons b ks ih =>
    match qs, h with
    | q :: qs, h =>
      have hl : q.data.toList.length = q.size := Array.length_toList
      have ih := ih (qs := qs) (by simpa using h)
      intro x hx
      rw [placesW, outW_map]
      have ht : outW (placesW qs ks) ≤ outW ((if b = true then Tok.K else Tok.X) :: placesW qs ks) := by cases b <;> simp [outW]
      rcases List.mem_cons.1 hx with rfl | hx
      · omega
      · have := ih x hx; omega
theorem left_good {qs us : List ByteArray} (hq : ∀ q ∈ qs, q.size ≤ 500) (hu : ∀ q ∈ us, q.size ≤ 500) : ∀ ks ls, (Good (leftL qs ks us ls) ∧ ∀ p ∈ leftL qs ks us ls, p.n ≤ 500 ∧ p.t.size ≤ 500) ∧ (Good (leftR qs ks us ls) ∧ ∀ p ∈ leftR qs ks us ls, p.n ≤ 500 ∧ p.t.size ≤ 500) ∧ (leftL qs ks us ls).length ≤ 3 * qs.length ∧ (leftR qs ks us ls).length ≤ 3 * qs.length := by
  have hP : ∀ q : ByteArray, q.size ≤ 500 → ((putQ q).k = 1 ∨ (putQ q).k = 2 ∨ (putQ q).k = 3) ∧ 0 ≤ (putQ q).n ∧ ((putQ q).k = 2 → (putQ q).n = 0) ∧ ((putQ q).k ≠ 2 → (putQ q).t.size = 0) ∧ (putQ q).n ≤ 500 ∧ (putQ q).t.size ≤ 500 := by
    intro q h
    refine ⟨Or.inr (Or.inl rfl), Int.le_refl _, fun _ => rfl, fun e => absurd rfl e, ?_, h⟩
    show (0 : Int) ≤ 500; omega
  have hK : ∀ q : ByteArray, q.size ≤ 500 → ((keepQ q).k = 1 ∨ (keepQ q).k = 2 ∨ (keepQ q).k = 3) ∧ 0 ≤ (keepQ q).n ∧ ((keepQ q).k = 2 → (keepQ q).n = 0) ∧ ((keepQ q).k ≠ 2 → (keepQ q).t.size = 0) ∧ (keepQ q).n ≤ 500 ∧ (keepQ q).t.size ≤ 500 := by
    intro q h
    refine ⟨Or.inl rfl, Int.natCast_nonneg _, fun e => absurd e (by simp [keepQ]), fun _ => rfl, ?_, Nat.zero_le _⟩
    show (q.size : Int) ≤ 500; omega
  have hO : ∀ b : Bool, ((oneQ b).k = 1 ∨ (oneQ b).k = 2 ∨ (oneQ b).k = 3) ∧ 0 ≤ (oneQ b).n ∧ ((oneQ b).k = 2 → (oneQ b).n = 0) ∧ ((oneQ b).k ≠ 2 → (oneQ b).t.size = 0) ∧ (oneQ b).n ≤ 500 ∧ (oneQ b).t.size ≤ 500 := by
    intro b
    have h1 : (0 : Int) ≤ 1 := by omega
    have h2 : (1 : Int) ≤ 500 := by omega
    cases b
    · exact ⟨Or.inr (Or.inr rfl), h1, fun e => absurd e (by simp [oneQ]), fun _ => rfl, h2, Nat.zero_le _⟩
    · exact ⟨Or.inl rfl, h1, fun e => absurd e (by simp [oneQ]), fun _ => rfl, h2, Nat.zero_le _⟩
  have hone : ∀ (p : Pt), (p.k = 1 ∨ p.k = 2 ∨ p.k = 3) ∧ 0 ≤ p.n ∧ (p.k = 2 → p.n = 0) ∧ (p.k ≠ 2 → p.t.size = 0) ∧ p.n ≤ 500 ∧ p.t.size ≤ 500 → ∀ l : List Pt, (Good l ∧ ∀ p ∈ l, p.n ≤ 500 ∧ p.t.size ≤ 500) → Good (p :: l) ∧ ∀ q ∈ p :: l, q.n ≤ 500 ∧ q.t.size ≤ 500 := by
    intro p hp l ⟨h1, h2⟩
    refine ⟨fun q hq => ?_, fun q hq => ?_⟩
    · rcases List.mem_cons.1 hq with rfl | hq
      · exact ⟨hp.1, hp.2.1, hp.2.2.1, hp.2.2.2.1⟩
      · exact h1 q hq
    · rcases List.mem_cons.1 hq with rfl | hq
      · exact hp.2.2.2.2
      · exact h2 q hq
  have hnil : Good ([] : List Pt) ∧ ∀ p ∈ ([] : List Pt), p.n ≤ 500 ∧ p.t.size ≤ 500 := ⟨by intro p hp; simp at hp, by intro p hp; simp at hp⟩
  induction qs generalizing us with
  | nil =>
    intro ks ls
    have e1 : leftL [] ks us ls = [] := by first | rfl | (cases ks <;> cases ls <;> rfl) | (cases ks <;> cases us <;> cases ls <;> rfl)
    have e2 : leftR [] ks us ls = [] := by first | rfl | (cases ks <;> cases ls <;> rfl) | (cases ks <;> cases us <;> cases ls <;> rfl)
    rw [e1, e2]
    exact ⟨hnil, hnil, by simp, by simp⟩
  | cons q qs ih =>
    intro ks ls
    have q5 := hq q (by simp)
    cases us with
    | nil =>
      have e1 : leftL (q :: qs) ks [] ls = [] := by first | rfl | (cases ks <;> cases ls <;> rfl) | (cases ks <;> cases us <;> cases ls <;> rfl)
      have e2 : leftR (q :: qs) ks [] ls = [] := by first | rfl | (cases ks <;> cases ls <;> rfl) | (cases ks <;> cases us <;> cases ls <;> rfl)
      rw [e1, e2]
      exact ⟨hnil, hnil, by simp, by simp⟩
    | cons u us =>
      have u5 := hu u (by simp)
      have hshort : ∀ ks ls, (leftL (q :: qs) ks (u :: us) ls = [putQ q, keepQ u] ∧ leftR (q :: qs) ks (u :: us) ls = [keepQ q, putQ u]) → (Good (leftL (q :: qs) ks (u :: us) ls) ∧ ∀ p ∈ leftL (q :: qs) ks (u :: us) ls, p.n ≤ 500 ∧ p.t.size ≤ 500) ∧ (Good (leftR (q :: qs) ks (u :: us) ls) ∧ ∀ p ∈ leftR (q :: qs) ks (u :: us) ls, p.n ≤ 500 ∧ p.t.size ≤ 500) ∧ (leftL (q :: qs) ks (u :: us) ls).length ≤ 3 * (q :: qs).length ∧ (leftR (q :: qs) ks (u :: us) ls).length ≤ 3 * (q :: qs).length := by
        rintro ks ls ⟨e1, e2⟩
        rw [e1, e2]
        exact ⟨hone _ (hP q q5) _ (hone _ (hK u u5) _ hnil), hone _ (hK q q5) _ (hone _ (hP u u5) _ hnil), by simp; omega, by simp; omega⟩
      cases ks with
      | nil => exact hshort _ _ ⟨rfl, rfl⟩
      | cons b ks =>
        cases ls with
        | nil => exact hshort _ _ ⟨rfl, rfl⟩
        | cons c ls =>
          obtain ⟨i1, i2, i3, i4⟩ := ih (fun x hx => hq x (List.mem_cons_of_mem _ hx)) (us := us) (fun x hx => hu x (List.mem_cons_of_mem _ hx)) ks ls
          refine ⟨?_, ?_, ?_, ?_⟩
          · cases c
            · exact hone _ (hP q q5) _ (hone _ (hK u u5) _ i1)
            · exact hone _ (hP q q5) _ (hone _ (hK u u5) _ (hone _ (hO b) _ i1))
          · cases b
            · exact hone _ (hK q q5) _ (hone _ (hP u u5) _ i2)
            · exact hone _ (hK q q5) _ (hone _ (hP u u5) _ (hone _ (hO c) _ i2))
          · cases c <;> simp [leftL] <;> omega
          · cases b <;> simp [leftR] <;> omega
/-- by whichever road the places were found -/
theorem meet_road {a b : List Pt} {qs us : List ByteArray} {ks ls : List Bool} (ha : sizesE a = 0) (hb : sizesE b = 0) (hin : inI a = inI b)
    (hq : placesW qs ks = wordL a) (hu : placesW us ls = wordL b) (h1 : qs.length = ks.length + 1) (h2 : us.length = ls.length + 1) (h3 : ks.length = ls.length) (h5 : ks.length ≤ 500) :
    (Small (leftL qs ks us ls) ∧ gatherL (leftL qs ks us ls) = canonW (meetX (wordL a) (wordL b)) ∧ sizesE (canonW (meetX (wordL a) (wordL b))) = meetE a b ∧ normE (leftL qs ks us ls) = meetE a b ∧ normL (leftL qs ks us ls) = meetL a b) ∧
    (Small (leftR qs ks us ls) ∧ gatherL (leftR qs ks us ls) = canonW (meetY (wordL a) (wordL b)) ∧ sizesE (canonW (meetY (wordL a) (wordL b))) = meetE a b ∧ normE (leftR qs ks us ls) = meetE a b ∧ normL (leftR qs ks us ls) = meetR a b) := by
  obtain ⟨ga, ca, ia, oa, la, ma⟩ := delta_facts ha
  obtain ⟨gb, cb, ib, ob, lb, mb⟩ := delta_facts hb
  have hm := left_mt qs us ks ls h1 h2 h3
  rw [hq, hu] at hm
  obtain ⟨s1, s2, s3, s4⟩ := hm.sizes
  have hx : wordL (leftL qs ks us ls) = meetX (wordL a) (wordL b) := hm.one.1
  have hy : wordL (leftR qs ks us ls) = meetY (wordL a) (wordL b) := hm.one.2
  have z1 := places_size h1
  have z2 := places_size h2
  rw [hq] at z1
  rw [hu] at z2
  obtain ⟨⟨g1, g2⟩, ⟨g3, g4⟩, g5, g6⟩ := left_good (fun x hx => by have := z1 x hx; omega) (fun x hx => by have := z2 x hx; omega) ks ls
  obtain ⟨n1, n2, n3, n4, n5⟩ := norm_loose g1 (by omega) g2
  obtain ⟨m1, m2, m3, m4, m5⟩ := norm_loose g3 (by omega) g4
  have hXo : outW (meetX (wordL a) (wordL b)) ≤ 1000 := by
    obtain ⟨r, c1, c2⟩ := hm.same
    have e1 := c1.outs
    have e2 := c2.outs
    rw [← hx]
    have hp := hm.putN
    have : ∀ w : List Tok, outW w ≤ inW w + putN w ∧ putN w ≤ outW w := by
      intro w
      induction w with
      | nil => simp [outW, inW, putN]
      | cons t w ih => cases t using Tok.by3 <;> simp [outW, inW, putN] <;> omega
    have k1 := this (wordL (leftL qs ks us ls))
    have k2 := this (wordL a)
    omega
  rw [hx] at s2 s4 n2 n3 n4
  rw [hy] at s3 s4 m2 m3 m4
  have hE := meet_is ha hb hin
  have cx := canon_sizes (meetX (wordL a) (wordL b)) (by omega)
  have cy := canon_sizes (meetY (wordL a) (wordL b)) (by omega)
  have ex : sizesE (canonW (meetX (wordL a) (wordL b))) = meetE a b := by
    rw [cx, hE]
    by_cases h : outW (meetX (wordL a) (wordL b)) ≤ 500
    · rw [if_pos h, if_pos ⟨by omega, h⟩]
    · rw [if_neg h, if_neg (by omega)]
  have ey : sizesE (canonW (meetY (wordL a) (wordL b))) = meetE a b := by
    rw [cy, hE]
    by_cases h : outW (meetX (wordL a) (wordL b)) ≤ 500
    · rw [if_pos h, if_pos ⟨by omega, by omega⟩]
    · rw [if_neg h, if_neg (by omega)]
  have h02 : meetE a b = 0 ∨ meetE a b = 2 := by rw [hE]; split <;> simp
  have k1 : normE (leftL qs ks us ls) = meetE a b := by
    rw [n3, ex]
    rcases h02 with h | h
    · rw [h]; rfl
    · rw [h]; rfl
  have k2 : normE (leftR qs ks us ls) = meetE a b := by
    rw [m3, ey]
    rcases h02 with h | h
    · rw [h]; rfl
    · rw [h]; rfl
  refine ⟨⟨n1, n2, ex, k1, ?_⟩, m1, m2, ey, k2, ?_⟩
  · by_cases h : meetE a b = 0
    · rw [n4 (by omega), meetL, if_pos h]
    · rw [n5 (by omega), meetL, if_neg h]
  · by_cases h : meetE a b = 0
    · rw [m4 (by omega), meetR, if_pos h]
    · rw [m5 (by omega), meetR, if_neg h]

/-! the laws -/
theorem meet_same {a b : List Pt} (h : meetE a b = 0) : compE a (meetR a b) = 0 ∧ compE b (meetL a b) = 0 ∧ compR a (meetR a b) = compR b (meetL a b) := by
  obtain ⟨h1, h2, h3, h4⟩ := meet_zero h
  obtain ⟨x1, y1, x2, y2, x3, sx, sy⟩ := meet_facts h
  have e1 := comp_is h1 y1 (by omega)
  have e2 := comp_is h2 x1 (by omega)
  refine ⟨e1, e2, ?_⟩
  obtain ⟨r, c1, c2⟩ := (meet_mt h1 h2 h3).same
  obtain ⟨r1, d1, d2, _, _, _, d3, _⟩ := comp_facts e1
  obtain ⟨r2, f1, f2, _, _, _, f3, _⟩ := comp_facts e2
  rw [d3, f3, d2, f2]
  exact canon_sem_eq ((d1.sem c1 (Sem.rfl' _) sy).trans ((f1.sem c2 (Sem.rfl' _) sx).symm))
theorem meet_lit {a b : List Pt} (ha : sizesE a = 0) (hb : sizesE b = 0) {x y : List Pt} (hx : sizesE x = 0) (hy : sizesE y = 0) (h : Mt (wordL a) (wordL b) (wordL x) (wordL y)) : meetE a b = 0 ∧ meetL a b = x ∧ meetR a b = y := by
  obtain ⟨ga, ca, ia, oa, la, ma⟩ := delta_facts ha
  obtain ⟨gb, cb, ib, ob, lb, mb⟩ := delta_facts hb
  obtain ⟨gx, cx, ix, ox, lx, mx⟩ := delta_facts hx
  obtain ⟨gy, cy, iy, oy, ly, my⟩ := delta_facts hy
  obtain ⟨s1, _⟩ := h.sizes
  obtain ⟨e1, e2⟩ := h.one
  have h0 : meetE a b = 0 := by rw [meet_is ha hb (by omega), ← e1, if_pos mx]
  exact ⟨h0, by rw [meetL, if_pos h0, ← e1, cx], by rw [meetR, if_pos h0, ← e2, cy]⟩
theorem meet_idle {a : List Pt} (h : sizesE a = 0) : (meetE a (allL (inI a)) = 0 ∧ meetL a (allL (inI a)) = a ∧ meetR a (allL (inI a)) = allL (outI a)) ∧ (meetE (allL (inI a)) a = 0 ∧ meetL (allL (inI a)) a = allL (outI a) ∧ meetR (allL (inI a)) a = a) := by
  obtain ⟨ga, ca, ia, oa, la, ma⟩ := delta_facts h
  have z1 : sizesE (allL (inI a)) = 0 := (all_facts (n := inI a) (by omega) (by omega)).1
  have z2 : sizesE (allL (outI a)) = 0 := (all_facts (n := outI a) (by omega) (by omega)).1
  have w1 : wordL (allL (inI a)) = List.replicate (inW (wordL a)) .K := by
    have h1 : wordL (allL (inI a)) = List.replicate (inI a).toNat .K := all_word (by omega)
    rw [h1, show (inI a).toNat = inW (wordL a) by omega]
  have w2 : wordL (allL (outI a)) = List.replicate (outW (wordL a)) .K := by
    have h1 : wordL (allL (outI a)) = List.replicate (outI a).toNat .K := all_word (by omega)
    rw [h1, show (outI a).toNat = outW (wordL a) by omega]
  exact ⟨meet_lit h z1 h z2 (by rw [w1, w2]; exact Mt.idle _), meet_lit z1 h z2 h (by rw [w1, w2]; exact Mt.idleR _)⟩
theorem noCut_ord {w : List Tok} (h : NoCut w) : Ord w := by
  induction w with
  | nil => trivial
  | cons t w ih =>
    cases t using Tok.by3 with
    | K => exact ih h
    | X => exact absurd h (by simp [NoCut])
    | P c => exact ih h
theorem Mt.noCutY {a b x y : List Tok} (h : Mt a b x y) : NoCut b → NoCut y := by
  refine h (fun a b x y => NoCut b → NoCut y) (fun _ => trivial) ?_ ?_ ?_ ?_ ?_ ?_
  · intro c a b x y ih hb; exact ih hb
  · intro c a b x y _ ih hb; exact ih hb
  · intro a b x y ih hb; exact ih hb
  · intro a b x y ih hb; exact absurd hb (by simp [NoCut])
  · intro a b x y ih hb; exact ih hb
  · intro a b x y ih hb; exact absurd hb (by simp [NoCut])
theorem noCut_word {l : List Pt} (h : ∀ p ∈ l, p.k = 1 ∨ p.k = 2) : NoCut (wordL l) := by
  have hK : ∀ (n : Nat) (w : List Tok), NoCut w → NoCut (List.replicate n .K ++ w) := by
    intro n w hw
    induction n with
    | zero => exact hw
    | succ n ih => exact ih
  have hP : ∀ (t : List UInt8) (w : List Tok), NoCut w → NoCut (t.map .P ++ w) := by
    intro t w hw
    induction t with
    | nil => exact hw
    | cons c t ih => exact ih
  induction l with
  | nil => trivial
  | cons p r ih =>
    rw [wordL_cons, wordP]
    have ih := ih (fun q hq => h q (List.mem_cons_of_mem _ hq))
    rcases h p (by simp) with k | k
    · rw [if_pos k]; exact hK _ _ ih
    · rw [if_neg (by omega), if_pos k]; exact hP _ _ ih
theorem meet_joins {a b c : List Pt} (h : compE a b = 0) (hb : ∀ p ∈ b, p.k ≠ 3) (hc : ∀ p ∈ c, p.k ≠ 3) (h1 : meetE (compR a b) c = 0) (h2 : meetE a c = 0) (h3 : meetE b (meetR a c) = 0) :
    compE (meetL a c) (meetL b (meetR a c)) = 0 ∧ meetL (compR a b) c = compR (meetL a c) (meetL b (meetR a c)) ∧ meetR (compR a b) c = meetR b (meetR a c) := by
  obtain ⟨za, zb, zab⟩ := comp_zero h
  obtain ⟨_, zc, zac, _⟩ := meet_zero h2
  obtain ⟨ga, ca, ia, oa, la, ma⟩ := delta_facts za
  obtain ⟨gb, cb, ib, ob, lb, mb⟩ := delta_facts zb
  obtain ⟨gc, cc, ic, oc, lc, mc⟩ := delta_facts zc
  have nb : NoCut (wordL b) := noCut_word (fun p hp => by have := (gb p hp).1; have := hb p hp; omega)
  have nc : NoCut (wordL c) := noCut_word (fun p hp => by have := (gc p hp).1; have := hc p hp; omega)
  obtain ⟨r, p, q, a1, c1, b1, k1, k2, k3, k4, k5, k6, _⟩ := mt_joins _ (wordL a) (wordL b) (wordL c) (Nat.lt_succ_self _) (by omega) (by omega) nb nc (delta_ord za)
  have ed : wordL (compR a b) = r := by
    obtain ⟨r1, d1, d2, _, _, _, d3, _⟩ := comp_facts h
    rw [d3, comp_cmp za k1]
    exact ord_word k6
  obtain ⟨rfl, rfl⟩ := k3.one
  have ec : wordL (meetR a c) = meetY (wordL a) (wordL c) := by
    rw [meetR, if_pos h2]
    exact ord_word (noCut_ord (k3.noCutY nc))
  obtain ⟨p1, p2⟩ := k2.one
  obtain ⟨q1, q2⟩ := k4.one
  obtain ⟨x1, y1, x2, y2, x3, sx, sy⟩ := meet_facts h2
  obtain ⟨u1, v1, u2, v2, u3, su, sv⟩ := meet_facts h3
  rw [ec] at su sv
  have e0 : compE (meetL a c) (meetL b (meetR a c)) = 0 := by
    have hm := k5.mid
    have e1 := sx.outs
    have e2 := su.ins
    obtain ⟨gx, cx, ix, ox, lx, mx⟩ := delta_facts x1
    obtain ⟨gu, cu, iu, ou, lu, mu⟩ := delta_facts u1
    refine comp_is x1 u1 ?_
    rw [ox, iu, e1, e2, hm, q1]
  refine ⟨e0, ?_, ?_⟩
  · obtain ⟨r1, d1, d2, _, _, _, d3, _⟩ := comp_facts e0
    rw [d3, d2, meetL, if_pos h1, ed, ← p1]
    rw [← q1] at su
    exact canon_sem_eq (k5.sem d1 sx.symm su.symm)
  · rw [meetR, if_pos h1, meetR, if_pos h3, ed, ec, ← p2, ← q2]
theorem meet_apart {a b : List Pt} (hp : ∀ j ∈ putsW (wordL a) 0, j ∉ putsW (wordL b) 0) : (meetE a b = 0 ↔ meetE b a = 0) ∧ (meetE a b = 0 → meetL b a = meetR a b ∧ meetR b a = meetL a b) := by
  have key : meetE a b = 0 → meetE b a = 0 ∧ meetL b a = meetR a b ∧ meetR b a = meetL a b := by
    intro h
    obtain ⟨h1, h2, h3, h4⟩ := meet_zero h
    have hm := meet_mt h1 h2 h3
    have hm2 := hm.apart 0 hp
    obtain ⟨e1, e2⟩ := hm2.one
    have s := hm.sizes
    have h0 : meetE b a = 0 := by rw [meet_is h2 h1 h3.symm, ← e1, if_pos (by omega)]
    refine ⟨h0, ?_, ?_⟩
    · rw [meetL, if_pos h0, meetR, if_pos h, e1]
    · rw [meetR, if_pos h0, meetL, if_pos h, e2]
  refine ⟨⟨fun h => (key h).1, fun h => ?_⟩, fun h => (key h).2⟩
  obtain ⟨h1, h2, h3, h4⟩ := meet_zero h
  have hm := meet_mt h1 h2 h3
  have hm2 := hm.apart 0 (fun j hj hj2 => hp j hj2 hj)
  obtain ⟨e1, e2⟩ := hm2.one
  have s := hm.sizes
  rw [meet_is h2 h1 h3.symm, ← e1, if_pos (by omega)]

end Go.Proofs.Ytcghojnmnmmpoaa
