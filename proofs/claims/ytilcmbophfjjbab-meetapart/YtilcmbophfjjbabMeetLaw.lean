/- The laws on two deltas of one text: what meets two as one meets one, and then the other; two that put nowhere at one place: no program in it. -/
import Derived.Test.YtilcmbophfjjbabMeetW
namespace Go.Proofs.Ytilcmbophfjjbab
set_option linter.unusedSimpArgs false
set_option linter.unusedVariables false

/-- behind a byte that is cut nothing is put ahead of the next that is kept: as a delta's own word has it -/
def Ord : List Tok → Prop
  | [] => True
  | ⟨.inl false⟩ :: w => NoPut w ∧ Ord w
  | _ :: w => Ord w
theorem noPut_K (w : List Tok) : NoPut (Tok.K :: w) := trivial
theorem noPut_X (w : List Tok) : NoPut (Tok.X :: w) := trivial
theorem ord_K {w : List Tok} : Ord (Tok.K :: w) ↔ Ord w := Iff.rfl
theorem ord_P {c : UInt8} {w : List Tok} : Ord (Tok.P c :: w) ↔ Ord w := Iff.rfl
theorem ord_X {w : List Tok} : Ord (Tok.X :: w) ↔ NoPut w ∧ Ord w := Iff.rfl
theorem ordF (w : List Tok) : ∀ s : GSt, Whole s.sl → 0 ≤ s.ct → Ord w → (s.ct = 0 ∨ NoPut w) → wordL (canonF s w) = wordL s.sl ++ gapW s.tx s.ct ++ w := by
  induction w with
  | nil => intro s hs hc _ _; simp only [canonF, List.foldl_nil, List.append_nil]; exact word_settle _ _ _
  | cons t w ih =>
    intro s hs hc ho hn
    have e : canonF s (t :: w) = canonF (gTok s t) w := rfl
    rw [e]
    cases t using Tok.by3 with
    | K =>
      have h := ih (gTok s .K) (keep_whole (settle_whole hs hc) (by omega)) (by simp [gTok]) ho (.inl rfl)
      rw [h]
      simp only [gTok, word_keep _ (settle_whole hs hc), word_settle, gapW]
      simp
    | X =>
      obtain ⟨o1, o2⟩ := ord_X.1 ho
      have h := ih (gTok s .X) hs (by simp only [gTok]; omega) o2 (.inr o1)
      rw [h]
      simp only [gTok, gapW]
      rw [show (s.ct + 1).toNat = s.ct.toNat + 1 by omega, List.replicate_succ']
      simp
    | P c =>
      have hc0 : s.ct = 0 := by
        rcases hn with h | h
        · exact h
        · exact absurd h (by simp [NoPut])
      have h := ih (gTok s (.P c)) hs hc ho (.inl hc0)
      rw [h]
      simp only [gTok, gapW, hc0]
      simp
theorem ord_word {w : List Tok} (h : Ord w) : wordL (canonW w) = w := by
  have := ordF w ⟨[], [], 0⟩ (by intro p hp; simp at hp) (by simp) h (.inl rfl)
  rw [canonW, this]
  simp [wordL, gapW]
theorem ord_X_rep (n : Nat) {w : List Tok} (h : NoPut w) (ho : Ord w) : Ord (List.replicate n .X ++ w) ∧ NoPut (List.replicate n .X ++ w) := by
  induction n with
  | zero => exact ⟨ho, h⟩
  | succ n ih => exact ⟨ord_X.2 ⟨ih.2, ih.1⟩, noPut_X _⟩
theorem ord_K_rep (n : Nat) {w : List Tok} (ho : Ord w) : Ord (List.replicate n .K ++ w) := by
  induction n with
  | zero => exact ho
  | succ n ih => exact ord_K.2 ih
theorem ord_P_map (t : List UInt8) {w : List Tok} (ho : Ord w) : Ord (t.map .P ++ w) := by
  induction t with
  | nil => exact ho
  | cons c t ih => exact ord_P.2 ih
theorem scan_ord {a : Int} {l : List Pt} (h : scanE a l = 0) : Ord (wordL l) ∧ (a = 3 → NoPut (wordL l)) := by
  induction l generalizing a with
  | nil => exact ⟨trivial, fun _ => trivial⟩
  | cons p r ih =>
    have e : scanE a (p :: r) = if stepE a p = 0 then scanE p.k r else stepE a p := rfl
    have hst : stepE a p = 0 := by
      rw [e] at h
      split at h
      · assumption
      · contradiction
    rw [e, if_pos hst] at h
    obtain ⟨i1, i2⟩ := ih h
    obtain ⟨f1, f2, f3, f4⟩ := step_part hst
    have hR : Right [p] := scan_right (a := a) (scan_one.2 hst)
    obtain ⟨k1, k2, k3, k4⟩ := hR p (by simp)
    simp only [followB, Bool.and_eq_true, decide_eq_true_eq, Bool.not_eq_true', Bool.and_eq_false_iff, decide_eq_false_iff_not] at f3
    rw [wordL_cons, wordP]
    rcases k1 with k | k | k
    · have hn := (k3 (by omega)).2
      rw [if_pos k]
      refine ⟨ord_K_rep _ i1, fun _ => ?_⟩
      obtain ⟨m, hm⟩ : ∃ m, p.n.toNat = m + 1 := ⟨p.n.toNat - 1, by omega⟩
      rw [hm]; trivial
    · rw [if_neg (by omega), if_pos k]
      exact ⟨ord_P_map _ i1, fun e => by omega⟩
    · rw [if_neg (by omega), if_neg (by omega)]
      have hx := ord_X_rep p.n.toNat (i2 k) i1
      exact ⟨hx.1, fun _ => hx.2⟩
theorem delta_ord {l : List Pt} (h : sizesE l = 0) : Ord (wordL l) := (scan_ord (sizes_scan h).2).1

/-- nothing is cut -/
def NoCut : List Tok → Prop
  | [] => True
  | ⟨.inl false⟩ :: _ => False
  | _ :: w => NoCut w
/-- what meets two as one, of which the second cuts nothing, meets one, and then the other -/
theorem mt_joins : ∀ (n : Nat) (a b c : List Tok), a.length + b.length + c.length < n → outW a = inW b → inW a = inW c → NoCut b → NoCut c → Ord a →
    ∃ r p q a1 c1 b1, Cmp a b r ∧ Mt r c p q ∧ Mt a c a1 c1 ∧ Mt b c1 b1 q ∧ Cmp a1 b1 p ∧ Ord r ∧ (NoPut a → NoPut b → NoPut r) := by
  intro n
  induction n with
  | zero => intro a b c h; omega
  | succ n ih =>
    intro a b c hn h1 h2 hb hc ho
    have hput : ∀ (y : UInt8) (b' : List Tok), b = Tok.P y :: b' → ∃ r p q a1 c1 b1, Cmp a b r ∧ Mt r c p q ∧ Mt a c a1 c1 ∧ Mt b c1 b1 q ∧ Cmp a1 b1 p ∧ Ord r ∧ (NoPut a → NoPut b → NoPut r) := by
      rintro y b' rfl
      simp only [List.length_cons] at hn
      obtain ⟨r, p, q, a1, c1, b1, k1, k2, k3, k4, k5, k6, k7⟩ := ih a b' c (by omega) (by simpa [inW] using h1) h2 hb hc ho
      exact ⟨_, _, _, _, _, _, .put y k1, .pa y k2, k3, .pa y k4, .put y k5, ord_P.2 k6, fun _ h => absurd h (by simp [NoPut])⟩
    cases b with
    | cons u b' =>
      cases u using Tok.by3 with
      | P y => exact hput y b' rfl
      | X => exact absurd hb (by simp [NoCut])
      | K =>
        cases a with
        | nil => simp [outW, inW] at h1
        | cons t a' =>
          cases t using Tok.by3 with
          | P x =>
            simp only [List.length_cons] at hn
            obtain ⟨r, p, q, a1, c1, b1, k1, k2, k3, k4, k5, k6, k7⟩ := ih a' b' c (by omega) (by simpa [outW, inW] using h1) (by simpa [inW] using h2) hb hc ho
            exact ⟨_, _, _, _, _, _, .pk x k1, .pa x k2, .pa x k3, .kk k4, .pk x k5, ord_P.2 k6, fun h => absurd h (by simp [NoPut])⟩
          | K =>
            cases c with
            | nil => simp [inW] at h2
            | cons v c' =>
              cases v using Tok.by3 with
              | P z =>
                simp only [List.length_cons] at hn
                obtain ⟨r, p, q, a1, c1, b1, k1, k2, k3, k4, k5, k6, k7⟩ := ih (Tok.K :: a') (Tok.K :: b') c' (by simp only [List.length_cons]; omega) h1 (by simpa [inW] using h2) hb hc ho
                have hr : NoPut r := k7 (noPut_K _) (noPut_K _)
                exact ⟨_, _, _, _, _, _, k1, .pb z hr k2, .pb z (noPut_K _) k3, .pb z (noPut_K _) k4, .kk k5, k6, fun _ _ => hr⟩
              | X => exact absurd hc (by simp [NoCut])
              | K =>
                simp only [List.length_cons] at hn
                obtain ⟨r, p, q, a1, c1, b1, k1, k2, k3, k4, k5, k6, k7⟩ := ih a' b' c' (by omega) (by simpa [outW, inW] using h1) (by simpa [inW] using h2) hb hc ho
                exact ⟨_, _, _, _, _, _, .kk k1, .kk k2, .kk k3, .kk k4, .kk k5, ord_K.2 k6, fun _ _ => noPut_K _⟩
          | X =>
            obtain ⟨o1, o2⟩ := ord_X.1 ho
            cases c with
            | nil => simp [inW] at h2
            | cons v c' =>
              cases v using Tok.by3 with
              | P z =>
                simp only [List.length_cons] at hn
                obtain ⟨r, p, q, a1, c1, b1, k1, k2, k3, k4, k5, k6, k7⟩ := ih (Tok.X :: a') (Tok.K :: b') c' (by simp only [List.length_cons]; omega) h1 (by simpa [inW] using h2) hb hc ho
                have hr : NoPut r := k7 (noPut_X _) (noPut_K _)
                exact ⟨_, _, _, _, _, _, k1, .pb z hr k2, .pb z (noPut_X _) k3, .pb z (noPut_K _) k4, .kk k5, k6, fun _ _ => hr⟩
              | X => exact absurd hc (by simp [NoCut])
              | K =>
                simp only [List.length_cons] at hn
                obtain ⟨r, p, q, a1, c1, b1, k1, k2, k3, k4, k5, k6, k7⟩ := ih a' (Tok.K :: b') c' (by simp only [List.length_cons]; omega) (by simpa [outW] using h1) (by simpa [inW] using h2) hb hc o2
                have hr : NoPut r := k7 o1 (noPut_K _)
                exact ⟨_, _, _, _, _, _, .cut k1, .xk k2, .xk k3, k4, .cut k5, ord_X.2 ⟨hr, k6⟩, fun _ _ => noPut_X _⟩
    | nil =>
      cases a with
      | nil =>
        induction c with
        | nil => exact ⟨_, _, _, _, _, _, .nil, .nil, .nil, .nil, .nil, trivial, fun _ _ => trivial⟩
        | cons v c' ihc =>
          cases v using Tok.by3 with
          | K => simp [inW] at h2
          | X => simp [inW] at h2
          | P z =>
            simp only [List.length_cons, List.length_nil] at hn
            obtain ⟨r, p, q, a1, c1, b1, k1, k2, k3, k4, k5, k6, k7⟩ := ih [] [] c' (by simp only [List.length_nil]; omega) h1 (by simpa [inW] using h2) hb hc ho
            have hr : NoPut r := k7 trivial trivial
            exact ⟨_, _, _, _, _, _, k1, .pb z hr k2, .pb z trivial k3, .pb z trivial k4, .kk k5, k6, fun _ _ => hr⟩
      | cons t a' =>
        cases t using Tok.by3 with
        | K => simp [outW, inW] at h1
        | P x => simp [outW, inW] at h1
        | X =>
          obtain ⟨o1, o2⟩ := ord_X.1 ho
          cases c with
          | nil => simp [inW] at h2
          | cons v c' =>
            cases v using Tok.by3 with
            | P z =>
              simp only [List.length_cons, List.length_nil] at hn
              obtain ⟨r, p, q, a1, c1, b1, k1, k2, k3, k4, k5, k6, k7⟩ := ih (Tok.X :: a') [] c' (by simp only [List.length_cons, List.length_nil]; omega) h1 (by simpa [inW] using h2) hb hc ho
              have hr : NoPut r := k7 (noPut_X _) trivial
              exact ⟨_, _, _, _, _, _, k1, .pb z hr k2, .pb z (noPut_X _) k3, .pb z trivial k4, .kk k5, k6, fun _ _ => hr⟩
            | X => exact absurd hc (by simp [NoCut])
            | K =>
              simp only [List.length_cons, List.length_nil] at hn
              obtain ⟨r, p, q, a1, c1, b1, k1, k2, k3, k4, k5, k6, k7⟩ := ih a' [] c' (by simp only [List.length_nil]; omega) (by simpa [outW] using h1) (by simpa [inW] using h2) hb hc o2
              have hr : NoPut r := k7 o1 trivial
              exact ⟨_, _, _, _, _, _, .cut k1, .xk k2, .xk k3, k4, .cut k5, ord_X.2 ⟨hr, k6⟩, fun _ _ => noPut_X _⟩

/-- the places at which a word puts -/
def putsW : List Tok → Nat → List Nat
  | [], _ => []
  | ⟨.inr _⟩ :: w, i => i :: putsW w i
  | ⟨.inl _⟩ :: w, i => putsW w (i + 1)
/-- of two that put nowhere at one place it does not matter which is named first -/
theorem Mt.apart {a b x y : List Tok} (h : Mt a b x y) : ∀ i, (∀ j ∈ putsW a i, j ∉ putsW b i) → Mt b a y x := by
  refine h (fun a b x y => ∀ i, (∀ j ∈ putsW a i, j ∉ putsW b i) → Mt b a y x) (fun _ _ => .nil) ?_ ?_ ?_ ?_ ?_ ?_
  · intro c a b x y ih i hd
    have h1 : i ∉ putsW b i := hd i (by simp [putsW])
    have hb : NoPut b := by
      cases b with
      | nil => trivial
      | cons t b =>
        cases t using Tok.by3 with
        | K => trivial
        | X => trivial
        | P c => exact absurd (by simp [putsW]) h1
    exact .pb c hb (ih i (fun j hj => hd j (by simp [putsW, hj])))
  · intro c a b x y _ ih i hd
    exact .pa c (ih i (fun j hj hj2 => hd j hj (by simp [putsW, hj2])))
  · intro a b x y ih i hd
    exact .kk (ih (i + 1) hd)
  · intro a b x y ih i hd
    exact .xk (ih (i + 1) hd)
  · intro a b x y ih i hd
    exact .kx (ih (i + 1) hd)
  · intro a b x y ih i hd
    exact .xx (ih (i + 1) hd)
/-- as many bytes are put -/
def putN : List Tok → Nat
  | [] => 0
  | ⟨.inr _⟩ :: w => putN w + 1
  | ⟨.inl _⟩ :: w => putN w
theorem Mt.putN {a b x y : List Tok} (h : Mt a b x y) : putN x = putN a ∧ putN y = putN b := by
  refine h (fun a b x y => Go.Proofs.Ytilcmbophfjjbab.putN x = Go.Proofs.Ytilcmbophfjjbab.putN a ∧ Go.Proofs.Ytilcmbophfjjbab.putN y = Go.Proofs.Ytilcmbophfjjbab.putN b) ⟨rfl, rfl⟩ ?_ ?_ ?_ ?_ ?_ ?_
  · rintro c a b x y ⟨h1, h2⟩; exact ⟨by simp [Go.Proofs.Ytilcmbophfjjbab.putN, h1], by simpa [Go.Proofs.Ytilcmbophfjjbab.putN] using h2⟩
  · rintro c a b x y _ ⟨h1, h2⟩; exact ⟨by simpa [Go.Proofs.Ytilcmbophfjjbab.putN] using h1, by simp [Go.Proofs.Ytilcmbophfjjbab.putN, h2]⟩
  · rintro a b x y ⟨h1, h2⟩; exact ⟨h1, h2⟩
  · rintro a b x y ⟨h1, h2⟩; exact ⟨h1, h2⟩
  · rintro a b x y ⟨h1, h2⟩; exact ⟨h1, h2⟩
  · rintro a b x y ⟨h1, h2⟩; exact ⟨h1, h2⟩

end Go.Proofs.Ytilcmbophfjjbab
