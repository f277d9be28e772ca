/- Two deltas of one text, as lists of parts: what both roads make of them, and the laws: no program in it. -/
import Derived.Test.YtilcmbophfjjbaaPlW
import Derived.Test.YtilcmbophfjjbaaLoose
import Derived.Test.YtilcmbophfjjbaaAll
namespace Go.Proofs.Ytilcmbophfjjbaa
set_option linter.unusedSimpArgs false
set_option linter.unusedVariables false

def meetE (a b : List Pt) : Int := if sizesE a = 0 then (if sizesE b = 0 then (if inI a = inI b then (if outW (meetX (wordL a) (wordL b)) ≤ 500 then 0 else 2) else 4) else sizesE b) else sizesE a
def meetL (a b : List Pt) : List Pt := if meetE a b = 0 then canonW (meetX (wordL a) (wordL b)) else []
def meetR (a b : List Pt) : List Pt := if meetE a b = 0 then canonW (meetY (wordL a) (wordL b)) else []
theorem meet_is {a b : List Pt} (h1 : sizesE a = 0) (h2 : sizesE b = 0) (h3 : inI a = inI b) : meetE a b = if outW (meetX (wordL a) (wordL b)) ≤ 500 then 0 else 2 := by rw [meetE, if_pos h1, if_pos h2, if_pos h3]
theorem meet_zero {a b : List Pt} (h : meetE a b = 0) : sizesE a = 0 ∧ sizesE b = 0 ∧ inI a = inI b ∧ outW (meetX (wordL a) (wordL b)) ≤ 500 := by
  unfold meetE at h
  split at h
  · rename_i h1
    split at h
    · rename_i h2
      split at h
      · rename_i h3
        split at h
        · rename_i h4; exact ⟨h1, h2, h3, h4⟩
        · omega
      · omega
    · contradiction
  · contradiction
theorem meet_mt {a b : List Pt} (h1 : sizesE a = 0) (h2 : sizesE b = 0) (h3 : inI a = inI b) : Mt (wordL a) (wordL b) (meetX (wordL a) (wordL b)) (meetY (wordL a) (wordL b)) := by
  obtain ⟨ga, ca, ia, oa, la, ma⟩ := delta_facts h1
  obtain ⟨gb, cb, ib, ob, lb, mb⟩ := delta_facts h2
  exact mt_meet (by omega)
theorem meet_facts {a b : List Pt} (h : meetE a b = 0) : sizesE (meetL a b) = 0 ∧ sizesE (meetR a b) = 0 ∧ inI (meetL a b) = outI b ∧ inI (meetR a b) = outI a ∧ outI (meetL a b) = outI (meetR a b) ∧
    Sem (wordL (meetL a b)) (meetX (wordL a) (wordL b)) ∧ Sem (wordL (meetR a b)) (meetY (wordL a) (wordL b)) := by
  obtain ⟨h1, h2, h3, h4⟩ := meet_zero h
  obtain ⟨ga, ca, ia, oa, la, ma⟩ := delta_facts h1
  obtain ⟨gb, cb, ib, ob, lb, mb⟩ := delta_facts h2
  obtain ⟨s1, s2, s3, s4⟩ := (meet_mt h1 h2 h3).sizes
  obtain ⟨x1, x2, x3, x4⟩ := canon_facts (w := meetX (wordL a) (wordL b)) (by omega) h4
  obtain ⟨y1, y2, y3, y4⟩ := canon_facts (w := meetY (wordL a) (wordL b)) (by omega) (by omega)
  rw [meetL, meetR, if_pos h, if_pos h]
  exact ⟨x1, y1, by omega, by omega, by omega, canon_sem _, canon_sem _⟩
theorem sizes_len {l : List Pt} (h : sizesE l = 0) : l.length ≤ 1600 := (sizes_zero h).1.1

theorem places_size {qs : List ByteArray} {ks : List Bool} (h : qs.length = ks.length + 1) : ∀ q ∈ qs, q.size ≤ outW (placesW qs ks) := by
  induction ks generalizing qs with
  | nil =>
    match qs, h with
    | [q], _ =>
      intro x hx
      simp only [List.mem_singleton] at hx
      subst hx
      have hl : x.data.toList.length = x.size := Array.length_toList
      have := outW_map x.data.toList []
      simp only [List.append_nil] at this
      rw [placesW, this]; omega
  | cons b ks ih =>
    match qs, h with
    | q :: qs, h =>
      have hl : q.data.toList.length = q.size := Array.length_toList
      have ih := ih (qs := qs) (by simpa using h)
      intro x hx
      rw [placesW, outW_map]
      have ht : outW (placesW qs ks) ≤ outW ((if b = true then Tok.K else Tok.X) :: placesW qs ks) := by cases b <;> simp [outW]
      rcases List.mem_cons.1 hx with rfl | hx
      · omega
      · have := ih x hx; omega
theorem left_good {qs us : List ByteArray} (hq : ∀ q ∈ qs, q.size ≤ 500) (hu : ∀ q ∈ us, q.size ≤ 500) : ∀ ks ls, (Good (leftL qs ks us ls) ∧ ∀ p ∈ leftL qs ks us ls, p.n ≤ 500 ∧ p.t.size ≤ 500) ∧ (Good (leftR qs ks us ls) ∧ ∀ p ∈ leftR qs ks us ls, p.n ≤ 500 ∧ p.t.size ≤ 500) ∧ (leftL qs ks us ls).length ≤ 3 * qs.length ∧ (leftR qs ks us ls).length ≤ 3 * qs.length := by
  have hP : ∀ q : ByteArray, q.size ≤ 500 → ((putQ q).k = 1 ∨ (putQ q).k = 2 ∨ (putQ q).k = 3) ∧ 0 ≤ (putQ q).n ∧ ((putQ q).k = 2 → (putQ q).n = 0) ∧ ((putQ q).k ≠ 2 → (putQ q).t.size = 0) ∧ (putQ q).n ≤ 500 ∧ (putQ q).t.size ≤ 500 := by
    intro q h
    refine ⟨Or.inr (Or.inl rfl), Int.le_refl _, fun _ => rfl, fun e => absurd rfl e, ?_, h⟩
    show (0 : Int) ≤ 500; omega
  have hK : ∀ q : ByteArray, q.size ≤ 500 → ((keepQ q).k = 1 ∨ (keepQ q).k = 2 ∨ (keepQ q).k = 3) ∧ 0 ≤ (keepQ q).n ∧ ((keepQ q).k = 2 → (keepQ q).n = 0) ∧ ((keepQ q).k ≠ 2 → (keepQ q).t.size = 0) ∧ (keepQ q).n ≤ 500 ∧ (keepQ q).t.size ≤ 500 := by
    intro q h
    refine ⟨Or.inl rfl, Int.natCast_nonneg _, fun e => absurd e (by simp [keepQ]), fun _ => rfl, ?_, Nat.zero_le _⟩
    show (q.size : Int) ≤ 500; omega
  have hO : ∀ b : Bool, ((oneQ b).k = 1 ∨ (oneQ b).k = 2 ∨ (oneQ b).k = 3) ∧ 0 ≤ (oneQ b).n ∧ ((oneQ b).k = 2 → (oneQ b).n = 0) ∧ ((oneQ b).k ≠ 2 → (oneQ b).t.size = 0) ∧ (oneQ b).n ≤ 500 ∧ (oneQ b).t.size ≤ 500 := by
    intro b
    have h1 : (0 : Int) ≤ 1 := by omega
    have h2 : (1 : Int) ≤ 500 := by omega
    cases b
    · exact ⟨Or.inr (Or.inr rfl), h1, fun e => absurd e (by simp [oneQ]), fun _ => rfl, h2, Nat.zero_le _⟩
    · exact ⟨Or.inl rfl, h1, fun e => absurd e (by simp [oneQ]), fun _ => rfl, h2, Nat.zero_le _⟩
  have hone : ∀ (p : Pt), (p.k = 1 ∨ p.k = 2 ∨ p.k = 3) ∧ 0 ≤ p.n ∧ (p.k = 2 → p.n = 0) ∧ (p.k ≠ 2 → p.t.size = 0) ∧ p.n ≤ 500 ∧ p.t.size ≤ 500 → ∀ l : List Pt, (Good l ∧ ∀ p ∈ l, p.n ≤ 500 ∧ p.t.size ≤ 500) → Good (p :: l) ∧ ∀ q ∈ p :: l, q.n ≤ 500 ∧ q.t.size ≤ 500 := by
    intro p hp l ⟨h1, h2⟩
    refine ⟨fun q hq => ?_, fun q hq => ?_⟩
    · rcases List.mem_cons.1 hq with rfl | hq
      · exact ⟨hp.1, hp.2.1, hp.2.2.1, hp.2.2.2.1⟩
      · exact h1 q hq
    · rcases List.mem_cons.1 hq with rfl | hq
      · exact hp.2.2.2.2
      · exact h2 q hq
  have hnil : Good ([] : List Pt) ∧ ∀ p ∈ ([] : List Pt), p.n ≤ 500 ∧ p.t.size ≤ 500 := ⟨by intro p hp; simp at hp, by intro p hp; simp at hp⟩
  induction qs generalizing us with
  | nil =>
    intro ks ls
    have e1 : leftL [] ks us ls = [] := by first | rfl | (cases ks <;> cases ls <;> rfl) | (cases ks <;> cases us <;> cases ls <;> rfl)
    have e2 : leftR [] ks us ls = [] := by first | rfl | (cases ks <;> cases ls <;> rfl) | (cases ks <;> cases us <;> cases ls <;> rfl)
    rw [e1, e2]
    exact ⟨hnil, hnil, by simp, by simp⟩
  | cons q qs ih =>
    intro ks ls
    have q5 := hq q (by simp)
    cases us with
    | nil =>
      have e1 : leftL (q :: qs) ks [] ls = [] := by first | rfl | (cases ks <;> cases ls <;> rfl) | (cases ks <;> cases us <;> cases ls <;> rfl)
      have e2 : leftR (q :: qs) ks [] ls = [] := by first | rfl | (cases ks <;> cases ls <;> rfl) | (cases ks <;> cases us <;> cases ls <;> rfl)
      rw [e1, e2]
      exact ⟨hnil, hnil, by simp, by simp⟩
    | cons u us =>
      have u5 := hu u (by simp)
      have hshort : ∀ ks ls, (leftL (q :: qs) ks (u :: us) ls = [putQ q, keepQ u] ∧ leftR (q :: qs) ks (u :: us) ls = [keepQ q, putQ u]) → (Good (leftL (q :: qs) ks (u :: us) ls) ∧ ∀ p ∈ leftL (q :: qs) ks (u :: us) ls, p.n ≤ 500 ∧ p.t.size ≤ 500) ∧ (Good (leftR (q :: qs) ks (u :: us) ls) ∧ ∀ p ∈ leftR (q :: qs) ks (u :: us) ls, p.n ≤ 500 ∧ p.t.size ≤ 500) ∧ (leftL (q :: qs) ks (u :: us) ls).length ≤ 3 * (q :: qs).length ∧ (leftR (q :: qs) ks (u :: us) ls).length ≤ 3 * (q :: qs).length := by
        rintro ks ls ⟨e1, e2⟩
        rw [e1, e2]
        exact ⟨hone _ (hP q q5) _ (hone _ (hK u u5) _ hnil), hone _ (hK q q5) _ (hone _ (hP u u5) _ hnil), by simp; omega, by simp; omega⟩
      cases ks with
      | nil => exact hshort _ _ ⟨rfl, rfl⟩
      | cons b ks =>
        cases ls with
        | nil => exact hshort _ _ ⟨rfl, rfl⟩
        | cons c ls =>
          obtain ⟨i1, i2, i3, i4⟩ := ih (fun x hx => hq x (List.mem_cons_of_mem _ hx)) (us := us) (fun x hx => hu x (List.mem_cons_of_mem _ hx)) ks ls
          refine ⟨?_, ?_, ?_, ?_⟩
          · cases c
            · exact hone _ (hP q q5) _ (hone _ (hK u u5) _ i1)
            · exact hone _ (hP q q5) _ (hone _ (hK u u5) _ (hone _ (hO b) _ i1))
          · cases b
            · exact hone _ (hK q q5) _ (hone _ (hP u u5) _ i2)
            · exact hone _ (hK q q5) _ (hone _ (hP u u5) _ (hone _ (hO c) _ i2))
          · cases c <;> simp [leftL] <;> omega
          · cases b <;> simp [leftR] <;> omega
/-- by whichever road the places were found -/
theorem meet_road {a b : List Pt} {qs us : List ByteArray} {ks ls : List Bool} (ha : sizesE a = 0) (hb : sizesE b = 0) (hin : inI a = inI b)
    (hq : placesW qs ks = wordL a) (hu : placesW us ls = wordL b) (h1 : qs.length = ks.length + 1) (h2 : us.length = ls.length + 1) (h3 : ks.length = ls.length) (h5 : ks.length ≤ 500) :
    (Small (leftL qs ks us ls) ∧ gatherL (leftL qs ks us ls) = canonW (meetX (wordL a) (wordL b)) ∧ sizesE (canonW (meetX (wordL a) (wordL b))) = meetE a b ∧ normE (leftL qs ks us ls) = meetE a b ∧ normL (leftL qs ks us ls) = meetL a b) ∧
    (Small (leftR qs ks us ls) ∧ gatherL (leftR qs ks us ls) = canonW (meetY (wordL a) (wordL b)) ∧ sizesE (canonW (meetY (wordL a) (wordL b))) = meetE a b ∧ normE (leftR qs ks us ls) = meetE a b ∧ normL (leftR qs ks us ls) = meetR a b) := by
  obtain ⟨ga, ca, ia, oa, la, ma⟩ := delta_facts ha
  obtain ⟨gb, cb, ib, ob, lb, mb⟩ := delta_facts hb
  have hm := left_mt qs us ks ls h1 h2 h3
  rw [hq, hu] at hm
  obtain ⟨s1, s2, s3, s4⟩ := hm.sizes
  have hx : wordL (leftL qs ks us ls) = meetX (wordL a) (wordL b) := hm.one.1
  have hy : wordL (leftR qs ks us ls) = meetY (wordL a) (wordL b) := hm.one.2
  have z1 := places_size h1
  have z2 := places_size h2
  rw [hq] at z1
  rw [hu] at z2
  obtain ⟨⟨g1, g2⟩, ⟨g3, g4⟩, g5, g6⟩ := left_good (fun x hx => by have := z1 x hx; omega) (fun x hx => by have := z2 x hx; omega) ks ls
  obtain ⟨n1, n2, n3, n4, n5⟩ := norm_loose g1 (by omega) g2
  obtain ⟨m1, m2, m3, m4, m5⟩ := norm_loose g3 (by omega) g4
  have hXo : outW (meetX (wordL a) (wordL b)) ≤ 1000 := by
    obtain ⟨r, c1, c2⟩ := hm.same
    have e1 := c1.outs
    have e2 := c2.outs
    rw [← hx]
    have hp := hm.putN
    have : ∀ w : List Tok, outW w ≤ inW w + putN w ∧ putN w ≤ outW w := by
      intro w
      induction w with
      | nil => simp [outW, inW, putN]
      | cons t w ih => cases t using Tok.by3 <;> simp [outW, inW, putN] <;> omega
    have k1 := this (wordL (leftL qs ks us ls))
    have k2 := this (wordL a)
    omega
  rw [hx] at s2 s4 n2 n3 n4
  rw [hy] at s3 s4 m2 m3 m4
  have hE := meet_is ha hb hin
  have cx := canon_sizes (meetX (wordL a) (wordL b)) (by omega)
  have cy := canon_sizes (meetY (wordL a) (wordL b)) (by omega)
  have ex : sizesE (canonW (meetX (wordL a) (wordL b))) = meetE a b := by
    rw [cx, hE]
    by_cases h : outW (meetX (wordL a) (wordL b)) ≤ 500
    · rw [if_pos h, if_pos ⟨by omega, h⟩]
    · rw [if_neg h, if_neg (by omega)]
  have ey : sizesE (canonW (meetY (wordL a) (wordL b))) = meetE a b := by
    rw [cy, hE]
    by_cases h : outW (meetX (wordL a) (wordL b)) ≤ 500
    · rw [if_pos h, if_pos ⟨by omega, by omega⟩]
    · rw [if_neg h, if_neg (by omega)]
  have h02 : meetE a b = 0 ∨ meetE a b = 2 := by rw [hE]; split <;> simp
  have k1 : normE (leftL qs ks us ls) = meetE a b := by
    rw [n3, ex]
    rcases h02 with h | h
    · rw [h]; rfl
    · rw [h]; rfl
  have k2 : normE (leftR qs ks us ls) = meetE a b := by
    rw [m3, ey]
    rcases h02 with h | h
    · rw [h]; rfl
    · rw [h]; rfl
  refine ⟨⟨n1, n2, ex, k1, ?_⟩, m1, m2, ey, k2, ?_⟩
  · by_cases h : meetE a b = 0
    · rw [n4 (by omega), meetL, if_pos h]
    · rw [n5 (by omega), meetL, if_neg h]
  · by_cases h : meetE a b = 0
    · rw [m4 (by omega), meetR, if_pos h]
    · rw [m5 (by omega), meetR, if_neg h]

/-! the laws -/
theorem meet_same {a b : List Pt} (h : meetE a b = 0) : compE a (meetR a b) = 0 ∧ compE b (meetL a b) = 0 ∧ compR a (meetR a b) = compR b (meetL a b) := by
  obtain ⟨h1, h2, h3, h4⟩ := meet_zero h
  obtain ⟨x1, y1, x2, y2, x3, sx, sy⟩ := meet_facts h
  have e1 := comp_is h1 y1 (by omega)
  have e2 := comp_is h2 x1 (by omega)
  refine ⟨e1, e2, ?_⟩
  obtain ⟨r, c1, c2⟩ := (meet_mt h1 h2 h3).same
  obtain ⟨r1, d1, d2, _, _, _, d3, _⟩ := comp_facts e1
  obtain ⟨r2, f1, f2, _, _, _, f3, _⟩ := comp_facts e2
  rw [d3, f3, d2, f2]
  exact canon_sem_eq ((d1.sem c1 (Sem.rfl' _) sy).trans ((f1.sem c2 (Sem.rfl' _) sx).symm))
theorem meet_lit {a b : List Pt} (ha : sizesE a = 0) (hb : sizesE b = 0) {x y : List Pt} (hx : sizesE x = 0) (hy : sizesE y = 0) (h : Mt (wordL a) (wordL b) (wordL x) (wordL y)) : meetE a b = 0 ∧ meetL a b = x ∧ meetR a b = y := by
  obtain ⟨ga, ca, ia, oa, la, ma⟩ := delta_facts ha
  obtain ⟨gb, cb, ib, ob, lb, mb⟩ := delta_facts hb
  obtain ⟨gx, cx, ix, ox, lx, mx⟩ := delta_facts hx
  obtain ⟨gy, cy, iy, oy, ly, my⟩ := delta_facts hy
  obtain ⟨s1, _⟩ := h.sizes
  obtain ⟨e1, e2⟩ := h.one
  have h0 : meetE a b = 0 := by rw [meet_is ha hb (by omega), ← e1, if_pos mx]
  exact ⟨h0, by rw [meetL, if_pos h0, ← e1, cx], by rw [meetR, if_pos h0, ← e2, cy]⟩
theorem meet_idle {a : List Pt} (h : sizesE a = 0) : (meetE a (allL (inI a)) = 0 ∧ meetL a (allL (inI a)) = a ∧ meetR a (allL (inI a)) = allL (outI a)) ∧ (meetE (allL (inI a)) a = 0 ∧ meetL (allL (inI a)) a = allL (outI a) ∧ meetR (allL (inI a)) a = a) := by
  obtain ⟨ga, ca, ia, oa, la, ma⟩ := delta_facts h
  have z1 : sizesE (allL (inI a)) = 0 := (all_facts (n := inI a) (by omega) (by omega)).1
  have z2 : sizesE (allL (outI a)) = 0 := (all_facts (n := outI a) (by omega) (by omega)).1
  have w1 : wordL (allL (inI a)) = List.replicate (inW (wordL a)) .K := by
    have h1 : wordL (allL (inI a)) = List.replicate (inI a).toNat .K := all_word (by omega)
    rw [h1, show (inI a).toNat = inW (wordL a) by omega]
  have w2 : wordL (allL (outI a)) = List.replicate (outW (wordL a)) .K := by
    have h1 : wordL (allL (outI a)) = List.replicate (outI a).toNat .K := all_word (by omega)
    rw [h1, show (outI a).toNat = outW (wordL a) by omega]
  exact ⟨meet_lit h z1 h z2 (by rw [w1, w2]; exact Mt.idle _), meet_lit z1 h z2 h (by rw [w1, w2]; exact Mt.idleR _)⟩
theorem noCut_ord {w : List Tok} (h : NoCut w) : Ord w := by
  induction w with
  | nil => trivial
  | cons t w ih =>
    cases t using Tok.by3 with
    | K => exact ih h
    | X => exact absurd h (by simp [NoCut])
    | P c => exact ih h
theorem Mt.noCutY {a b x y : List Tok} (h : Mt a b x y) : NoCut b → NoCut y := by
  refine h (fun a b x y => NoCut b → NoCut y) (fun _ => trivial) ?_ ?_ ?_ ?_ ?_ ?_
  · intro c a b x y ih hb; exact ih hb
  · intro c a b x y _ ih hb; exact ih hb
  · intro a b x y ih hb; exact ih hb
  · intro a b x y ih hb; exact absurd hb (by simp [NoCut])
  · intro a b x y ih hb; exact ih hb
  · intro a b x y ih hb; exact absurd hb (by simp [NoCut])
theorem noCut_word {l : List Pt} (h : ∀ p ∈ l, p.k = 1 ∨ p.k = 2) : NoCut (wordL l) := by
  have hK : ∀ (n : Nat) (w : List Tok), NoCut w → NoCut (List.replicate n .K ++ w) := by
    intro n w hw
    induction n with
    | zero => exact hw
    | succ n ih => exact ih
  have hP : ∀ (t : List UInt8) (w : List Tok), NoCut w → NoCut (t.map .P ++ w) := by
    intro t w hw
    induction t with
    | nil => exact hw
    | cons c t ih => exact ih
  induction l with
  | nil => trivial
  | cons p r ih =>
    rw [wordL_cons, wordP]
    have ih := ih (fun q hq => h q (List.mem_cons_of_mem _ hq))
    rcases h p (by simp) with k | k
    · rw [if_pos k]; exact hK _ _ ih
    · rw [if_neg (by omega), if_pos k]; exact hP _ _ ih
theorem meet_joins {a b c : List Pt} (h : compE a b = 0) (hb : ∀ p ∈ b, p.k ≠ 3) (hc : ∀ p ∈ c, p.k ≠ 3) (h1 : meetE (compR a b) c = 0) (h2 : meetE a c = 0) (h3 : meetE b (meetR a c) = 0) :
    compE (meetL a c) (meetL b (meetR a c)) = 0 ∧ meetL (compR a b) c = compR (meetL a c) (meetL b (meetR a c)) ∧ meetR (compR a b) c = meetR b (meetR a c) := by
  obtain ⟨za, zb, zab⟩ := comp_zero h
  obtain ⟨_, zc, zac, _⟩ := meet_zero h2
  obtain ⟨ga, ca, ia, oa, la, ma⟩ := delta_facts za
  obtain ⟨gb, cb, ib, ob, lb, mb⟩ := delta_facts zb
  obtain ⟨gc, cc, ic, oc, lc, mc⟩ := delta_facts zc
  have nb : NoCut (wordL b) := noCut_word (fun p hp => by have := (gb p hp).1; have := hb p hp; omega)
  have nc : NoCut (wordL c) := noCut_word (fun p hp => by have := (gc p hp).1; have := hc p hp; omega)
  obtain ⟨r, p, q, a1, c1, b1, k1, k2, k3, k4, k5, k6, _⟩ := mt_joins _ (wordL a) (wordL b) (wordL c) (Nat.lt_succ_self _) (by omega) (by omega) nb nc (delta_ord za)
  have ed : wordL (compR a b) = r := by
    obtain ⟨r1, d1, d2, _, _, _, d3, _⟩ := comp_facts h
    rw [d3, comp_cmp za k1]
    exact ord_word k6
  obtain ⟨rfl, rfl⟩ := k3.one
  have ec : wordL (meetR a c) = meetY (wordL a) (wordL c) := by
    rw [meetR, if_pos h2]
    exact ord_word (noCut_ord (k3.noCutY nc))
  obtain ⟨p1, p2⟩ := k2.one
  obtain ⟨q1, q2⟩ := k4.one
  obtain ⟨x1, y1, x2, y2, x3, sx, sy⟩ := meet_facts h2
  obtain ⟨u1, v1, u2, v2, u3, su, sv⟩ := meet_facts h3
  rw [ec] at su sv
  have e0 : compE (meetL a c) (meetL b (meetR a c)) = 0 := by
    have hm := k5.mid
    have e1 := sx.outs
    have e2 := su.ins
    obtain ⟨gx, cx, ix, ox, lx, mx⟩ := delta_facts x1
    obtain ⟨gu, cu, iu, ou, lu, mu⟩ := delta_facts u1
    refine comp_is x1 u1 ?_
    rw [ox, iu, e1, e2, hm, q1]
  refine ⟨e0, ?_, ?_⟩
  · obtain ⟨r1, d1, d2, _, _, _, d3, _⟩ := comp_facts e0
    rw [d3, d2, meetL, if_pos h1, ed, ← p1]
    rw [← q1] at su
    exact canon_sem_eq (k5.sem d1 sx.symm su.symm)
  · rw [meetR, if_pos h1, meetR, if_pos h3, ed, ec, ← p2, ← q2]
theorem meet_apart {a b : List Pt} (hp : ∀ j ∈ putsW (wordL a) 0, j ∉ putsW (wordL b) 0) : (meetE a b = 0 ↔ meetE b a = 0) ∧ (meetE a b = 0 → meetL b a = meetR a b ∧ meetR b a = meetL a b) := by
  have key : meetE a b = 0 → meetE b a = 0 ∧ meetL b a = meetR a b ∧ meetR b a = meetL a b := by
    intro h
    obtain ⟨h1, h2, h3, h4⟩ := meet_zero h
    have hm := meet_mt h1 h2 h3
    have hm2 := hm.apart 0 hp
    obtain ⟨e1, e2⟩ := hm2.one
    have s := hm.sizes
    have h0 : meetE b a = 0 := by rw [meet_is h2 h1 h3.symm, ← e1, if_pos (by omega)]
    refine ⟨h0, ?_, ?_⟩
    · rw [meetL, if_pos h0, meetR, if_pos h, e1]
    · rw [meetR, if_pos h0, meetL, if_pos h, e2]
  refine ⟨⟨fun h => (key h).1, fun h => ?_⟩, fun h => (key h).2⟩
  obtain ⟨h1, h2, h3, h4⟩ := meet_zero h
  have hm := meet_mt h1 h2 h3
  have hm2 := hm.apart 0 (fun j hj hj2 => hp j hj2 hj)
  obtain ⟨e1, e2⟩ := hm2.one
  have s := hm.sizes
  rw [meet_is h2 h1 h3.symm, ← e1, if_pos (by omega)]

end Go.Proofs.Ytilcmbophfjjbaa
