/- What a slot says: written, and read: no program in it. -/
import Derived.Test.YtgffippimmokiaaFrameP
import Derived.Test.YtgffippimmokiaaCodeFinds
import Derived.Test.YtgffippimmokiaaRevL
import Derived.Test.YtgffippimmokiaaNextL
namespace Go.Proofs.Ytgffippimmokiaa
set_option linter.unusedSimpArgs false
set_option linter.unusedVariables false

/-- numbers, one behind the other -/
def numsL (l : List Nat) : List UInt8 := l.flatMap numL
def numsG : Nat → List UInt8 → Option (List Nat × List UInt8)
  | 0, s => some ([], s)
  | n + 1, s => if getE s = 0 then (numsG n (s.drop (getK s))).map (fun y => (getN s :: y.1, y.2)) else none
theorem get_num {n : Nat} (h : n ≤ 2147483647) (r : List UInt8) : getE (numL n ++ r) = 0 ∧ getN (numL n ++ r) = n ∧ getK (numL n ++ r) = (numL n).length := by
  obtain ⟨g1, g2, g3⟩ := num_get h r
  obtain ⟨k1, k2⟩ := get_good g1
  exact ⟨g1, by rw [k1, g3], by rw [k2, g2]⟩
theorem nums_get : ∀ (l : List Nat), (∀ n ∈ l, n ≤ 2147483647) → ∀ r, numsG l.length (numsL l ++ r) = some (l, r) := by
  intro l
  induction l with
  | nil => intro _ r; rfl
  | cons n l ih =>
    intro h r
    have e : numsL (n :: l) ++ r = numL n ++ (numsL l ++ r) := by simp [numsL]
    obtain ⟨g1, g2, g3⟩ := get_num (h n (by simp)) (numsL l ++ r)
    rw [e, List.length_cons, numsG, if_pos g1, g2, g3, List.drop_left, ih (fun m hm => h m (by simp [hm])) r]
    rfl
theorem nums_is : ∀ (n : Nat) {s r : List UInt8} {l : List Nat}, numsG n s = some (l, r) → l.length = n ∧ (∀ x ∈ l, x ≤ 2147483647) ∧ numsL l ++ r = s := by
  intro n
  induction n with
  | zero => intro s r l h; cases h; exact ⟨rfl, by simp, rfl⟩
  | succ n ih =>
    intro s r l h
    rw [numsG] at h
    split at h
    · rename_i h0
      cases hq : numsG n (s.drop (getK s)) with
      | none => rw [hq] at h; simp at h
      | some y =>
        rw [hq] at h
        simp only [Option.map_some, Option.some.injEq, Prod.mk.injEq] at h
        obtain ⟨rfl, rfl⟩ := h
        obtain ⟨i1, i2, i3⟩ := ih (l := y.1) (r := y.2) hq
        have hb := get_bytes h0
        have hl := get_le h0
        refine ⟨by simp [i1], ?_, ?_⟩
        · intro x hx
          rcases List.mem_cons.1 hx with rfl | hx
          · exact hl.2.2
          · exact i2 x hx
        · show (numL (getN s) ++ numsL y.1) ++ y.2 = s
          rw [List.append_assoc, i3, hb, List.take_append_drop]
    · simp at h
theorem nums_len {n : Nat} {s r : List UInt8} {l : List Nat} (h : numsG n s = some (l, r)) : r.length ≤ s.length := by
  obtain ⟨_, _, h3⟩ := nums_is n h
  rw [← h3]; simp

/-- the delta that some bytes are -/
noncomputable def decL (l : List UInt8) : Option (List Pt) := open Classical in if h : ∃ d, IsCode l d then some h.choose else none
theorem dec_some {l : List UInt8} {d : List Pt} (h : IsCode l d) : decL l = some d := by
  unfold decL
  rw [dif_pos ⟨d, h⟩]
  have hx : ∃ d, IsCode l d := ⟨d, h⟩
  exact congrArg some (code_uniq hx.choose_spec h)
theorem dec_none {l : List UInt8} (h : ∀ d, ¬ IsCode l d) : decL l = none := by
  unfold decL
  rw [dif_neg (fun ⟨d, hd⟩ => h d hd)]
theorem dec_is {l : List UInt8} {d : List Pt} (h : decL l = some d) : IsCode l d := by
  unfold decL at h
  split at h
  · rename_i hx
    cases h
    exact hx.choose_spec
  · cases h

/-- the revision that some bytes are, whose it may be and what number -/
noncomputable def revG (s : List UInt8) : Option Rv :=
  match numsG 2 s with
  | some (l, r) => (decL r).map (fun d => ⟨(l[0]?.getD 0 : Nat), (l[1]?.getD 0 : Nat), d⟩)
  | none => none
def revB (r : Rv) : List UInt8 := numL r.who.toNat ++ (numL r.seq.toNat ++ codeL r.d)
theorem rev_back {r : Rv} (h : oneE r = 0) : revG (revB r) = some r := by
  obtain ⟨⟨a1, a2, a3, a4⟩, h0⟩ := one_zero h
  have hn := nums_get [r.who.toNat, r.seq.toNat] (by intro n hn; simp at hn; omega) (codeL r.d)
  have e : numsL [r.who.toNat, r.seq.toNat] ++ codeL r.d = revB r := by simp [numsL, revB]
  rw [e] at hn
  rw [revG, show (2 : Nat) = [r.who.toNat, r.seq.toNat].length from rfl, hn]
  simp only [dec_some (show IsCode (codeL r.d) r.d from ⟨h0, rfl⟩), Option.map_some, Option.some.injEq]
  obtain ⟨who, seq, d⟩ := r
  simp only at *
  simp
  omega

/-- a log as far as it is read -/
structure Lg where
  gen : Nat
  base : Nat
  text : List UInt8
  first : List Int
  table : List Int
  revs : List Rv
  whole : Bool
  good : Nat
def nilLg : Lg := ⟨0, 0, [], List.replicate 16 0, List.replicate 16 0, [], false, 0⟩
def tabPut (t : List Int) (who seq rev : Int) : List Int := (t.set (2 * who.toNat) seq).set (2 * who.toNat + 1) rev
/-- one more frame, the last text having n bytes -/
noncomputable def stepL (S : Lg) (n : Int) (f : Fr) : Option (Lg × Int) :=
  if f.k = 2 then
    match revG f.t with
    | some r => if nextE S.table S.base S.revs.length n r = 0 then some ({ S with table := tabPut S.table r.who r.seq (S.base + (S.revs.length + 1)), revs := S.revs ++ [r], good := S.good + (f.t.length + 7) }, outI r.d) else none
    | none => none
  else if f.k = 3 ∧ f.t = [] ∧ S.whole = false then some ({ S with whole := true, good := S.good + 7 }, n) else none
noncomputable def walkL : Lg → Int → List Fr → Lg × Int
  | S, n, [] => (S, n)
  | S, n, f :: fs => match stepL S n f with
    | some x => walkL x.1 x.2 fs
    | none => (S, n)
theorem walk_some {S : Lg} {n : Int} {f : Fr} {x : Lg × Int} (l : List Fr) (h : stepL S n f = some x) : walkL S n (f :: l) = walkL x.1 x.2 l := by rw [walkL, h]
theorem walk_none {S : Lg} {n : Int} {f : Fr} (l : List Fr) (h : stepL S n f = none) : walkL S n (f :: l) = (S, n) := by rw [walkL, h]
def hdL (f : Fr) : Option Lg :=
  if f.k = 1 then
    match numsG 18 f.t with
    | some (l, r) => if r.length ≤ 500 then some ⟨l[0]?.getD 0, l[1]?.getD 0, r, (l.drop 2).map (fun n : Nat => (n : Int)), (l.drop 2).map (fun n : Nat => (n : Int)), [], false, f.t.length + 7⟩ else none
    | none => none
  else none
def logE : List Fr → Int
  | [] => 7
  | f :: _ => if (hdL f).isSome then 0 else 3
noncomputable def logS : List Fr → Lg
  | [] => nilLg
  | f :: fs => match hdL f with
    | some S => (walkL S S.text.length fs).1
    | none => nilLg

/-! Frames, and the bytes that they are. -/
theorem row_take : ∀ (n : Nat) (l : List UInt8), l.length ≤ n → rowL (scanL l).1 = l.take (scanL l).2 ∧ (∀ f ∈ (scanL l).1, frOk f = true) := by
  intro n
  induction n with
  | zero =>
    intro l hl
    have hnil : l = [] := List.length_eq_zero_iff.1 (by omega)
    subst hnil
    exact ⟨rfl, by intro f hf; cases hf⟩
  | succ n ih =>
    intro l hl
    by_cases h : gotE l = 0
    · obtain ⟨h1, h2, h3, h4, h5, h6⟩ := got_put h
      have hd : (l.drop (gotN l)).length = l.length - gotN l := List.length_drop
      obtain ⟨i1, i2⟩ := ih (l.drop (gotN l)) (by omega)
      rw [scans_good h]
      refine ⟨?_, ?_⟩
      · show frameL ((gotK l : Int).toNat) (gotB l) ++ rowL (scanL (l.drop (gotN l))).1 = _
        rw [i1, Int.toNat_natCast, h6]
        simp only
        rw [List.take_add]
      · intro f hf
        rcases List.mem_cons.1 hf with rfl | hf
        · simp only [frOk, decide_eq_true_eq]
          exact putE_of (by show (1 : Int) ≤ (gotK l : Int); omega) (by show (gotK l : Int) ≤ 255; omega) h3
        · exact i2 f hf
    · rw [scans_bad h]
      exact ⟨rfl, by intro f hf; cases hf⟩
def rowN (l : List Fr) : Nat := (l.map (fun f => f.t.length + 7)).sum
theorem row_len (l : List Fr) : (rowL l).length = rowN l := by
  induction l with
  | nil => rfl
  | cons f l ih =>
    have e : rowL (f :: l) = frameL f.k.toNat f.t ++ rowL l := by simp [rowL]
    rw [e, List.length_append, ih, frameL_len]
    rfl
theorem row_app (a b : List Fr) : rowL (a ++ b) = rowL a ++ rowL b := by simp [rowL]
theorem rowN_app (a b : List Fr) : rowN (a ++ b) = rowN a + rowN b := by simp [rowN]
theorem scan_len (l : List UInt8) : (scanL l).2 = rowN (scanL l).1 := by
  have h := (row_take l.length l (Nat.le_refl _)).1
  have h2 := (scan_le l.length l (Nat.le_refl _)).1
  have h3 := congrArg List.length h
  rw [row_len, List.length_take] at h3
  omega
/-- some of the frames at the beginning of bytes: so many bytes, and no others -/
theorem scan_part {l : List UInt8} {a b : List Fr} (h : (scanL l).1 = a ++ b) : scanL (l.take (rowN a)) = (a, rowN a) ∧ rowN a ≤ l.length ∧ l.take (rowN a) = rowL a ∧ ∀ f ∈ a, frOk f = true := by
  obtain ⟨h1, h2⟩ := row_take l.length l (Nat.le_refl _)
  have h3 := scan_len l
  have h4 := (scan_le l.length l (Nat.le_refl _)).1
  rw [h, row_app] at h1
  rw [h] at h2 h3
  rw [rowN_app] at h3
  have h5 : l.take (rowN a) = rowL a := by
    have e := congrArg (List.take (rowN a)) h1
    rw [List.take_take, Nat.min_eq_left (by omega)] at e
    have h7 : List.take (rowN a) (rowL a ++ rowL b) = rowL a := by
      rw [List.take_append_of_le_length (by rw [row_len]; exact Nat.le_refl _), List.take_of_length_le (by rw [row_len]; exact Nat.le_refl _)]
    exact e.symm.trans h7
  refine ⟨?_, by omega, h5, fun f hf => h2 f (by simp [hf])⟩
  rw [h5]
  have h6 := scan_row (r := []) (by decide) a (fun f hf => h2 f (by simp [hf]))
  rw [List.append_nil, row_len] at h6
  exact h6
/-- what is cut off takes frames from the end -/
theorem scan_cut : ∀ (n : Nat) (l : List UInt8), l.length ≤ n → ∀ k, ∃ b, (scanL l).1 = (scanL (l.take k)).1 ++ b := by
  intro n
  induction n with
  | zero =>
    intro l hl k
    have hnil : l = [] := List.length_eq_zero_iff.1 (by omega)
    subst hnil
    exact ⟨[], by simp⟩
  | succ n ih =>
    intro l hl k
    by_cases h : gotE (l.take k) = 0
    · obtain ⟨h1, h2, h3, h4, h5, h6⟩ := got_put h
      rw [List.length_take] at h4
      have hk : gotN (l.take k) ≤ k := by omega
      rw [List.take_take, Nat.min_eq_left hk] at h6
      obtain ⟨e1, e2, e3, e4⟩ := got_frame h1 h2 h3 (l.drop (gotN (l.take k)))
      rw [h6, List.take_append_drop] at e1 e2 e3 e4
      rw [List.length_take, Nat.min_eq_left (by omega)] at e4
      obtain ⟨b, hb⟩ := ih (l.drop (gotN (l.take k))) (by rw [List.length_drop]; omega) (k - gotN (l.take k))
      refine ⟨b, ?_⟩
      rw [scans_good e1, scans_good h, e2, e3, e4]
      simp only [List.cons_append, List.cons.injEq, true_and]
      rw [hb, List.drop_take]
    · rw [scans_bad h]
      exact ⟨(scanL l).1, rfl⟩

/-! The walk through frames. -/
theorem walk_app (a b : List Fr) : ∀ (S : Lg) (n : Int), walkL S n (a ++ b) = walkL S n a ∨ walkL S n (a ++ b) = walkL (walkL S n a).1 (walkL S n a).2 b := by
  induction a with
  | nil => intro S n; exact .inr rfl
  | cons f a ih =>
    intro S n
    rw [List.cons_append]
    cases hs : stepL S n f with
    | none => rw [walk_none _ hs, walk_none _ hs]; exact .inl rfl
    | some x => rw [walk_some _ hs, walk_some _ hs]; exact ih x.1 x.2
/-- what is taken stands ahead of what is not, and is as many bytes as are good -/
theorem walk_split (l : List Fr) : ∀ (S : Lg) (n : Int), ∃ a b, l = a ++ b ∧ walkL S n a = walkL S n l ∧ (walkL S n l).1.good = S.good + rowN a ∧ (∀ c, walkL S n (a ++ c) = walkL (walkL S n a).1 (walkL S n a).2 c) := by
  induction l with
  | nil => intro S n; exact ⟨[], [], rfl, rfl, rfl, fun c => rfl⟩
  | cons f l ih =>
    intro S n
    cases hs : stepL S n f with
    | none =>
      refine ⟨[], f :: l, rfl, ?_, ?_, fun c => rfl⟩
      · rw [walk_none _ hs]; rfl
      · rw [walk_none _ hs]; rfl
    | some x =>
      obtain ⟨a, b, e, h1, h2, h3⟩ := ih x.1 x.2
      have hg : x.1.good = S.good + (f.t.length + 7) := by
        unfold stepL at hs
        split at hs
        · split at hs
          · split at hs
            · cases hs; rfl
            · cases hs
          · cases hs
        · split at hs
          · rename_i hf
            cases hs
            show S.good + 7 = _
            rw [hf.2.1]; rfl
          · cases hs
      refine ⟨f :: a, b, by rw [e]; rfl, ?_, ?_, ?_⟩
      · rw [walk_some _ hs, walk_some _ hs]; exact h1
      · rw [walk_some _ hs, h2, hg]
        show _ = S.good + ((f.t.length + 7) + rowN a)
        omega
      · intro c
        rw [List.cons_append, walk_some _ hs, walk_some _ hs]; exact h3 c
/-- what is read grows -/
def Grew (S R : Lg) : Prop := R.gen = S.gen ∧ R.base = S.base ∧ R.text = S.text ∧ R.first = S.first ∧ (∃ c, R.revs = S.revs ++ c) ∧ S.good ≤ R.good
theorem Grew.refl (S : Lg) : Grew S S := ⟨rfl, rfl, rfl, rfl, ⟨[], by simp⟩, Nat.le_refl _⟩
theorem Grew.trans {A B C : Lg} (h : Grew A B) (g : Grew B C) : Grew A C := by
  obtain ⟨h1, h2, h3, h4, ⟨c, h5⟩, h6⟩ := h
  obtain ⟨g1, g2, g3, g4, ⟨d, g5⟩, g6⟩ := g
  exact ⟨g1.trans h1, g2.trans h2, g3.trans h3, g4.trans h4, ⟨c ++ d, by rw [g5, h5, List.append_assoc]⟩, by omega⟩
theorem step_grew {S : Lg} {n : Int} {f : Fr} {x : Lg × Int} (hs : stepL S n f = some x) : Grew S x.1 := by
  unfold stepL at hs
  split at hs
  · split at hs
    · split at hs
      · cases hs; exact ⟨rfl, rfl, rfl, rfl, ⟨_, rfl⟩, by show S.good ≤ S.good + _; omega⟩
      · cases hs
    · cases hs
  · split at hs
    · cases hs; exact ⟨rfl, rfl, rfl, rfl, ⟨[], by simp⟩, by show S.good ≤ S.good + _; omega⟩
    · cases hs
theorem walk_grew (l : List Fr) : ∀ (S : Lg) (n : Int), Grew S (walkL S n l).1 := by
  induction l with
  | nil => intro S n; exact .refl S
  | cons f l ih =>
    intro S n
    cases hs : stepL S n f with
    | none => rw [walk_none _ hs]; exact .refl S
    | some x => rw [walk_some _ hs]; exact (step_grew hs).trans (ih _ _)
/-- what is read of a beginning is a beginning of what is read -/
theorem walk_cut (a b : List Fr) (S : Lg) (n : Int) : Grew (walkL S n a).1 (walkL S n (a ++ b)).1 := by
  rcases walk_app a b S n with h | h
  · rw [h]; exact .refl _
  · rw [h]; exact walk_grew _ _ _
end Go.Proofs.Ytgffippimmokiaa

/- What a slot says: what is written is read, what is torn, one more: no program in it. -/
namespace Go.Proofs.Ytgffippimmokiaa
set_option linter.unusedSimpArgs false
set_option linter.unusedVariables false

theorem fr_len {f : Fr} (h : frOk f = true) : f.t.length ≤ 4000 := (putE_ok (k := f.k) (b := f.t) (by simpa [frOk] using h)).2.2
/-! A log as it is read: right at any time. -/
structure LOk (S : Lg) (n : Int) : Prop where
  text : S.text.length ≤ 500
  revs : S.revs.length ≤ 64
  hist : histE S.text S.revs = 0
  size : n = ((textAt S.text S.revs S.revs.length).length : Nat)
  first : S.first.length = 16
  table : S.table.length = 16
  ends : S.base + S.revs.length ≤ 2147483647
  good : S.good ≤ 4007 * (S.revs.length + 1) + (if S.whole then 7 else 0)
theorem hist_more {l : List Rv} {r : Rv} : ∀ {s : List UInt8}, histE s l = 0 → oneE r = 0 → fitsE r.d ((textAt s l l.length).length : Nat) = 0 → histE s (l ++ [r]) = 0 := by
  induction l with
  | nil =>
    intro s _ h1 h2
    rw [List.nil_append, histE, if_pos h1, if_pos (show fitsE r.d (s.length : Nat) = 0 from h2)]
    rfl
  | cons x l ih =>
    intro s h h1 h2
    obtain ⟨g1, g2, g3, g4⟩ := hist_cons h
    rw [List.cons_append, histE, if_pos g1, if_pos (by rw [fitsE, if_pos g2, if_pos g3])]
    exact ih g4 h1 h2
theorem textAt_more (s : List UInt8) (l : List Rv) (r : Rv) : textAt s (l ++ [r]) (l.length + 1) = doL r.d (textAt s l l.length) := by
  induction l generalizing s with
  | nil => rfl
  | cons x l ih => exact ih (doL x.d s)
theorem tabPut_len (t : List Int) (who seq rev : Int) : (tabPut t who seq rev).length = t.length := by simp [tabPut]
theorem lstep_ok {S : Lg} {n : Int} {f : Fr} {x : Lg × Int} (h : LOk S n) (hf : f.t.length ≤ 4000) (hs : stepL S n f = some x) : LOk x.1 x.2 := by
  unfold stepL at hs
  split at hs
  · split at hs
    · rename_i r hr
      split at hs
      · rename_i hn
        cases hs
        obtain ⟨n1, n2, n3, n4, n5, n6⟩ := next_zero hn
        have hz := h.size
        have hfit : fitsE r.d ((textAt S.text S.revs S.revs.length).length : Nat) = 0 := by rw [fitsE, if_pos n5, if_pos (by omega)]
        obtain ⟨o1, o2⟩ := do_out (s := textAt S.text S.revs S.revs.length) n5 (by omega)
        refine ⟨h.text, by simp only [List.length_append, List.length_singleton]; omega, hist_more h.hist n1 hfit, ?_, h.first, by rw [tabPut_len]; exact h.table, by simp only [List.length_append, List.length_singleton]; omega, ?_⟩
        · simp only [List.length_append, List.length_singleton]
          rw [textAt_more, o1]
        · have hg := h.good
          simp only [List.length_append, List.length_singleton]
          show S.good + (f.t.length + 7) ≤ 4007 * (S.revs.length + 1 + 1) + (if S.whole then 7 else 0)
          omega
      · cases hs
    · cases hs
  · split at hs
    · rename_i hk
      cases hs
      refine ⟨h.text, h.revs, h.hist, h.size, h.first, h.table, h.ends, ?_⟩
      have hg := h.good
      rw [hk.2.2] at hg
      show S.good + 7 ≤ 4007 * (S.revs.length + 1) + 7
      simpa using hg
    · cases hs
theorem walk_ok (l : List Fr) : ∀ (S : Lg) (n : Int), LOk S n → (∀ f ∈ l, f.t.length ≤ 4000) → LOk (walkL S n l).1 (walkL S n l).2 := by
  induction l with
  | nil => intro S n h _; exact h
  | cons f l ih =>
    intro S n h hl
    cases hs : stepL S n f with
    | none => rw [walk_none _ hs]; exact h
    | some x => rw [walk_some _ hs]; exact ih _ _ (lstep_ok h (hl f (by simp)) hs) (fun g hg => hl g (by simp [hg]))
theorem hd_is {f : Fr} {S : Lg} (h : hdL f = some S) : f.k = 1 ∧ ∃ l r, numsG 18 f.t = some (l, r) ∧ r.length ≤ 500 ∧ S = ⟨l[0]?.getD 0, l[1]?.getD 0, r, (l.drop 2).map (fun n : Nat => (n : Int)), (l.drop 2).map (fun n : Nat => (n : Int)), [], false, f.t.length + 7⟩ := by
  unfold hdL at h
  split at h
  · rename_i hk
    split at h
    · rename_i l r hn
      split at h
      · rename_i hr
        cases h
        exact ⟨hk, l, r, hn, hr, rfl⟩
      · cases h
    · cases h
  · cases h
theorem hd_ok {f : Fr} {S : Lg} (h : hdL f = some S) (hf : f.t.length ≤ 4000) : LOk S (S.text.length : Nat) := by
  obtain ⟨_, l, r, hn, hr, rfl⟩ := hd_is h
  obtain ⟨h1, h2, h3⟩ := nums_is 18 hn
  have hb : l[1]?.getD 0 ≤ 2147483647 := by
    have h4 : 1 < l.length := by omega
    rw [List.getElem?_eq_getElem h4]
    exact h2 _ (List.getElem_mem h4)
  refine ⟨hr, by simp, rfl, by simp [text_zero], by simp [h1], by simp [h1], by simpa using hb, ?_⟩
  show f.t.length + 7 ≤ 4007 * 1 + 0
  omega
/-- all about what is read -/
theorem log_facts {s : List UInt8} (h : logE (scanL s).1 = 0) : ∃ f fs S a b, (scanL s).1 = f :: fs ∧ hdL f = some S ∧ fs = a ++ b ∧ logS (scanL s).1 = (walkL S (S.text.length : Nat) a).1 ∧
    (logS (scanL s).1).good = rowN (f :: a) ∧ (∀ c, walkL S (S.text.length : Nat) (a ++ c) = walkL (walkL S (S.text.length : Nat) a).1 (walkL S (S.text.length : Nat) a).2 c) ∧ LOk (walkL S (S.text.length : Nat) a).1 (walkL S (S.text.length : Nat) a).2 := by
  have hfr := (row_take s.length s (Nat.le_refl _)).2
  cases hq : (scanL s).1 with
  | nil => rw [hq] at h; simp [logE] at h
  | cons f fs =>
    rw [hq] at h hfr
    cases hd : hdL f with
    | none => simp [logE, hd] at h
    | some S =>
      obtain ⟨a, b, e, h1, h2, h3⟩ := walk_split fs S (S.text.length : Nat)
      have hs : logS (f :: fs) = (walkL S (S.text.length : Nat) fs).1 := by simp [logS, hd]
      have hok := hd_ok hd (fr_len (hfr f (by simp)))
      refine ⟨f, fs, S, a, b, rfl, hd, e, ?_, ?_, h3, ?_⟩
      · rw [hs, h1]
      · rw [hs, h2]
        obtain ⟨_, l, r, _, _, rfl⟩ := hd_is hd
        show (f.t.length + 7) + rowN a = rowN (f :: a)
        rfl
      · exact walk_ok a S _ hok (fun g hg => fr_len (hfr g (by rw [e]; simp [hg])))
theorem log_of {s : List UInt8} {f : Fr} {a : List Fr} {S : Lg} (h : (scanL s).1 = f :: a) (hd : hdL f = some S) : logE (scanL s).1 = 0 ∧ logS (scanL s).1 = (walkL S (S.text.length : Nat) a).1 := by
  rw [h]
  exact ⟨by simp [logE, hd], by simp [logS, hd]⟩
/-- what is good is enough to read it -/
theorem log_good {s : List UInt8} (h : logE (scanL s).1 = 0) : 7 ≤ (logS (scanL s).1).good ∧ (logS (scanL s).1).good ≤ s.length ∧ logE (scanL (s.take (logS (scanL s).1).good)).1 = 0 ∧ logS (scanL (s.take (logS (scanL s).1).good)).1 = logS (scanL s).1 := by
  obtain ⟨f, fs, S, a, b, e1, hd, e2, e3, e4, _, _⟩ := log_facts h
  obtain ⟨p1, p2, _, _⟩ := scan_part (l := s) (a := f :: a) (b := b) (by rw [e1, e2]; rfl)
  rw [e4]
  obtain ⟨q1, q2⟩ := log_of (s := s.take (rowN (f :: a))) (f := f) (a := a) (by rw [p1]) hd
  refine ⟨?_, p2, q1, by rw [q2, e3]⟩
  show 7 ≤ (f.t.length + 7) + rowN a
  omega
/-- of a log that is cut a beginning is read -/
theorem log_cut {s : List UInt8} (h : logE (scanL s).1 = 0) (k : Nat) : logE (scanL (s.take k)).1 = 7 ∨ (logE (scanL (s.take k)).1 = 0 ∧ Grew (logS (scanL (s.take k)).1) (logS (scanL s).1)) := by
  obtain ⟨b, hb⟩ := scan_cut s.length s (Nat.le_refl _) k
  cases hq : (scanL (s.take k)).1 with
  | nil => exact .inl rfl
  | cons f a =>
    rw [hq] at hb
    cases hd : hdL f with
    | none => rw [hb] at h; simp [logE, hd] at h
    | some S =>
      refine .inr ⟨by simp [logE, hd], ?_⟩
      rw [hb]
      show Grew (logS (f :: a)) (logS (f :: (a ++ b)))
      simp only [logS, hd]
      exact walk_cut a b S _

/-! A revision as a frame. -/
theorem sum_texts {l : List Pt} (h : Right l) (hb : ∀ p ∈ l, 0 ≤ p.n ∧ p.n ≤ 500 ∧ p.t.size ≤ 500) : ((l.flatMap codeP).length : Int) ≤ 2 * l.length + outI l := by
  induction l with
  | nil => simp [outI]
  | cons p r ih =>
    have ih := ih (fun q hq => h q (List.mem_cons_of_mem _ hq)) (fun q hq => hb q (List.mem_cons_of_mem _ hq))
    obtain ⟨hk, h2, h3, h4⟩ := h p (by simp)
    obtain ⟨b0, b1, b2⟩ := hb p (by simp)
    have htl : p.t.data.toList.length = p.t.size := Array.length_toList
    have hn := num_len (n := codeN p) (k := 1) (by unfold codeN; omega)
    rw [List.flatMap_cons, List.length_append, codeP, List.length_append, htl, List.length_cons, outI]
    by_cases h5 : p.k = 3
    · have := (h3 (by omega)).1
      rw [if_pos h5]; omega
    · rw [if_neg h5]; omega
theorem rev_len {r : Rv} (h : oneE r = 0) : (revB r).length ≤ 4000 := by
  obtain ⟨⟨a1, a2, a3, a4⟩, h0⟩ := one_zero h
  obtain ⟨hs, hi, ho⟩ := sizes_zero h0
  have hr := sizes_right h0
  obtain ⟨r1, r2, r3, _⟩ := right_len hr
  obtain ⟨g, c, e1, e2, e3, e4⟩ := delta_facts h0
  have h1 := sum_texts hr hs.2
  have n1 := num_five (n := r.who.toNat) (by omega)
  have n2 := num_five (n := r.seq.toNat) (by omega)
  have n3 := num_five (n := r.d.length) (by have := hs.1; omega)
  rw [revB, List.length_append, List.length_append, codeL, List.length_append]
  omega
def revFr (r : Rv) : Fr := ⟨2, revB r⟩
def doneFr : Fr := ⟨3, []⟩
theorem rev_fr_ok {r : Rv} (h : oneE r = 0) : frOk (revFr r) = true := by
  simp only [frOk, decide_eq_true_eq]
  exact putE_of (k := 2) (by decide) (by decide) (rev_len h)
theorem step_rev {S : Lg} {n : Int} {r : Rv} (h : nextE S.table S.base S.revs.length n r = 0) : stepL S n (revFr r) = some ({ S with table := tabPut S.table r.who r.seq (S.base + (S.revs.length + 1)), revs := S.revs ++ [r], good := S.good + ((revB r).length + 7) }, outI r.d) := by
  have e : revG (revFr r).t = some r := rev_back (next_zero h).1
  unfold stepL
  rw [if_pos (show (revFr r).k = 2 from rfl), e]
  simp only
  rw [if_pos h]
  rfl
theorem step_done {S : Lg} {n : Int} (h : S.whole = false) : stepL S n doneFr = some ({ S with whole := true, good := S.good + 7 }, n) := by
  unfold stepL
  rw [if_neg (show ¬ doneFr.k = 2 by decide), if_pos ⟨rfl, rfl, h⟩]
/-- each number above its hand's last one -/
def ups : List Int → Int → List Rv → Prop
  | _, _, [] => True
  | t, b, r :: l => seqOf t r.who < r.seq ∧ ups (tabPut t r.who r.seq (b + 1)) (b + 1) l
/-- what was written is read -/
theorem back_walk (l : List Rv) : ∀ (S : Lg) (n : Int), LOk S n → histE (textAt S.text S.revs S.revs.length) l = 0 → S.revs.length + l.length ≤ 64 → (S.base : Int) + S.revs.length + l.length < 2147483647 → ups S.table (S.base + S.revs.length) l → S.whole = false →
    ∃ t m, walkL S n (l.map revFr ++ [doneFr]) = ({ S with table := t, revs := S.revs ++ l, whole := true, good := S.good + rowN (l.map revFr ++ [doneFr]) }, m) := by
  induction l with
  | nil =>
    intro S n h _ _ _ _ hw
    refine ⟨S.table, n, ?_⟩
    show walkL S n [doneFr] = _
    rw [walk_some _ (step_done hw)]
    simp [walkL, rowN, doneFr]
  | cons r l ih =>
    intro S n h hh h64 hb hu hw
    obtain ⟨g1, g2, g3, g4⟩ := hist_cons hh
    have hz := h.size
    rw [List.length_cons] at h64 hb
    have hn : nextE S.table S.base S.revs.length n r = 0 := by
      have hu1 := hu.1
      rw [nextE, if_pos g1, if_neg (by omega), if_neg (by omega), fitsE, if_pos g2, if_pos (by omega)]
    have hs := step_rev hn
    have hok := lstep_ok h (f := revFr r) (rev_len g1) hs
    have e : ((S.base + (S.revs.length + 1) : Nat) : Int) = (S.base : Int) + S.revs.length + 1 := by omega
    obtain ⟨t, m, hm⟩ := ih _ _ hok (by
        show histE (textAt S.text (S.revs ++ [r]) (S.revs ++ [r]).length) l = 0
        rw [List.length_append, List.length_singleton, textAt_more]; exact g4) (by simp only [List.length_append, List.length_singleton]; omega) (by simp only [List.length_append, List.length_singleton]; omega) (by
        have h2 := hu.2
        simp only [List.length_append, List.length_singleton]
        rw [show (S.base : Int) + ((S.revs.length + 1 : Nat) : Int) = (S.base : Int) + S.revs.length + 1 by omega]
        rw [show ((S.base : Int) + ((S.revs.length : Int) + 1)) = (S.base : Int) + S.revs.length + 1 by omega]
        exact h2) hw
    refine ⟨t, m, ?_⟩
    show walkL S n (revFr r :: (l.map revFr ++ [doneFr])) = _
    rw [walk_some _ hs, hm]
    simp only [Prod.mk.injEq, and_true]
    rw [List.append_assoc]
    have : rowN (List.map revFr (r :: l) ++ [doneFr]) = ((revB r).length + 7) + rowN (List.map revFr l ++ [doneFr]) := rfl
    rw [this, Nat.add_assoc]
    rfl
/-- one more is read as one more -/
theorem log_more {s : List UInt8} (h : logE (scanL s).1 = 0) : ∃ R n, logS (scanL s).1 = R ∧ LOk R n ∧ R.good ≤ s.length ∧ ∀ r, nextE R.table R.base R.revs.length n r = 0 →
    logE (scanL (s.take R.good ++ frameL 2 (revB r))).1 = 0 ∧ logS (scanL (s.take R.good ++ frameL 2 (revB r))).1 = { R with table := tabPut R.table r.who r.seq (R.base + (R.revs.length + 1)), revs := R.revs ++ [r], good := R.good + ((revB r).length + 7) } := by
  obtain ⟨f, fs, S, a, b, e1, hd, e2, e3, e4, e5, hok⟩ := log_facts h
  obtain ⟨p1, p2, p3, p4⟩ := scan_part (l := s) (a := f :: a) (b := b) (by rw [e1, e2]; rfl)
  refine ⟨_, (walkL S (S.text.length : Nat) a).2, e3, hok, by rw [← e3, e4]; exact p2, ?_⟩
  intro r hr
  have hs := step_rev hr
  have hrow : s.take (walkL S (S.text.length : Nat) a).1.good ++ frameL 2 (revB r) = rowL (f :: a ++ [revFr r]) := by
    rw [← e3, e4, p3, row_app]
    simp [rowL, revFr]
  have hsc := scan_row (r := []) (by decide) (f :: a ++ [revFr r]) (by
    intro g hg
    rcases List.mem_append.1 hg with hg | hg
    · exact p4 g hg
    · rw [List.mem_singleton.1 hg]; exact rev_fr_ok (next_zero hr).1)
  rw [List.append_nil, ← hrow] at hsc
  obtain ⟨q1, q2⟩ := log_of (s := s.take (walkL S (S.text.length : Nat) a).1.good ++ frameL 2 (revB r)) (f := f) (a := a ++ [revFr r]) (by rw [hsc]; rfl) hd
  refine ⟨q1, ?_⟩
  rw [q2, e5 [revFr r], walk_some _ hs]
  rfl
end Go.Proofs.Ytgffippimmokiaa
