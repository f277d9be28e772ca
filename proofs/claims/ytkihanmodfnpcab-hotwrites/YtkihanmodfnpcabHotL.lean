/- What a slot says: written, and read: no program in it. -/
import Derived.Test.YtkihanmodfnpcabScanP
import Derived.Test.YtkihanmodfnpcabCodeFinds
import Derived.Test.YtkihanmodfnpcabRevL
import Derived.Test.YtkihanmodfnpcabNextL
namespace Go.Proofs.Ytkihanmodfnpcab
set_option linter.unusedSimpArgs false
set_option linter.unusedVariables false

/-- numbers, one behind the other -/
def numsL (l : List Nat) : List UInt8 := l.flatMap numL
def numsG : Nat → List UInt8 → Option (List Nat × List UInt8)
  | 0, s => some ([], s)
  | n + 1, s => if getE s = 0 then (numsG n (s.drop (getK s))).map (fun y => (getN s :: y.1, y.2)) else none
theorem get_num {n : Nat} (h : n ≤ 2147483647) (r : List UInt8) : getE (numL n ++ r) = 0 ∧ getN (numL n ++ r) = n ∧ getK (numL n ++ r) = (numL n).length := by
  obtain ⟨g1, g2, g3⟩ := num_get h r
  obtain ⟨k1, k2⟩ := get_good g1
  exact ⟨g1, by rw [k1, g3], by rw [k2, g2]⟩
theorem nums_get : ∀ (l : List Nat), (∀ n ∈ l, n ≤ 2147483647) → ∀ r, numsG l.length (numsL l ++ r) = some (l, r) := by
  intro l
  induction l with
  | nil => intro _ r; rfl
  | cons n l ih =>
    intro h r
    have e : numsL (n :: l) ++ r = numL n ++ (numsL l ++ r) := by simp [numsL]
    obtain ⟨g1, g2, g3⟩ := get_num (h n (by simp)) (numsL l ++ r)
    rw [e, List.length_cons, numsG, if_pos g1, g2, g3, List.drop_left, ih (fun m hm => h m (by simp [hm])) r]
    rfl
theorem nums_is : ∀ (n : Nat) {s r : List UInt8} {l : List Nat}, numsG n s = some (l, r) → l.length = n ∧ (∀ x ∈ l, x ≤ 2147483647) ∧ numsL l ++ r = s := by
  intro n
  induction n with
  | zero => intro s r l h; cases h; exact ⟨rfl, by simp, rfl⟩
  | succ n ih =>
    intro s r l h
    rw [numsG] at h
    split at h
    · rename_i h0
      cases hq : numsG n (s.drop (getK s)) with
      | none => rw [hq] at h; simp at h
      | some y =>
        rw [hq] at h
        simp only [Option.map_some, Option.some.injEq, Prod.mk.injEq] at h
        obtain ⟨rfl, rfl⟩ := h
        obtain ⟨i1, i2, i3⟩ := ih (l := y.1) (r := y.2) hq
        have hb := get_bytes h0
        have hl := get_le h0
        refine ⟨by simp [i1], ?_, ?_⟩
        · intro x hx
          rcases List.mem_cons.1 hx with rfl | hx
          · exact hl.2.2
          · exact i2 x hx
        · show (numL (getN s) ++ numsL y.1) ++ y.2 = s
          rw [List.append_assoc, i3, hb, List.take_append_drop]
    · simp at h
theorem nums_len {n : Nat} {s r : List UInt8} {l : List Nat} (h : numsG n s = some (l, r)) : r.length ≤ s.length := by
  obtain ⟨_, _, h3⟩ := nums_is n h
  rw [← h3]; simp

/-- the delta that some bytes are -/
noncomputable def decL (l : List UInt8) : Option (List Pt) := open Classical in if h : ∃ d, IsCode l d then some h.choose else none
theorem dec_some {l : List UInt8} {d : List Pt} (h : IsCode l d) : decL l = some d := by
  unfold decL
  rw [dif_pos ⟨d, h⟩]
  have hx : ∃ d, IsCode l d := ⟨d, h⟩
  exact congrArg some (code_uniq hx.choose_spec h)
theorem dec_none {l : List UInt8} (h : ∀ d, ¬ IsCode l d) : decL l = none := by
  unfold decL
  rw [dif_neg (fun ⟨d, hd⟩ => h d hd)]
theorem dec_is {l : List UInt8} {d : List Pt} (h : decL l = some d) : IsCode l d := by
  unfold decL at h
  split at h
  · rename_i hx
    cases h
    exact hx.choose_spec
  · cases h

/-- the revision that some bytes are, whose it may be and what number -/
noncomputable def revG (s : List UInt8) : Option Rv :=
  match numsG 2 s with
  | some (l, r) => (decL r).map (fun d => ⟨(l[0]?.getD 0 : Nat), (l[1]?.getD 0 : Nat), d⟩)
  | none => none
def revB (r : Rv) : List UInt8 := numL r.who.toNat ++ (numL r.seq.toNat ++ codeL r.d)
theorem rev_back {r : Rv} (h : oneE r = 0) : revG (revB r) = some r := by
  obtain ⟨⟨a1, a2, a3, a4⟩, h0⟩ := one_zero h
  have hn := nums_get [r.who.toNat, r.seq.toNat] (by intro n hn; simp at hn; omega) (codeL r.d)
  have e : numsL [r.who.toNat, r.seq.toNat] ++ codeL r.d = revB r := by simp [numsL, revB]
  rw [e] at hn
  rw [revG, show (2 : Nat) = [r.who.toNat, r.seq.toNat].length from rfl, hn]
  simp only [dec_some (show IsCode (codeL r.d) r.d from ⟨h0, rfl⟩), Option.map_some, Option.some.injEq]
  obtain ⟨who, seq, d⟩ := r
  simp only at *
  simp
  omega

/-- a log as far as it is read -/
structure Lg where
  gen : Nat
  base : Nat
  text : List UInt8
  first : List Int
  table : List Int
  revs : List Rv
  whole : Bool
  good : Nat
def nilLg : Lg := ⟨0, 0, [], List.replicate 16 0, List.replicate 16 0, [], false, 0⟩
def tabPut (t : List Int) (who seq rev : Int) : List Int := (t.set (2 * who.toNat) seq).set (2 * who.toNat + 1) rev
/-- one more frame, the last text having n bytes -/
noncomputable def stepL (S : Lg) (n : Int) (f : Fr) : Option (Lg × Int) :=
  if f.k = 2 then
    match revG f.t with
    | some r => if nextE S.table S.base S.revs.length n r = 0 then some ({ S with table := tabPut S.table r.who r.seq (S.base + (S.revs.length + 1)), revs := S.revs ++ [r], good := S.good + (f.t.length + 7) }, outI r.d) else none
    | none => none
  else if f.k = 3 ∧ f.t = [] ∧ S.whole = false then some ({ S with whole := true, good := S.good + 7 }, n) else none
noncomputable def walkL : Lg → Int → List Fr → Lg × Int
  | S, n, [] => (S, n)
  | S, n, f :: fs => match stepL S n f with
    | some x => walkL x.1 x.2 fs
    | none => (S, n)
theorem walk_some {S : Lg} {n : Int} {f : Fr} {x : Lg × Int} (l : List Fr) (h : stepL S n f = some x) : walkL S n (f :: l) = walkL x.1 x.2 l := by rw [walkL, h]
theorem walk_none {S : Lg} {n : Int} {f : Fr} (l : List Fr) (h : stepL S n f = none) : walkL S n (f :: l) = (S, n) := by rw [walkL, h]
def hdL (f : Fr) : Option Lg :=
  if f.k = 1 then
    match numsG 18 f.t with
    | some (l, r) => if r.length ≤ 500 then some ⟨l[0]?.getD 0, l[1]?.getD 0, r, (l.drop 2).map (fun n : Nat => (n : Int)), (l.drop 2).map (fun n : Nat => (n : Int)), [], false, f.t.length + 7⟩ else none
    | none => none
  else none
def logE : List Fr → Int
  | [] => 7
  | f :: _ => if (hdL f).isSome then 0 else 3
noncomputable def logS : List Fr → Lg
  | [] => nilLg
  | f :: fs => match hdL f with
    | some S => (walkL S S.text.length fs).1
    | none => nilLg

/-! Frames, and the bytes that they are. -/
theorem row_take : ∀ (n : Nat) (l : List UInt8), l.length ≤ n → rowL (scanL l).1 = l.take (scanL l).2 ∧ (∀ f ∈ (scanL l).1, frOk f = true) := by
  intro n
  induction n with
  | zero =>
    intro l hl
    have hnil : l = [] := List.length_eq_zero_iff.1 (by omega)
    subst hnil
    exact ⟨rfl, by intro f hf; cases hf⟩
  | succ n ih =>
    intro l hl
    by_cases h : gotE l = 0
    · obtain ⟨h1, h2, h3, h4, h5, h6⟩ := got_put h
      have hd : (l.drop (gotN l)).length = l.length - gotN l := List.length_drop
      obtain ⟨i1, i2⟩ := ih (l.drop (gotN l)) (by omega)
      rw [scans_good h]
      refine ⟨?_, ?_⟩
      · show frameL ((gotK l : Int).toNat) (gotB l) ++ rowL (scanL (l.drop (gotN l))).1 = _
        rw [i1, Int.toNat_natCast, h6]
        simp only
        rw [List.take_add]
      · intro f hf
        rcases List.mem_cons.1 hf with rfl | hf
        · simp only [frOk, decide_eq_true_eq]
          exact putE_of (by show (1 : Int) ≤ (gotK l : Int); omega) (by show (gotK l : Int) ≤ 255; omega) h3
        · exact i2 f hf
    · rw [scans_bad h]
      exact ⟨rfl, by intro f hf; cases hf⟩
def rowN (l : List Fr) : Nat := (l.map (fun f => f.t.length + 7)).sum
theorem row_len (l : List Fr) : (rowL l).length = rowN l := by
  induction l with
  | nil => rfl
  | cons f l ih =>
    have e : rowL (f :: l) = frameL f.k.toNat f.t ++ rowL l := by simp [rowL]
    rw [e, List.length_append, ih, frameL_len]
    rfl
theorem row_app (a b : List Fr) : rowL (a ++ b) = rowL a ++ rowL b := by simp [rowL]
theorem rowN_app (a b : List Fr) : rowN (a ++ b) = rowN a + rowN b := by simp [rowN]
theorem scan_len (l : List UInt8) : (scanL l).2 = rowN (scanL l).1 := by
  have h := (row_take l.length l (Nat.le_refl _)).1
  have h2 := (scan_le l.length l (Nat.le_refl _)).1
  have h3 := congrArg List.length h
  rw [row_len, List.length_take] at h3
  omega
/-- some of the frames at the beginning of bytes: so many bytes, and no others -/
theorem scan_part {l : List UInt8} {a b : List Fr} (h : (scanL l).1 = a ++ b) : scanL (l.take (rowN a)) = (a, rowN a) ∧ rowN a ≤ l.length ∧ l.take (rowN a) = rowL a ∧ ∀ f ∈ a, frOk f = true := by
  obtain ⟨h1, h2⟩ := row_take l.length l (Nat.le_refl _)
  have h3 := scan_len l
  have h4 := (scan_le l.length l (Nat.le_refl _)).1
  rw [h, row_app] at h1
  rw [h] at h2 h3
  rw [rowN_app] at h3
  have h5 : l.take (rowN a) = rowL a := by
    have e := congrArg (List.take (rowN a)) h1
    rw [List.take_take, Nat.min_eq_left (by omega)] at e
    have h7 : List.take (rowN a) (rowL a ++ rowL b) = rowL a := by
      rw [List.take_append_of_le_length (by rw [row_len]; exact Nat.le_refl _), List.take_of_length_le (by rw [row_len]; exact Nat.le_refl _)]
    exact e.symm.trans h7
  refine ⟨?_, by omega, h5, fun f hf => h2 f (by simp [hf])⟩
  rw [h5]
  have h6 := scan_row (r := []) (by decide) a (fun f hf => h2 f (by simp [hf]))
  rw [List.append_nil, row_len] at h6
  exact h6
/-- what is cut off takes frames from the end -/
theorem scan_cut : ∀ (n : Nat) (l : List UInt8), l.length ≤ n → ∀ k, ∃ b, (scanL l).1 = (scanL (l.take k)).1 ++ b := by
  intro n
  induction n with
  | zero =>
    intro l hl k
    have hnil : l = [] := List.length_eq_zero_iff.1 (by omega)
    subst hnil
    exact ⟨[], by simp⟩
  | succ n ih =>
    intro l hl k
    by_cases h : gotE (l.take k) = 0
    · obtain ⟨h1, h2, h3, h4, h5, h6⟩ := got_put h
      rw [List.length_take] at h4
      have hk : gotN (l.take k) ≤ k := by omega
      rw [List.take_take, Nat.min_eq_left hk] at h6
      obtain ⟨e1, e2, e3, e4⟩ := got_frame h1 h2 h3 (l.drop (gotN (l.take k)))
      rw [h6, List.take_append_drop] at e1 e2 e3 e4
      rw [List.length_take, Nat.min_eq_left (by omega)] at e4
      obtain ⟨b, hb⟩ := ih (l.drop (gotN (l.take k))) (by rw [List.length_drop]; omega) (k - gotN (l.take k))
      refine ⟨b, ?_⟩
      rw [scans_good e1, scans_good h, e2, e3, e4]
      simp only [List.cons_append, List.cons.injEq, true_and]
      rw [hb, List.drop_take]
    · rw [scans_bad h]
      exact ⟨(scanL l).1, rfl⟩

/-! The walk through frames. -/
theorem walk_app (a b : List Fr) : ∀ (S : Lg) (n : Int), walkL S n (a ++ b) = walkL S n a ∨ walkL S n (a ++ b) = walkL (walkL S n a).1 (walkL S n a).2 b := by
  induction a with
  | nil => intro S n; exact .inr rfl
  | cons f a ih =>
    intro S n
    rw [List.cons_append]
    cases hs : stepL S n f with
    | none => rw [walk_none _ hs, walk_none _ hs]; exact .inl rfl
    | some x => rw [walk_some _ hs, walk_some _ hs]; exact ih x.1 x.2
/-- what is taken stands ahead of what is not, and is as many bytes as are good -/
theorem walk_split (l : List Fr) : ∀ (S : Lg) (n : Int), ∃ a b, l = a ++ b ∧ walkL S n a = walkL S n l ∧ (walkL S n l).1.good = S.good + rowN a ∧ (∀ c, walkL S n (a ++ c) = walkL (walkL S n a).1 (walkL S n a).2 c) := by
  induction l with
  | nil => intro S n; exact ⟨[], [], rfl, rfl, rfl, fun c => rfl⟩
  | cons f l ih =>
    intro S n
    cases hs : stepL S n f with
    | none =>
      refine ⟨[], f :: l, rfl, ?_, ?_, fun c => rfl⟩
      · rw [walk_none _ hs]; rfl
      · rw [walk_none _ hs]; rfl
    | some x =>
      obtain ⟨a, b, e, h1, h2, h3⟩ := ih x.1 x.2
      have hg : x.1.good = S.good + (f.t.length + 7) := by
        unfold stepL at hs
        split at hs
        · split at hs
          · split at hs
            · cases hs; rfl
            · cases hs
          · cases hs
        · split at hs
          · rename_i hf
            cases hs
            show S.good + 7 = _
            rw [hf.2.1]; rfl
          · cases hs
      refine ⟨f :: a, b, by rw [e]; rfl, ?_, ?_, ?_⟩
      · rw [walk_some _ hs, walk_some _ hs]; exact h1
      · rw [walk_some _ hs, h2, hg]
        show _ = S.good + ((f.t.length + 7) + rowN a)
        omega
      · intro c
        rw [List.cons_append, walk_some _ hs, walk_some _ hs]; exact h3 c
/-- what is read grows -/
def Grew (S R : Lg) : Prop := R.gen = S.gen ∧ R.base = S.base ∧ R.text = S.text ∧ R.first = S.first ∧ (∃ c, R.revs = S.revs ++ c) ∧ S.good ≤ R.good
theorem Grew.refl (S : Lg) : Grew S S := ⟨rfl, rfl, rfl, rfl, ⟨[], by simp⟩, Nat.le_refl _⟩
theorem Grew.trans {A B C : Lg} (h : Grew A B) (g : Grew B C) : Grew A C := by
  obtain ⟨h1, h2, h3, h4, ⟨c, h5⟩, h6⟩ := h
  obtain ⟨g1, g2, g3, g4, ⟨d, g5⟩, g6⟩ := g
  exact ⟨g1.trans h1, g2.trans h2, g3.trans h3, g4.trans h4, ⟨c ++ d, by rw [g5, h5, List.append_assoc]⟩, by omega⟩
theorem step_grew {S : Lg} {n : Int} {f : Fr} {x : Lg × Int} (hs : stepL S n f = some x) : Grew S x.1 := by
  unfold stepL at hs
  split at hs
  · split at hs
    · split at hs
      · cases hs; exact ⟨rfl, rfl, rfl, rfl, ⟨_, rfl⟩, by show S.good ≤ S.good + _; omega⟩
      · cases hs
    · cases hs
  · split at hs
    · cases hs; exact ⟨rfl, rfl, rfl, rfl, ⟨[], by simp⟩, by show S.good ≤ S.good + _; omega⟩
    · cases hs
theorem walk_grew (l : List Fr) : ∀ (S : Lg) (n : Int), Grew S (walkL S n l).1 := by
  induction l with
  | nil => intro S n; exact .refl S
  | cons f l ih =>
    intro S n
    cases hs : stepL S n f with
    | none => rw [walk_none _ hs]; exact .refl S
    | some x => rw [walk_some _ hs]; exact (step_grew hs).trans (ih _ _)
/-- what is read of a beginning is a beginning of what is read -/
theorem walk_cut (a b : List Fr) (S : Lg) (n : Int) : Grew (walkL S n a).1 (walkL S n (a ++ b)).1 := by
  rcases walk_app a b S n with h | h
  · rw [h]; exact .refl _
  · rw [h]; exact walk_grew _ _ _
end Go.Proofs.Ytkihanmodfnpcab
