/- What is opened, whatever lies on the disk: no program in it. -/
import Derived.Test.YtgffippimmokiaaShRun
namespace Go.Proofs.Ytgffippimmokiaa
open Go.RowKit
set_option linter.unusedSimpArgs false
set_option linter.unusedVariables false

theorem rev_is {t : List UInt8} {r : Rv} (h : revG t = some r) : revB r = t := by
  unfold revG at h
  split at h
  · rename_i l x hn
    cases hd : decL x with
    | none => rw [hd] at h; cases h
    | some d =>
      rw [hd] at h
      simp only [Option.map_some, Option.some.injEq] at h
      subst h
      obtain ⟨h1, _, h3⟩ := nums_is 2 hn
      obtain ⟨_, hc⟩ := dec_is hd
      match l, h1 with
      | [u, v], _ =>
        rw [← h3]
        simp [revB, numsL, hc]
  · cases h
theorem fr_is {f : Fr} {r : Rv} (hk : f.k = 2) (h : revG f.t = some r) : f = revFr r := by
  obtain ⟨k, t⟩ := f
  simp only at hk h
  rw [hk, ← rev_is h]
  rfl
/-- what a step is -/
theorem step_is {S : Lg} {n : Int} {f : Fr} {x : Lg × Int} (h : stepL S n f = some x) : (∃ r, f = revFr r ∧ nextE S.table S.base S.revs.length n r = 0 ∧ x = (addR S r, outI r.d)) ∨ (f = doneFr ∧ S.whole = false ∧ x = ({ S with whole := true, good := S.good + 7 }, n)) := by
  unfold stepL at h
  split at h
  · rename_i hk
    split at h
    · rename_i r hr
      split at h
      · rename_i hn
        have hf := fr_is hk hr
        cases h
        refine .inl ⟨r, hf, hn, ?_⟩
        rw [hf]
        rfl
      · cases h
    · cases h
  · split at h
    · rename_i hk
      cases h
      obtain ⟨k, t⟩ := f
      simp only at hk
      obtain ⟨e1, e2, e3⟩ := hk
      rw [e1, e2]
      exact .inr ⟨rfl, e3, rfl⟩
    · cases h
theorem walk_back1 (l : List Fr) : ∀ (S : Lg) (n : Int), S.whole = true → ∃ (y : List Rv) (c : List Fr), l = y.map revFr ++ c ∧ mayL S n y ∧ (walkL S n l).1 = (walkL S n (y.map revFr)).1 := by
  induction l with
  | nil => intro S n _; exact ⟨[], [], rfl, trivial, rfl⟩
  | cons f l ih =>
    intro S n hw
    cases hs : stepL S n f with
    | none => exact ⟨[], f :: l, rfl, trivial, by rw [walk_none _ hs]; rfl⟩
    | some x =>
      rcases step_is hs with ⟨r, rfl, hn, rfl⟩ | ⟨_, hx, _⟩
      · obtain ⟨y, c, e, hm, he⟩ := ih (addR S r) (outI r.d) hw
        refine ⟨r :: y, c, by rw [e]; rfl, ⟨hn, hm⟩, ?_⟩
        rw [List.map_cons, walk_some _ hs, walk_some _ hs]
        exact he
      · rw [hw] at hx; cases hx
theorem walk_back0 (l : List Fr) : ∀ (S : Lg) (n : Int), S.whole = false → (walkL S n l).1.whole = true → ∃ (x y : List Rv) (c : List Fr), l = (x.map revFr ++ doneFr :: y.map revFr) ++ c ∧ mayL S n (x ++ y) ∧ (walkL S n l).1 = (walkL S n (x.map revFr ++ doneFr :: y.map revFr)).1 := by
  induction l with
  | nil => intro S n hw h; rw [show (walkL S n []).1 = S from rfl, hw] at h; cases h
  | cons f l ih =>
    intro S n hw h
    cases hs : stepL S n f with
    | none => rw [walk_none _ hs, show ((S, n) : Lg × Int).1 = S from rfl, hw] at h; cases h
    | some x =>
      rw [walk_some _ hs] at h
      rcases step_is hs with ⟨r, rfl, hn, rfl⟩ | ⟨rfl, hx, rfl⟩
      · obtain ⟨a, y, c, e, hm, he⟩ := ih (addR S r) (outI r.d) hw h
        refine ⟨r :: a, y, c, by rw [e]; rfl, ⟨hn, hm⟩, ?_⟩
        rw [List.map_cons, List.cons_append, walk_some _ hs, walk_some _ hs]
        exact he
      · obtain ⟨y, c, e, hm, he⟩ := walk_back1 l { S with whole := true, good := S.good + 7 } n rfl
        refine ⟨[], y, c, by rw [e]; rfl, ?_, ?_⟩
        · exact (may_move y S { S with whole := true, good := S.good + 7 } n rfl rfl (Nat.le_refl _) hm).1
        · rw [List.map_nil, List.nil_append, walk_some _ hs, walk_some _ hs]
          exact he
theorem head_is {f : Fr} {S : Lg} (h : hdL f = some S) : ∃ (gen base : Nat) (F : List Int) (t : List UInt8), f = headF gen base F t ∧ S = headS gen base F t ∧ gen ≤ 2147483647 ∧ base ≤ 2147483647 ∧ TabOk F ∧ t.length ≤ 500 := by
  obtain ⟨hk, l, r, hn, hr, rfl⟩ := hd_is h
  obtain ⟨h1, h2, h3⟩ := nums_is 18 hn
  match l, h1 with
  | u :: v :: m, h1 =>
    have hm : m.length = 16 := by simpa using h1
    have hb : ∀ k ∈ m, k ≤ 2147483647 := fun k hk => h2 k (by simp [hk])
    have e : (m.map (fun n : Nat => (n : Int))).map Int.toNat = m := by
      rw [List.map_map]
      conv => rhs; rw [← List.map_id m]
      apply List.map_congr_left
      intro a _
      simp
    have hf : f = headF u v (m.map (fun n : Nat => (n : Int))) r := by
      obtain ⟨k, t⟩ := f
      simp only at hk h3
      rw [headF, e, hk, ← h3]
    refine ⟨u, v, m.map (fun n : Nat => (n : Int)), r, hf, ?_, h2 u (by simp), h2 v (by simp), ⟨by simp [hm], fun x hx => ?_⟩, hr⟩
    · rw [headS, ← hf]
      rfl
    · obtain ⟨k, hk, rfl⟩ := List.mem_map.1 hx
      have := hb k hk
      omega
/-- a slot that is read and is whole -/
theorem slot_is {s : List UInt8} (h : logE (scanL s).1 = 0) (hw : (logS (scanL s).1).whole = true) : ∃ (gen base : Nat) (F : List Int) (t : List UInt8) (a b : List Rv), gen ≤ 2147483647 ∧ base ≤ 2147483647 ∧ TabOk F ∧ t.length ≤ 500 ∧ mayL (headS gen base F t) (t.length : Nat) (a ++ b) ∧
    logS (scanL s).1 = { addL (headS gen base F t) (a ++ b) with whole := true, good := rowN (slotF gen base F t a true b) } ∧ s.take (rowN (slotF gen base F t a true b)) = rowL (slotF gen base F t a true b) := by
  cases hq : (scanL s).1 with
  | nil => rw [hq] at h; simp [logE] at h
  | cons f fs =>
    rw [hq] at h hw
    cases hd : hdL f with
    | none => simp [logE, hd] at h
    | some S =>
      have hs : ∀ l, logS (f :: l) = (walkL S (S.text.length : Nat) l).1 := fun l => by simp [logS, hd]
      rw [hs] at hw
      obtain ⟨gen, base, F, t, ef, eS, hg, hb, hF, ht⟩ := head_is hd
      obtain ⟨a, b, c, e, hm, he⟩ := walk_back0 fs S (S.text.length : Nat) (by rw [eS]; rfl) hw
      have hm : mayL (headS gen base F t) (t.length : Nat) (a ++ b) := by rw [eS] at hm; exact hm
      obtain ⟨r1, r2, r3⟩ := slot_read (w := true) hg hb hF ht hm (fun e => by cases e)
      have hsc := scan_row (r := []) (by decide) _ r3
      rw [List.append_nil] at hsc
      rw [hsc] at r2
      have esl : slotF gen base F t a true b = f :: (a.map revFr ++ doneFr :: b.map revFr) := by rw [ef]; rfl
      have r2' : logS (slotF gen base F t a true b) = _ := r2
      obtain ⟨p1, p2, p3, p4⟩ := scan_part (l := s) (a := slotF gen base F t a true b) (b := c) (by rw [hq, e, esl]; rfl)
      refine ⟨gen, base, F, t, a, b, hg, hb, hF, ht, hm, ?_, p3⟩
      rw [hs, he, ← r2', esl, hs]
/-- what is opened is fresh -/
theorem open_fresh {p q : ByteArray} (hw : (newN p.data.toList q.data.toList).2.whole = true) : Fresh (openS p q) := by
  have key : ∀ (k : Nat) (d : ByteArray), k ≤ 1 → newN p.data.toList q.data.toList = (k, logS (scanL d.data.toList).1) → logE (scanL d.data.toList).1 = 0 → (if k = 0 then p else q) = d → Fresh (openS p q) := by
    intro k d hk hn he hd
    rw [hn] at hw
    obtain ⟨gen, base, F, t, a, b, hg, hb, hF, ht, hm, hl, hr⟩ := slot_is he hw
    rw [hl] at hn
    have ec : (d.extract 0 (rowN (slotF gen base F t a true b))).data.toList = rowL (slotF gen base F t a true b) := by rw [extract_list, hr]
    have hs : (d.extract 0 (rowN (slotF gen base F t a true b))).size = rowN (slotF gen base F t a true b) := by rw [← size_list, ec, row_len]
    exact ⟨gen, base, F, t, a, b, d.extract 0 (rowN (slotF gen base F t a true b)), k, openS_of hn (by rw [hd]) hs, hg, hb, hF, ht, hm, hk, ec⟩
  rcases new_facts hw with ⟨hn, he⟩ | ⟨hn, he⟩
  · exact key 0 p (by omega) hn he (by rw [if_pos rfl])
  · exact key 1 q (by omega) hn he (by rw [if_neg (by omega)])
theorem open_good {p q : ByteArray} (hw : (newN p.data.toList q.data.toList).2.whole = true) : SGood (openS p q) := by
  obtain ⟨a, b, h⟩ := (open_fresh hw).inv
  exact ⟨a, b, 0, h, Nat.zero_le _⟩
end Go.Proofs.Ytgffippimmokiaa
