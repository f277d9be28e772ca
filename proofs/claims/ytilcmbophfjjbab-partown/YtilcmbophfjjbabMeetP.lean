/- What the document's road makes of two deltas of one text, place by place: it is what is left of each; and a place, as the text changes: no program in it. -/
import Derived.Test.YtilcmbophfjjbabPlW
import Derived.Test.YtilcmbophfjjbabMeetLaw
import Derived.Test.YtilcmbophfjjbabSpotW
namespace Go.Proofs.Ytilcmbophfjjbab
set_option linter.unusedSimpArgs false
set_option linter.unusedVariables false

theorem Mt.pas (t : List UInt8) {a b x y : List Tok} (h : Mt a b x y) : Mt (t.map .P ++ a) b (t.map .P ++ x) (List.replicate t.length .K ++ y) := by
  induction t with
  | nil => exact h
  | cons c t ih => exact .pa c ih
theorem Mt.pbs (t : List UInt8) {a b x y : List Tok} (hn : NoPut a) (h : Mt a b x y) : Mt a (t.map .P ++ b) (List.replicate t.length .K ++ x) (t.map .P ++ y) := by
  induction t with
  | nil => exact h
  | cons c t ih => exact .pb c hn ih
def keepQ (q : ByteArray) : Pt := ⟨1, q.size, ByteArray.empty⟩
def putQ (q : ByteArray) : Pt := ⟨2, 0, q⟩
def oneQ (b : Bool) : Pt := ⟨if b = true then 1 else 3, 1, ByteArray.empty⟩
/-- what is left of the one -/
def leftL : List ByteArray → List Bool → List ByteArray → List Bool → List Pt
  | q :: qs, b :: ks, u :: us, c :: ls => putQ q :: keepQ u :: (if c = true then [oneQ b] else []) ++ leftL qs ks us ls
  | q :: _, _, u :: _, _ => [putQ q, keepQ u]
  | _, _, _, _ => []
/-- what is left of the other -/
def leftR : List ByteArray → List Bool → List ByteArray → List Bool → List Pt
  | q :: qs, b :: ks, u :: us, c :: ls => keepQ q :: putQ u :: (if b = true then [oneQ c] else []) ++ leftR qs ks us ls
  | q :: _, _, u :: _, _ => [keepQ q, putQ u]
  | _, _, _, _ => []
theorem word_putQ (q : ByteArray) : wordP (putQ q) = q.data.toList.map .P := by simp [wordP, putQ]
theorem word_keepQ (q : ByteArray) : wordP (keepQ q) = List.replicate q.data.toList.length .K := by
  have h : q.data.toList.length = q.size := Array.length_toList
  rw [h]; simp [wordP, keepQ]
theorem word_oneQ (b : Bool) : wordP (oneQ b) = [if b = true then Tok.K else Tok.X] := by cases b <;> simp [wordP, oneQ]
theorem left_mt (qs us : List ByteArray) (ks ls : List Bool) (h1 : qs.length = ks.length + 1) (h2 : us.length = ls.length + 1) (h3 : ks.length = ls.length) :
    Mt (placesW qs ks) (placesW us ls) (wordL (leftL qs ks us ls)) (wordL (leftR qs ks us ls)) := by
  induction ks generalizing qs us ls with
  | nil =>
    match qs, h1 with
    | [q], _ =>
      cases ls with
      | cons _ _ => simp at h3
      | nil =>
        match us, h2 with
        | [u], _ =>
          have h := (Mt.pbs (a := []) u.data.toList trivial Mt.nil).pas q.data.toList
          simpa [placesW, leftL, leftR, wordL, word_putQ, word_keepQ] using h
  | cons b ks ih =>
    cases ls with
    | nil => simp at h3
    | cons c ls =>
      match qs, h1 with
      | q :: qs, h1 =>
        match us, h2 with
        | u :: us, h2 =>
          have hm := ih qs us ls (by simpa using h1) (by simpa using h2) (by simpa using h3)
          have hs : Mt ((if b = true then Tok.K else Tok.X) :: placesW qs ks) ((if c = true then Tok.K else Tok.X) :: placesW us ls) ((if c = true then [if b = true then Tok.K else Tok.X] else []) ++ wordL (leftL qs ks us ls)) ((if b = true then [if c = true then Tok.K else Tok.X] else []) ++ wordL (leftR qs ks us ls)) := by
            cases b <;> cases c <;> simp
            · exact .xx hm
            · exact .xk hm
            · exact .kx hm
            · exact .kk hm
          have hn : NoPut ((if b = true then Tok.K else Tok.X) :: placesW qs ks) := by cases b <;> trivial
          have h := (hs.pbs u.data.toList hn).pas q.data.toList
          have e1 : wordL (leftL (q :: qs) (b :: ks) (u :: us) (c :: ls)) = q.data.toList.map .P ++ (List.replicate u.data.toList.length .K ++ ((if c = true then [if b = true then Tok.K else Tok.X] else []) ++ wordL (leftL qs ks us ls))) := by
            simp only [leftL, wordL_cons, List.cons_append, wordL_app, word_putQ, word_keepQ]
            cases c <;> simp [wordL, word_oneQ]
          have e2 : wordL (leftR (q :: qs) (b :: ks) (u :: us) (c :: ls)) = List.replicate q.data.toList.length .K ++ (u.data.toList.map .P ++ ((if b = true then [if c = true then Tok.K else Tok.X] else []) ++ wordL (leftR qs ks us ls))) := by
            simp only [leftR, wordL_cons, List.cons_append, wordL_app, word_putQ, word_keepQ]
            cases b <;> simp [wordL, word_oneQ]
          rw [placesW, placesW, e1, e2]
          exact h
/-- the document's two answers -/
theorem left_meet {a b : List Pt} (ha : Good a) (hb : Good b) (h : inI a = inI b) :
    wordL (leftL (ofAll a).1 (ofAll a).2 (ofAll b).1 (ofAll b).2) = meetX (wordL a) (wordL b) ∧ wordL (leftR (ofAll a).1 (ofAll a).2 (ofAll b).1 (ofAll b).2) = meetY (wordL a) (wordL b) := by
  have l1 := ofAll_keptlen (l := a) (fun p hp => ⟨(ha p hp).2.1, (ha p hp).2.2.1⟩)
  have l2 := ofAll_keptlen (l := b) (fun p hp => ⟨(hb p hp).2.1, (hb p hp).2.2.1⟩)
  have hm := left_mt _ _ _ _ (ofAll_len a) (ofAll_len b) (by omega)
  rw [places_word ha.kinds, places_word hb.kinds] at hm
  exact hm.one

/-- a place by the document's road -/
def spotP : List ByteArray → List Bool → Nat → Bool → Nat
  | q :: _, _, 0, l => if l = true then q.size else 0
  | q :: qs, b :: ks, n + 1, l => q.size + b.toNat + spotP qs ks n l
  | _, _, _, _ => 0
theorem spot_puts (t : List UInt8) (w : List Tok) (n : Nat) (l : Bool) : spotW (t.map .P ++ w) n l = if n = 0 ∧ l = false then 0 else t.length + spotW w n l := by
  induction t with
  | nil =>
    by_cases h : n = 0 ∧ l = false
    · obtain ⟨rfl, rfl⟩ := h; simp [spot_zero]
    · simp [h]
  | cons c t ih =>
    cases n with
    | zero =>
      cases l
      · simp [spotW]
      · simp [spotW] at ih ⊢; omega
    | succ n => simp [spotW] at ih ⊢; omega
theorem spotP_word (qs : List ByteArray) (ks : List Bool) (h : qs.length = ks.length + 1) (n : Nat) (hn : n ≤ ks.length) (l : Bool) : spotP qs ks n l = spotW (placesW qs ks) n l := by
  induction ks generalizing qs n with
  | nil =>
    match qs, h with
    | [q], _ =>
      have hl : q.data.toList.length = q.size := Array.length_toList
      have h0 : n = 0 := by simpa using hn
      subst h0
      have := spot_puts q.data.toList [] 0 l
      simp only [List.append_nil] at this
      simp only [placesW, this, spotP]
      cases l <;> simp [spotW, hl]
  | cons b ks ih =>
    match qs, h with
    | q :: qs, h =>
      have hl : q.data.toList.length = q.size := Array.length_toList
      rw [placesW, spot_puts]
      cases n with
      | zero =>
        cases l
        · simp [spotP]
        · cases b <;> simp [spotP, spotW, hl]
      | succ n =>
        have := ih qs (by simpa using h) n (by simpa using hn)
        cases b <;> simp [spotP, spotW, hl, this] <;> omega
theorem spotP_of {d : List Pt} (h : Good d) (n : Nat) (hn : (n : Int) ≤ inI d) (l : Bool) : spotP (ofAll d).1 (ofAll d).2 n l = spotW (wordL d) n l := by
  have l1 := ofAll_keptlen (l := d) (fun p hp => ⟨(h p hp).2.1, (h p hp).2.2.1⟩)
  rw [spotP_word _ _ (ofAll_len d) n (by omega), places_word h.kinds]

end Go.Proofs.Ytilcmbophfjjbab
