/- Whose the bytes are behind one delta, part by part: no program in it. -/
import Derived.Test.YtjfeaedjifpahaaBlameL
import Derived.Test.YtjfeaedjifpahaaRevP
namespace Go.Proofs.Ytjfeaedjifpahaa
set_option linter.unusedSimpArgs false
set_option linter.unusedVariables false

def afterL : List Pt → List Nat → Nat → List Nat
  | [], _, _ => []
  | p :: r, x, n => (if p.k = 1 then x.take p.n.toNat else if p.k = 2 then List.replicate p.t.size n else []) ++ afterL r (x.drop p.n.toNat) n
theorem blW_K (n : Nat) (w : List Tok) : ∀ (x : List Nat) (i : Nat), blW (List.replicate n .K ++ w) x i = x.take n ++ blW w (x.drop n) i := by
  induction n with
  | zero => intro x i; simp
  | succ n ih =>
    intro x i
    rw [List.replicate_succ, List.cons_append]
    show x.take 1 ++ blW (List.replicate n .K ++ w) (x.drop 1) i = _
    rw [ih]
    cases x <;> simp
theorem blW_X (n : Nat) (w : List Tok) : ∀ (x : List Nat) (i : Nat), blW (List.replicate n .X ++ w) x i = blW w (x.drop n) i := by
  induction n with
  | zero => intro x i; simp
  | succ n ih =>
    intro x i
    rw [List.replicate_succ, List.cons_append]
    show blW (List.replicate n .X ++ w) (x.drop 1) i = _
    rw [ih]
    cases x <;> simp
theorem blW_P (t : List UInt8) (w : List Tok) (x : List Nat) (i : Nat) : blW (t.map .P ++ w) x i = List.replicate t.length i ++ blW w x i := by
  induction t with
  | nil => simp
  | cons c t ih =>
    rw [List.map_cons, List.cons_append, List.length_cons, List.replicate_succ, List.cons_append]
    show i :: blW (t.map .P ++ w) x i = _
    rw [ih]
theorem after_word {d : List Pt} (h : Right d) (n : Nat) : ∀ x, afterL d x n = blW (wordL d) x n := by
  induction d with
  | nil => intro x; rfl
  | cons p r ih =>
    intro x
    have ih' := ih (fun q hq => h q (by simp [hq]))
    obtain ⟨h1, h2, h3, h4⟩ := h p (by simp)
    rw [wordL_cons, afterL]
    unfold wordP
    by_cases e1 : p.k = 1
    · rw [if_pos e1, if_pos e1, blW_K, ih']
    · by_cases e2 : p.k = 2
      · rw [if_neg e1, if_pos e2, if_neg e1, if_pos e2, blW_P, ih', h2 e2]
        have : p.t.data.toList.length = p.t.size := Array.length_toList
        rw [this]; rfl
      · rw [if_neg e1, if_neg e2, if_neg e1, if_neg e2, blW_X, ih', List.nil_append]
/-- what Of answers -/
def blameR (s : List UInt8) (l : List Rv) : List Nat := if checkE s l = 0 then blameL (List.replicate s.length 0) l 1 else []
theorem blame_step {s : List UInt8} {l : List Rv} {k : Nat} {r : Rv} (h : l[k]? = some r) (x : List Nat) : blameL x (l.take (k + 1)) 1 = blW (wordL r.d) (blameL x (l.take k) 1) (k + 1) := by
  obtain ⟨h1, h2⟩ := List.getElem?_eq_some_iff.1 h
  rw [List.take_succ_eq_append_getElem h1, h2, blame_app, List.length_take, Nat.min_eq_left (by omega), Nat.add_comm 1 k]
  rfl
theorem blame_at {s : List UInt8} {l : List Rv} {k : Nat} (h : histE s l = 0) (hk : k ≤ l.length) : (blameL (List.replicate s.length 0) (l.take k) 1).length = (textAt s l k).length := by
  have h1 := blame_len (i := 1) (hist_cut h k).1 (show (List.replicate s.length 0).length = s.length by simp)
  rw [h1, List.length_take, Nat.min_eq_left hk, text_take s (Nat.le_refl k)]
end Go.Proofs.Ytjfeaedjifpahaa
