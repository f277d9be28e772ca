/- What is read of bytes is just what is written as them: no program in it. -/
import Derived.Test.YtkihanmodfnpcabCodeReadL
namespace Go.Proofs.Ytkihanmodfnpcab
set_option linter.unusedSimpArgs false
set_option linter.unusedVariables false

theorem get_bytes {s : List UInt8} (h : getE s = 0) : numL (getN s) = s.take (getK s) := by
  obtain ⟨g1, g2⟩ := get_good h
  unfold getE at h
  split at h
  · omega
  · split at h
    · omega
    · split at h
      · rename_i h4
        rw [g1, g2]; exact h4.2
      · omega
theorem readP_sound {s : List UInt8} {p : Pt} {r : List UInt8} (h : readP s = some (p, r)) : s = codeP p ++ r := by
  unfold readP at h
  split at h
  · rename_i h0
    have hb := get_bytes h0
    have hsp : s = s.take (getK s) ++ s.drop (getK s) := (List.take_append_drop _ _).symm
    split at h
    · rename_i h2
      split at h
      · rename_i h4
        simp only [Option.some.injEq, Prod.mk.injEq] at h
        obtain ⟨rfl, rfl⟩ := h
        have hc : codeN ⟨2, 0, ⟨((s.drop (getK s)).take (getN s / 4)).toArray⟩⟩ = getN s := by
          have hz : (⟨((s.drop (getK s)).take (getN s / 4)).toArray⟩ : ByteArray).size = getN s / 4 := by
            show Array.size _ = _
            rw [List.size_toArray, List.length_take]; omega
          unfold codeN
          simp only [hz]; omega
        rw [codeP, hc, hb, List.append_assoc]
        show s = s.take (getK s) ++ ((s.drop (getK s)).take (getN s / 4) ++ (s.drop (getK s)).drop (getN s / 4))
        rw [List.take_append_drop]; exact hsp
      · simp at h
    · simp only [Option.some.injEq, Prod.mk.injEq] at h
      obtain ⟨rfl, rfl⟩ := h
      have hc : codeN ⟨(getN s % 4 : Nat), (getN s / 4 : Nat), ⟨#[]⟩⟩ = getN s := by
        have hz : (⟨#[]⟩ : ByteArray).size = 0 := rfl
        unfold codeN
        simp only [hz]; omega
      rw [codeP, hc, hb]
      show s = (s.take (getK s) ++ []) ++ s.drop (getK s)
      rw [List.append_nil]; exact hsp
  · simp at h
theorem parse_sound {n : Nat} {s : List UInt8} {d : List Pt} {r : List UInt8} (h : parseN n s = some (d, r)) : s = d.flatMap codeP ++ r ∧ d.length = n := by
  induction n generalizing s d with
  | zero =>
    simp only [parseN, Option.some.injEq, Prod.mk.injEq] at h
    obtain ⟨rfl, rfl⟩ := h
    exact ⟨rfl, rfl⟩
  | succ n ih =>
    rw [parse_step] at h
    cases hp : readP s with
    | none => rw [hp] at h; simp at h
    | some y =>
      obtain ⟨p, t⟩ := y
      rw [hp] at h
      simp only [Option.bind_some] at h
      cases hq : parseN n t with
      | none => rw [hq] at h; simp at h
      | some z =>
        obtain ⟨d2, r2⟩ := z
        rw [hq] at h
        simp only [Option.map_some, Option.some.injEq, Prod.mk.injEq] at h
        obtain ⟨rfl, rfl⟩ := h
        obtain ⟨h1, h2⟩ := ih hq
        exact ⟨by rw [readP_sound hp, h1, List.flatMap_cons, List.append_assoc], by rw [List.length_cons, h2]⟩

/-- the delta of which these are the bytes -/
def IsCode (l : List UInt8) (d : List Pt) : Prop := sizesE d = 0 ∧ codeL d = l
theorem code_parse {l : List UInt8} {d : List Pt} (h : IsCode l d) : getE l = 0 ∧ getN l = d.length ∧ parseN (getN l) (l.drop (getK l)) = some (d, []) ∧ d.length ≤ 1600 := by
  obtain ⟨h0, rfl⟩ := h
  have hr := read_code h0 []
  rw [List.append_nil, readF] at hr
  have hl := (sizes_zero h0).1.1
  split at hr
  · rename_i h1
    obtain ⟨g1, g2⟩ := get_good h1
    rw [← g1, ← g2] at hr
    exact ⟨h1, (parse_sound hr).2.symm, hr, hl⟩
  · simp at hr
theorem parse_code_of {l : List UInt8} {d : List Pt} (h0 : getE l = 0) (hp : parseN (getN l) (l.drop (getK l)) = some (d, [])) (hz : sizesE d = 0) : IsCode l d := by
  obtain ⟨h1, h2⟩ := parse_sound hp
  refine ⟨hz, ?_⟩
  rw [codeL, h2, get_bytes h0]
  rw [List.append_nil] at h1
  rw [← h1, List.take_append_drop]
theorem code_uniq {l : List UInt8} {a b : List Pt} (ha : IsCode l a) (hb : IsCode l b) : a = b := code_inj ha.1 hb.1 (ha.2.trans hb.2.symm)
end Go.Proofs.Ytkihanmodfnpcab
