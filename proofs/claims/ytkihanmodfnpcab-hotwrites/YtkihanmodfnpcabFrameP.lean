/- Frames as bytes, put and got: no program in it. -/
import Derived.Test.YtkihanmodfnpcabFrameL
namespace Go.Proofs.Ytkihanmodfnpcab
set_option linter.unusedSimpArgs false
set_option linter.unusedVariables false

/-- what stands ahead of a frame's sum -/
def headL (k : Nat) (b : List UInt8) : List UInt8 := UInt8.ofNat k :: UInt8.ofNat (b.length / 256) :: UInt8.ofNat b.length :: b
def frameL (k : Nat) (b : List UInt8) : List UInt8 := headL k b ++ sumB (crcL (headL k b))
theorem headL_len (k : Nat) (b : List UInt8) : (headL k b).length = b.length + 3 := by simp [headL]
theorem frameL_len (k : Nat) (b : List UInt8) : (frameL k b).length = b.length + 7 := by rw [frameL, List.length_append, headL_len, sumB_len]
/-- what Put answers -/
def putE (k : Int) (b : List UInt8) : Int := if k < 1 ∨ 255 < k then 1 else if 4000 < b.length then 2 else 0
def putT (k : Int) (b : List UInt8) : List UInt8 := if putE k b = 0 then frameL k.toNat b else []
theorem putE_ok {k : Int} {b : List UInt8} (h : putE k b = 0) : 1 ≤ k ∧ k ≤ 255 ∧ b.length ≤ 4000 := by
  unfold putE at h
  split at h
  · simp at h
  · split at h
    · simp at h
    · omega
theorem putE_of {k : Int} {b : List UInt8} (h1 : 1 ≤ k) (h2 : k ≤ 255) (h3 : b.length ≤ 4000) : putE k b = 0 := by
  unfold putE
  rw [if_neg (by omega), if_neg (by omega)]
/-- what is at the beginning of some bytes -/
def kindN (l : List UInt8) : Nat := (l[0]?.getD 0).toNat
def bodyN (l : List UInt8) : Nat := 256 * (l[1]?.getD 0).toNat + (l[2]?.getD 0).toNat
/-- what Get answers -/
def gotE (l : List UInt8) : Int :=
  if l.length < 7 then 5
  else if kindN l = 0 ∨ 4000 < bodyN l then 3
  else if l.length < bodyN l + 7 then 5
  else if sumB (crcL (l.take (bodyN l + 3))) = (l.drop (bodyN l + 3)).take 4 then 0 else 6
def gotK (l : List UInt8) : Nat := if gotE l = 0 then kindN l else 0
def gotB (l : List UInt8) : List UInt8 := if gotE l = 0 then (l.drop 3).take (bodyN l) else []
def gotN (l : List UInt8) : Nat := if gotE l = 0 then bodyN l + 7 else 0
theorem got_ok {l : List UInt8} (h : gotE l = 0) : 7 ≤ l.length ∧ kindN l ≠ 0 ∧ bodyN l ≤ 4000 ∧ bodyN l + 7 ≤ l.length ∧ sumB (crcL (l.take (bodyN l + 3))) = (l.drop (bodyN l + 3)).take 4 := by
  unfold gotE at h
  split at h
  · simp at h
  · split at h
    · simp at h
    · split at h
      · simp at h
      · split at h
        · rename_i h1 h2 h3 h4
          exact ⟨by omega, by omega, by omega, by omega, h4⟩
        · simp at h
theorem got_bad {l : List UInt8} (h : gotE l ≠ 0) : gotK l = 0 ∧ gotB l = [] ∧ gotN l = 0 := by
  unfold gotK gotB gotN
  rw [if_neg h, if_neg h, if_neg h]
  exact ⟨rfl, rfl, rfl⟩
theorem got_good {l : List UInt8} (h : gotE l = 0) : gotK l = kindN l ∧ gotB l = (l.drop 3).take (bodyN l) ∧ gotN l = bodyN l + 7 := by
  unfold gotK gotB gotN
  rw [if_pos h, if_pos h, if_pos h]
  exact ⟨rfl, rfl, rfl⟩
theorem kind_lt (l : List UInt8) : kindN l < 256 := (l[0]?.getD 0).toNat_lt
theorem body_lt (l : List UInt8) : bodyN l < 65536 := by
  have h1 := (l[1]?.getD 0).toNat_lt
  have h2 := (l[2]?.getD 0).toNat_lt
  unfold bodyN
  omega
/-- two numbers out of three bytes -/
theorem head_kind {k : Nat} (hk : k < 256) (b r : List UInt8) : kindN (headL k b ++ r) = k := by
  show (UInt8.ofNat k).toNat = k
  rw [UInt8.toNat_ofNat']
  exact Nat.mod_eq_of_lt hk
theorem head_body (k : Nat) {b : List UInt8} (hb : b.length < 65536) (r : List UInt8) : bodyN (headL k b ++ r) = b.length := by
  show 256 * (UInt8.ofNat (b.length / 256)).toNat + (UInt8.ofNat b.length).toNat = b.length
  rw [UInt8.toNat_ofNat', UInt8.toNat_ofNat']
  simp
  omega
/-- a frame is got as it was, whatever stands behind -/
theorem got_frame {k : Nat} {b : List UInt8} (h1 : 1 ≤ k) (h2 : k ≤ 255) (h3 : b.length ≤ 4000) (r : List UInt8) :
    gotE (frameL k b ++ r) = 0 ∧ gotK (frameL k b ++ r) = k ∧ gotB (frameL k b ++ r) = b ∧ gotN (frameL k b ++ r) = (frameL k b).length := by
  have e : frameL k b ++ r = headL k b ++ (sumB (crcL (headL k b)) ++ r) := by rw [frameL, List.append_assoc]
  have hl : (headL k b).length = b.length + 3 := headL_len k b
  have hK : kindN (frameL k b ++ r) = k := by rw [e]; exact head_kind (by omega) b _
  have hB : bodyN (frameL k b ++ r) = b.length := by rw [e]; exact head_body k (by omega) _
  have hL : (frameL k b ++ r).length = b.length + 7 + r.length := by rw [List.length_append, frameL_len]
  have hE : gotE (frameL k b ++ r) = 0 := by
    unfold gotE
    rw [hK, hB, hL, if_neg (by omega), if_neg (by omega), if_neg (by omega), if_pos]
    rw [e, ← hl, List.take_left, List.drop_left, List.take_append_of_le_length (by rw [sumB_len]; omega), List.take_of_length_le (by rw [sumB_len]; omega)]
  obtain ⟨g1, g2, g3⟩ := got_good hE
  refine ⟨hE, g1.trans hK, ?_, ?_⟩
  · rw [g2, hB, e]
    show List.take b.length (b ++ _) = b
    rw [List.take_left]
  · rw [g3, hB, frameL_len]
/-- cut short it is told -/
theorem got_cut {k : Nat} {b : List UInt8} (h1 : 1 ≤ k) (h2 : k ≤ 255) (h3 : b.length ≤ 4000) {r : Nat} (hr : r < (frameL k b).length) : gotE ((frameL k b).take r) = 5 := by
  have hl : ((frameL k b).take r).length = r := by rw [List.length_take]; omega
  rw [frameL_len] at hr
  unfold gotE
  rw [hl]
  by_cases h7 : r < 7
  · rw [if_pos h7]
  · obtain ⟨q, rfl⟩ : ∃ q, r = 3 + q := ⟨r - 3, by omega⟩
    have e : (frameL k b).take (3 + q) = UInt8.ofNat k :: UInt8.ofNat (b.length / 256) :: UInt8.ofNat b.length :: ((b ++ sumB (crcL (headL k b))).take q) := by
      rw [Nat.add_comm]; rfl
    have hK : kindN ((frameL k b).take (3 + q)) = k := by
      rw [e]
      show (UInt8.ofNat k).toNat = k
      rw [UInt8.toNat_ofNat']; exact Nat.mod_eq_of_lt (by omega)
    have hB : bodyN ((frameL k b).take (3 + q)) = b.length := by
      rw [e]
      show 256 * (UInt8.ofNat (b.length / 256)).toNat + (UInt8.ofNat b.length).toNat = b.length
      rw [UInt8.toNat_ofNat', UInt8.toNat_ofNat']
      simp
      omega
    rw [hK, hB, if_neg h7, if_neg (by omega), if_pos (by omega)]
theorem head_take {l : List UInt8} (h4 : bodyN l + 7 ≤ l.length) : headL (kindN l) ((l.drop 3).take (bodyN l)) = l.take (bodyN l + 3) := by
  have hbl : ((l.drop 3).take (bodyN l)).length = bodyN l := by rw [List.length_take, List.length_drop]; omega
  have h1 : 7 ≤ l.length := by omega
  match l, h1 with
  | a :: b :: c :: r, _ =>
    have hb8 := b.toNat_lt
    have hc8 := c.toNat_lt
    unfold headL
    rw [hbl]
    have e1 : UInt8.ofNat (kindN (a :: b :: c :: r)) = a := by
      show UInt8.ofNat a.toNat = a
      simp
    have e2 : UInt8.ofNat (bodyN (a :: b :: c :: r) / 256) = b := by
      apply UInt8.toNat_inj.1
      rw [UInt8.toNat_ofNat']
      show (256 * b.toNat + c.toNat) / 256 % 2 ^ 8 = b.toNat
      omega
    have e3 : UInt8.ofNat (bodyN (a :: b :: c :: r)) = c := by
      apply UInt8.toNat_inj.1
      rw [UInt8.toNat_ofNat']
      show (256 * b.toNat + c.toNat) % 2 ^ 8 = c.toNat
      omega
    rw [e1, e2, e3]
    rfl
/-- the other road: a frame is put of what is there, and held against it -/
theorem frame_take {l : List UInt8} (h4 : bodyN l + 7 ≤ l.length) : frameL (kindN l) ((l.drop 3).take (bodyN l)) = l.take (bodyN l + 7) ↔ sumB (crcL (l.take (bodyN l + 3))) = (l.drop (bodyN l + 3)).take 4 := by
  rw [frameL, head_take h4, show bodyN l + 7 = (bodyN l + 3) + 4 by omega, List.take_add (l := l) (i := bodyN l + 3) (j := 4)]
  exact ⟨fun h => List.append_cancel_left h, fun h => by rw [h]⟩
/-- what is got is put as it was -/
theorem got_put {l : List UInt8} (h : gotE l = 0) : 1 ≤ gotK l ∧ gotK l ≤ 255 ∧ (gotB l).length ≤ 4000 ∧ gotN l ≤ l.length ∧ 7 ≤ gotN l ∧ frameL (gotK l) (gotB l) = l.take (gotN l) := by
  obtain ⟨h1, h2, h3, h4, h5⟩ := got_ok h
  obtain ⟨g1, g2, g3⟩ := got_good h
  have hk := kind_lt l
  have hbl : ((l.drop 3).take (bodyN l)).length = bodyN l := by rw [List.length_take, List.length_drop]; omega
  rw [g1, g2, g3]
  refine ⟨by omega, by omega, by omega, h4, by omega, ?_⟩
  have hh := head_take h4
  rw [frameL, hh, h5, show bodyN l + 7 = (bodyN l + 3) + 4 by omega, List.take_add (l := l) (i := bodyN l + 3) (j := 4)]
/-- the first bytes stay where no bit of theirs is turned -/
theorem turned_first {s : List UInt8} {p : Nat} (hp : p + 32 ≤ 8 * s.length) (t : BitVec 32) {j : Nat} (hj : 8 * j + 8 ≤ p) : (turnR32 s p t 32)[j]? = s[j]? := by
  have key : ∀ i, i ≤ 32 → (turnR32 s p t i)[j]? = s[j]? := by
    intro i
    induction i with
    | zero => intro _; rfl
    | succ i ih =>
      intro hi
      rw [turnR32]
      split
      · rw [flipAt, List.getElem?_set_ne (by omega)]
        exact ih (by omega)
      · exact ih (by omega)
  exact key 32 (Nat.le_refl _)
/-- bits that are turned behind the length are told -/
theorem got_turned {k : Nat} {b : List UInt8} (h1 : 1 ≤ k) (h2 : k ≤ 255) (h3 : b.length ≤ 4000) {p : Nat} (hp0 : 24 ≤ p) (hp : p + 32 ≤ 8 * (frameL k b).length) {t : BitVec 32} (ht : t ≠ 0#32) : gotE (turnR32 (frameL k b) p t 32) = 6 := by
  have hl : (turnR32 (frameL k b) p t 32).length = b.length + 7 := by rw [turned_len, frameL_len]
  have e := got_frame h1 h2 h3 []
  have hK : kindN (turnR32 (frameL k b) p t 32) = k := by
    unfold kindN
    rw [turned_first hp t (by omega)]
    have := head_kind (k := k) (by omega) b (sumB (crcL (headL k b)))
    exact this
  have hB : bodyN (turnR32 (frameL k b) p t 32) = b.length := by
    unfold bodyN
    rw [turned_first hp t (by omega), turned_first hp t (by omega)]
    have := head_body k (b := b) (by omega) (sumB (crcL (headL k b)))
    exact this
  unfold gotE
  rw [hK, hB, hl, if_neg (by omega), if_neg (by omega), if_neg (by omega), if_neg]
  intro hs
  have hd : ((turnR32 (frameL k b) p t 32).drop (b.length + 3)).take 4 = (turnR32 (frameL k b) p t 32).drop (b.length + 3) := List.take_of_length_le (by rw [List.length_drop, hl]; omega)
  rw [hd] at hs
  rw [frameL_len] at hp
  have hm := headL_len k b
  exact sum_told (m := headL k b) (p := p) (t := t) (m' := (turnR32 (frameL k b) p t 32).take (b.length + 3)) (b' := (turnR32 (frameL k b) p t 32).drop (b.length + 3)) (by rw [hm]; omega) ht (by rw [List.length_take, hl, hm]; omega) (List.take_append_drop _ _) hs.symm
end Go.Proofs.Ytkihanmodfnpcab
