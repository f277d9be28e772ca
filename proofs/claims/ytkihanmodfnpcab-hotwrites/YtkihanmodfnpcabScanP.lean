/- Frames one behind the other: no program in it. -/
import Derived.Test.YtkihanmodfnpcabFrameP
namespace Go.Proofs.Ytkihanmodfnpcab
set_option linter.unusedSimpArgs false
set_option linter.unusedVariables false

/-- a frame: its kind and its body -/
structure Fr where
  k : Int
  t : List UInt8
/-- the frames at the beginning of some bytes, so many at most, and how many bytes they have -/
def scanN : Nat → List UInt8 → List Fr × Nat
  | 0, _ => ([], 0)
  | n + 1, l => if gotE l = 0 then (⟨(gotK l : Int), gotB l⟩ :: (scanN n (l.drop (gotN l))).1, gotN l + (scanN n (l.drop (gotN l))).2) else ([], 0)
def scanL (l : List UInt8) : List Fr × Nat := scanN l.length l
theorem scanN_more : ∀ (n : Nat) (l : List UInt8), l.length ≤ n → ∀ m, l.length ≤ m → scanN n l = scanN m l := by
  intro n
  induction n with
  | zero =>
    intro l hl m hm
    have hnil : l = [] := List.length_eq_zero_iff.1 (by omega)
    subst hnil
    cases m with
    | zero => rfl
    | succ m => rfl
  | succ n ih =>
    intro l hl m hm
    cases m with
    | zero =>
      have hnil : l = [] := List.length_eq_zero_iff.1 (by omega)
      subst hnil
      rfl
    | succ m =>
      rw [scanN, scanN]
      by_cases h : gotE l = 0
      · obtain ⟨_, _, _, h4, h5, _⟩ := got_put h
        have hd : (l.drop (gotN l)).length = l.length - gotN l := List.length_drop
        rw [if_pos h, if_pos h, ih (l.drop (gotN l)) (by omega) m (by omega)]
      · rw [if_neg h, if_neg h]
theorem scans_good {l : List UInt8} (h : gotE l = 0) : scanL l = (⟨(gotK l : Int), gotB l⟩ :: (scanL (l.drop (gotN l))).1, gotN l + (scanL (l.drop (gotN l))).2) := by
  obtain ⟨_, _, _, h4, h5, _⟩ := got_put h
  have hd : (l.drop (gotN l)).length = l.length - gotN l := List.length_drop
  unfold scanL
  obtain ⟨n, hn⟩ : ∃ n, l.length = n + 1 := ⟨l.length - 1, by omega⟩
  rw [hn, scanN, if_pos h, scanN_more n (l.drop (gotN l)) (by omega) (l.drop (gotN l)).length (Nat.le_refl _)]
theorem scans_bad {l : List UInt8} (h : gotE l ≠ 0) : scanL l = ([], 0) := by
  unfold scanL
  cases hn : l.length with
  | zero => rfl
  | succ n => rw [scanN, if_neg h]
theorem scan_le : ∀ (n : Nat) (l : List UInt8), l.length ≤ n → (scanL l).2 ≤ l.length ∧ 7 * (scanL l).1.length ≤ (scanL l).2 := by
  intro n
  induction n with
  | zero =>
    intro l hl
    have hnil : l = [] := List.length_eq_zero_iff.1 (by omega)
    subst hnil
    exact ⟨Nat.le_refl _, Nat.le_refl _⟩
  | succ n ih =>
    intro l hl
    by_cases h : gotE l = 0
    · obtain ⟨_, _, _, h4, h5, _⟩ := got_put h
      have hd : (l.drop (gotN l)).length = l.length - gotN l := List.length_drop
      obtain ⟨i1, i2⟩ := ih (l.drop (gotN l)) (by omega)
      rw [scans_good h]
      simp only [List.length_cons]
      omega
    · rw [scans_bad h]
      exact ⟨Nat.zero_le _, Nat.le_refl _⟩
/-- a frame, and frames behind it -/
theorem scan_frame {k : Nat} {b : List UInt8} (h1 : 1 ≤ k) (h2 : k ≤ 255) (h3 : b.length ≤ 4000) (r : List UInt8) : scanL (frameL k b ++ r) = (⟨(k : Int), b⟩ :: (scanL r).1, (frameL k b).length + (scanL r).2) := by
  obtain ⟨e, eK, eB, eN⟩ := got_frame h1 h2 h3 r
  rw [scans_good e, eK, eB, eN, List.drop_left]
/-- frames that may be put, one behind the other; what is no frame stands behind them -/
def frOk (f : Fr) : Bool := decide (putE f.k f.t = 0)
def rowL (l : List Fr) : List UInt8 := l.flatMap (fun f => frameL f.k.toNat f.t)
theorem scan_row {r : List UInt8} (hr : gotE r ≠ 0) : ∀ l : List Fr, (∀ f ∈ l, frOk f = true) → scanL (rowL l ++ r) = (l, (rowL l).length) := by
  intro l
  induction l with
  | nil => intro _; exact scans_bad hr
  | cons f l ih =>
    intro h
    have hf : putE f.k f.t = 0 := by simpa [frOk] using h f (by simp)
    obtain ⟨h1, h2, h3⟩ := putE_ok hf
    have e : rowL (f :: l) ++ r = frameL f.k.toNat f.t ++ (rowL l ++ r) := by simp [rowL, List.append_assoc]
    have e2 : rowL (f :: l) = frameL f.k.toNat f.t ++ rowL l := by simp [rowL]
    rw [e, scan_frame (by omega) (by omega) h3, ih (fun g hg => h g (by simp [hg])), e2, List.length_append]
    have e3 : ((f.k.toNat : Nat) : Int) = f.k := by omega
    simp [e3]
theorem got_nil : gotE [] = 5 := rfl
end Go.Proofs.Ytkihanmodfnpcab
