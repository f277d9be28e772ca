/- Numbers as bytes: no program in it. -/
import GoSem.Claim
import Derived.Test.YtgffippimmokiaaDelta
namespace Go.Proofs.Ytgffippimmokiaa
set_option linter.unusedSimpArgs false
set_option linter.unusedVariables false

def numL (n : Nat) : List UInt8 := if n < 128 then [UInt8.ofNat n] else UInt8.ofNat (128 + n % 128) :: numL (n / 128)
  termination_by n
  decreasing_by omega
theorem num_small {n : Nat} (h : n < 128) : numL n = [UInt8.ofNat n] := by rw [numL, if_pos h]
theorem num_more {n : Nat} (h : ¬ n < 128) : numL n = UInt8.ofNat (128 + n % 128) :: numL (n / 128) := by rw [numL, if_neg h]
/-- seven bits a byte, the lowest first -/
def valL : List UInt8 → Nat
  | [] => 0
  | b :: r => b.toNat % 128 + 128 * valL r
theorem ofNat_toNat {n : Nat} (h : n < 256) : (UInt8.ofNat n).toNat = n := by simp [UInt8.toNat_ofNat']; omega
theorem num_val (n : Nat) : valL (numL n) = n := by
  induction n using Nat.strongRecOn with
  | _ n ih =>
    by_cases h : n < 128
    · rw [num_small h, valL, valL, ofNat_toNat (by omega)]; omega
    · rw [num_more h, valL, ih (n / 128) (by omega), ofNat_toNat (by omega)]; omega
theorem num_inj {a b : Nat} (h : numL a = numL b) : a = b := by rw [← num_val a, ← num_val b, h]
abbrev bigB (b : UInt8) : Bool := decide (128 ≤ b.toNat)
/-- the last byte is below 128, and no other -/
theorem num_shape (n : Nat) : ∃ (r : List UInt8) (b : UInt8), numL n = r ++ [b] ∧ (∀ x ∈ r, bigB x = true) ∧ bigB b = false := by
  induction n using Nat.strongRecOn with
  | _ n ih =>
    by_cases h : n < 128
    · exact ⟨[], UInt8.ofNat n, by rw [num_small h]; rfl, by simp, by simp only [bigB, ofNat_toNat (show n < 256 by omega), decide_eq_false_iff_not]; omega⟩
    · obtain ⟨r, b, h1, h2, h3⟩ := ih (n / 128) (by omega)
      refine ⟨UInt8.ofNat (128 + n % 128) :: r, b, by rw [num_more h, h1]; rfl, ?_, h3⟩
      intro x hx
      rcases List.mem_cons.1 hx with rfl | hx
      · simp only [bigB, ofNat_toNat (show 128 + n % 128 < 256 by omega), decide_eq_true_eq]; omega
      · exact h2 x hx
theorem num_len {n k : Nat} (h : n < 128 ^ (k + 1)) : (numL n).length ≤ k + 1 := by
  induction k generalizing n with
  | zero => rw [num_small (by simpa using h)]; simp
  | succ k ih =>
    by_cases h1 : n < 128
    · rw [num_small h1]; simp
    · rw [num_more h1, List.length_cons]
      have := ih (n := n / 128) (by rw [Nat.pow_succ] at h; omega)
      omega
theorem num_five {n : Nat} (h : n ≤ 2147483647) : (numL n).length ≤ 5 := num_len (k := 4) (by omega)
theorem num_pos (n : Nat) : 0 < (numL n).length := by
  obtain ⟨r, b, h, _⟩ := num_shape n
  rw [h]; simp
theorem num_mono {a b : Nat} (h : a ≤ b) : (numL a).length ≤ (numL b).length := by
  induction b using Nat.strongRecOn generalizing a with
  | _ b ih =>
    by_cases h1 : a < 128
    · rw [num_small h1]; exact num_pos b
    · rw [num_more h1, num_more (n := b) (by omega)]
      have := ih (b / 128) (by omega) (a := a / 128) (by omega)
      simp only [List.length_cons]; omega
/-- as many bytes as it must have -/
def leastN (n : Nat) : Nat := if n < 128 then 1 else leastN (n / 128) + 1
  termination_by n
  decreasing_by omega
theorem num_least (n : Nat) : (numL n).length = leastN n := by
  induction n using Nat.strongRecOn with
  | _ n ih =>
    rw [leastN]
    by_cases h : n < 128
    · rw [num_small h, if_pos h]; rfl
    · rw [num_more h, if_neg h, List.length_cons, ih (n / 128) (by omega)]

/-- what Get tells: 0, or 3 (ErrForm), or 5 (ErrShort) -/
def runN (s : List UInt8) : Nat := (s.takeWhile bigB).length
def getE (s : List UInt8) : Int := if 5 ≤ runN s then 3 else if runN s = s.length then 5 else if valL (s.take (runN s + 1)) ≤ 2147483647 ∧ numL (valL (s.take (runN s + 1))) = s.take (runN s + 1) then 0 else 3
theorem run_le (s : List UInt8) : runN s ≤ s.length := by
  unfold runN
  exact (List.takeWhile_prefix bigB).length_le
theorem run_all {r : List UInt8} (h : ∀ x ∈ r, bigB x = true) : runN r = r.length := by
  induction r with
  | nil => rfl
  | cons x r ih =>
    have := ih (fun y hy => h y (List.mem_cons_of_mem _ hy))
    have hx := h x (by simp)
    simp only [runN, List.takeWhile_cons, hx, if_true, List.length_cons] at this ⊢
    omega
theorem run_stop {r : List UInt8} {b : UInt8} {more : List UInt8} (h : ∀ x ∈ r, bigB x = true) (hb : bigB b = false) : runN (r ++ b :: more) = r.length := by
  induction r with
  | nil => simp [runN, hb]
  | cons x r ih =>
    have := ih (fun y hy => h y (List.mem_cons_of_mem _ hy))
    have hx := h x (by simp)
    simp only [runN, List.cons_append, List.takeWhile_cons, hx, if_true, List.length_cons] at this ⊢
    omega
theorem num_get {n : Nat} (h : n ≤ 2147483647) (more : List UInt8) : getE (numL n ++ more) = 0 ∧ runN (numL n ++ more) + 1 = (numL n).length ∧ valL ((numL n ++ more).take (runN (numL n ++ more) + 1)) = n := by
  obtain ⟨r, b, h1, h2, h3⟩ := num_shape n
  have hr : runN (numL n ++ more) = r.length := by rw [h1, List.append_assoc]; exact run_stop h2 h3
  have hl : (numL n).length = r.length + 1 := by rw [h1]; simp
  have ht : (numL n ++ more).take (runN (numL n ++ more) + 1) = numL n := by rw [hr, ← hl]; simp
  have h5 := num_five h
  refine ⟨?_, by rw [hr, hl], by rw [ht, num_val]⟩
  rw [getE, ht, num_val, if_neg (by omega), if_neg (by simp; omega), if_pos ⟨h, rfl⟩]
theorem num_cut {n : Nat} (h : n ≤ 2147483647) {j : Nat} (hj : j < (numL n).length) : getE ((numL n).take j) = 5 := by
  obtain ⟨r, b, h1, h2, h3⟩ := num_shape n
  have hl : (numL n).length = r.length + 1 := by rw [h1]; simp
  have h5 := num_five h
  have ht : (numL n).take j = r.take j := by rw [h1, List.take_append_of_le_length (by omega)]
  have hr : runN (r.take j) = (r.take j).length := run_all (fun x hx => h2 x (List.mem_of_mem_take hx))
  have hjl : (r.take j).length = j := by simp; omega
  rw [ht, getE, hr, if_neg (by omega), if_pos rfl]

end Go.Proofs.Ytgffippimmokiaa

/- Deltas as bytes: no program in it. -/
namespace Go.Proofs.Ytgffippimmokiaa
set_option linter.unusedSimpArgs false
set_option linter.unusedVariables false

/-- a delta as bytes -/
def codeN (p : Pt) : Nat := (4 * (p.n + (p.t.size : Int)) + p.k).toNat
def codeP (p : Pt) : List UInt8 := numL (codeN p) ++ p.t.data.toList
def codeL (d : List Pt) : List UInt8 := numL d.length ++ d.flatMap codeP
/-- as many parts are read -/
def parseN : Nat → List UInt8 → Option (List Pt × List UInt8)
  | 0, s => some ([], s)
  | n + 1, s =>
    if getE s = 0 then
      let x := valL (s.take (runN s + 1))
      let r := s.drop (runN s + 1)
      if x % 4 = 2 then
        if x / 4 ≤ r.length then (parseN n (r.drop (x / 4))).map (fun y => (⟨2, 0, ⟨(r.take (x / 4)).toArray⟩⟩ :: y.1, y.2)) else none
      else (parseN n r).map (fun y => (⟨(x % 4 : Nat), (x / 4 : Nat), ByteArray.empty⟩ :: y.1, y.2))
    else none
theorem ba_eta (t : ByteArray) : (⟨t.data.toList.toArray⟩ : ByteArray) = t := by cases t; simp
theorem ba_nil {t : ByteArray} (h : t.size = 0) : t = ByteArray.empty := by
  have : t.data.toList = [] := List.length_eq_zero_iff.1 (by rw [Array.length_toList]; exact h)
  rw [← ba_eta t, this]; rfl
theorem parse_code {d : List Pt} (hR : Right d) (hb : ∀ p ∈ d, p.n ≤ 500 ∧ p.t.size ≤ 500) (more : List UInt8) : parseN d.length (d.flatMap codeP ++ more) = some (d, more) := by
  induction d with
  | nil => rfl
  | cons p r ih =>
    have ih := ih (fun q hq => hR q (List.mem_cons_of_mem _ hq)) (fun q hq => hb q (List.mem_cons_of_mem _ hq))
    obtain ⟨hk, h2, h3, h4⟩ := hR p (by simp)
    obtain ⟨b1, b2⟩ := hb p (by simp)
    have hn : 0 ≤ p.n := by rcases hk with h | h | h <;> first | (have := h2 h; omega) | (have := h3 (by omega); omega)
    have htl : p.t.data.toList.length = p.t.size := Array.length_toList
    have hc : codeN p ≤ 2147483647 := by unfold codeN; omega
    obtain ⟨g1, g2, g3⟩ := num_get hc (p.t.data.toList ++ (r.flatMap codeP ++ more))
    have e : (p :: r).flatMap codeP ++ more = numL (codeN p) ++ (p.t.data.toList ++ (r.flatMap codeP ++ more)) := by
      rw [List.flatMap_cons, codeP]; simp only [List.append_assoc]
    rw [e, List.length_cons, parseN, if_pos g1, g3, g2]
    have hd : (numL (codeN p) ++ (p.t.data.toList ++ (r.flatMap codeP ++ more))).drop (numL (codeN p)).length = p.t.data.toList ++ (r.flatMap codeP ++ more) := by simp
    simp only [hd]
    obtain ⟨k, n, t⟩ := p
    simp only at *
    rcases hk with rfl | rfl | rfl
    · obtain ⟨t0, n0⟩ := h3 (by omega)
      have ht := ba_nil t0
      subst ht
      have hm : codeN ⟨1, n, ByteArray.empty⟩ % 4 = 1 ∧ codeN ⟨1, n, ByteArray.empty⟩ / 4 = n.toNat := by simp [codeN]; omega
      rw [if_neg (by omega), hm.1, hm.2]
      have e0 : ByteArray.empty.data.toList = [] := rfl
      rw [e0, List.nil_append, ih]
      simp only [Option.map_some]
      rw [show ((n.toNat : Nat) : Int) = n by omega]; rfl
    · have n0 := h2 rfl
      subst n0
      have hm : codeN ⟨2, 0, t⟩ % 4 = 2 ∧ codeN ⟨2, 0, t⟩ / 4 = t.size := by simp [codeN]; omega
      rw [if_pos hm.1, hm.2, if_pos (by rw [List.length_append, htl]; omega)]
      have d1 : (t.data.toList ++ (r.flatMap codeP ++ more)).drop t.size = r.flatMap codeP ++ more := by rw [← htl]; simp
      have d2 : (t.data.toList ++ (r.flatMap codeP ++ more)).take t.size = t.data.toList := by rw [← htl]; simp
      rw [d1, d2, ih]
      simp only [Option.map_some, ba_eta]
    · obtain ⟨t0, n0⟩ := h3 (by omega)
      have ht := ba_nil t0
      subst ht
      have hm : codeN ⟨3, n, ByteArray.empty⟩ % 4 = 3 ∧ codeN ⟨3, n, ByteArray.empty⟩ / 4 = n.toNat := by simp [codeN]; omega
      rw [if_neg (by omega), hm.1, hm.2]
      have e0 : ByteArray.empty.data.toList = [] := rfl
      rw [e0, List.nil_append, ih]
      simp only [Option.map_some]
      rw [show ((n.toNat : Nat) : Int) = n by omega]; rfl
/-- whatever stands behind, a delta's bytes are read as that delta -/
def readF (s : List UInt8) : Option (List Pt × List UInt8) := if getE s = 0 then parseN (valL (s.take (runN s + 1))) (s.drop (runN s + 1)) else none
theorem read_code {d : List Pt} (h : sizesE d = 0) (more : List UInt8) : readF (codeL d ++ more) = some (d, more) := by
  obtain ⟨hs, _⟩ := sizes_zero h
  have hl := hs.1
  obtain ⟨g1, g2, g3⟩ := num_get (n := d.length) (by omega) (d.flatMap codeP ++ more)
  rw [codeL, List.append_assoc, readF, if_pos g1, g3, g2]
  have hd : (numL d.length ++ (d.flatMap codeP ++ more)).drop (numL d.length).length = d.flatMap codeP ++ more := by simp
  rw [hd]
  exact parse_code (sizes_right h) (fun p hp => ⟨(hs.2 p hp).2.1, (hs.2 p hp).2.2⟩) more
theorem code_inj {a b : List Pt} (ha : sizesE a = 0) (hb : sizesE b = 0) (h : codeL a = codeL b) : a = b := by
  have h1 := read_code ha []
  have h2 := read_code hb []
  rw [h, h2] at h1
  simpa using h1.symm
theorem code_none {a b : List Pt} (ha : sizesE a = 0) (hb : sizesE b = 0) {r : List UInt8} (h : codeL a = codeL b ++ r) : r = [] := by
  have h1 := read_code ha []
  have h2 := read_code hb r
  rw [List.append_nil, h, h2] at h1
  simp only [Option.some.injEq, Prod.mk.injEq] at h1
  exact h1.2

end Go.Proofs.Ytgffippimmokiaa

/- When bytes are a number as it is put: no program in it. -/
namespace Go.Proofs.Ytgffippimmokiaa
set_option linter.unusedSimpArgs false
set_option linter.unusedVariables false

theorem val_snoc (l : List UInt8) (b : UInt8) : valL (l ++ [b]) = valL l + 128 ^ l.length * (b.toNat % 128) := by
  induction l with
  | nil => simp [valL]
  | cons x r ih => rw [List.cons_append, valL, ih, valL, List.length_cons, Nat.pow_succ, Nat.mul_add, Nat.mul_comm (128 ^ r.length) 128, ← Nat.mul_assoc, Nat.add_assoc]
theorem val_lt (l : List UInt8) : valL l < 128 ^ l.length := by
  induction l with
  | nil => simp [valL]
  | cons x r ih =>
    rw [valL, List.length_cons, Nat.pow_succ]
    have : x.toNat % 128 < 128 := Nat.mod_lt _ (by omega)
    omega
theorem num_last {n : Nat} {r : List UInt8} {b : UInt8} (h : numL n = r ++ [b]) (hr : r ≠ []) : b.toNat ≠ 0 := by
  induction n using Nat.strongRecOn generalizing r with
  | _ n ih =>
    cases r with
    | nil => exact absurd rfl hr
    | cons y r =>
      by_cases h1 : n < 128
      · rw [num_small h1] at h
        simp at h
      · rw [num_more h1, List.cons_append] at h
        have h2 := (List.cons.inj h).2
        by_cases hr' : r = []
        · subst hr'
          intro h0
          have h3 := congrArg valL h2
          rw [num_val] at h3
          simp [valL, h0] at h3
          omega
        · exact ih (n / 128) (by omega) h2 hr'
theorem num_of {r : List UInt8} {b : UInt8} (hr : ∀ x ∈ r, bigB x = true) (hb : bigB b = false) (h0 : r = [] ∨ b.toNat ≠ 0) : numL (valL (r ++ [b])) = r ++ [b] := by
  have hb' : b.toNat < 128 := by simpa [bigB] using hb
  induction r with
  | nil =>
    rw [List.nil_append, valL, valL, num_small (by omega), Nat.mul_zero, Nat.add_zero, Nat.mod_eq_of_lt hb']
    simp
  | cons x r ih =>
    have hx : 128 ≤ x.toNat := by simpa [bigB] using hr x (by simp)
    have hx2 := UInt8.toNat_lt x
    have hn : b.toNat ≠ 0 := by
      rcases h0 with h | h
      · simp at h
      · exact h
    have hv : 0 < valL (r ++ [b]) := by
      rw [val_snoc]
      have h1 : 0 < 128 ^ r.length := Nat.pow_pos (by omega)
      have h2 : 0 < b.toNat % 128 := by omega
      have := Nat.mul_pos h1 h2
      omega
    have ih := ih (fun y hy => hr y (List.mem_cons_of_mem _ hy)) (.inr hn)
    rw [List.cons_append, valL, num_more (by omega)]
    have e1 : (x.toNat % 128 + 128 * valL (r ++ [b])) / 128 = valL (r ++ [b]) := by omega
    have e2 : 128 + (x.toNat % 128 + 128 * valL (r ++ [b])) % 128 = x.toNat := by omega
    rw [e1, e2, ih]
    simp

/-- the number, and how many bytes it has -/
def getN (s : List UInt8) : Nat := if getE s = 0 then valL (s.take (runN s + 1)) else 0
def getK (s : List UInt8) : Nat := if getE s = 0 then runN s + 1 else 0
theorem get_bad {s : List UInt8} (h : getE s ≠ 0) : getN s = 0 ∧ getK s = 0 := by simp [getN, getK, h]
theorem get_good {s : List UInt8} (h : getE s = 0) : getN s = valL (s.take (runN s + 1)) ∧ getK s = runN s + 1 := by simp [getN, getK, h]
theorem take_snoc8 {l : List UInt8} {i : Nat} {c : UInt8} (h : l[i]? = some c) : l.take (i + 1) = l.take i ++ [c] := by
  rw [List.take_add_one, h]; rfl
theorem drop_cons8 {l : List UInt8} {i : Nat} {c : UInt8} (h : l[i]? = some c) : l.drop i = c :: l.drop (i + 1) := by
  obtain ⟨hi, rfl⟩ := List.getElem?_eq_some_iff.1 h
  exact List.drop_eq_getElem_cons hi
theorem run_here {s : List UInt8} {i : Nat} {c : UInt8} (h : s[i]? = some c) (ha : ∀ x ∈ s.take i, bigB x = true) (hc : bigB c = false) : runN s = i := by
  have h1 := run_stop (more := s.drop (i + 1)) ha hc
  rw [← drop_cons8 h, List.take_append_drop] at h1
  have hi := (List.getElem?_eq_some_iff.1 h).1
  rw [h1, List.length_take]; omega
theorem run_ge {s : List UInt8} {i : Nat} (hi : i ≤ s.length) (ha : ∀ x ∈ s.take i, bigB x = true) : i ≤ runN s := by
  have h2 : ((s.take i ++ s.drop i).takeWhile bigB).length ≥ (s.take i).length := by
    rw [List.takeWhile_append_of_pos ha]; simp
  rw [List.take_append_drop, List.length_take] at h2
  unfold runN; omega
/-- a byte below 128 at place i, none ahead -/
theorem get_stop {s : List UInt8} {i : Nat} {c : UInt8} (h : s[i]? = some c) (hi : i < 5) (ha : ∀ x ∈ s.take i, bigB x = true) (hc : bigB c = false) :
    ((i > 0 ∧ c.toNat = 0) ∨ 2147483647 < valL (s.take (i + 1)) → getE s = 3) ∧ (¬ ((i > 0 ∧ c.toNat = 0) ∨ 2147483647 < valL (s.take (i + 1))) → getE s = 0 ∧ getN s = valL (s.take (i + 1)) ∧ getK s = i + 1) := by
  have hr := run_here h ha hc
  have hil := (List.getElem?_eq_some_iff.1 h).1
  have e : getE s = if valL (s.take (i + 1)) ≤ 2147483647 ∧ numL (valL (s.take (i + 1))) = s.take (i + 1) then 0 else 3 := by
    rw [getE, hr, if_neg (by omega), if_neg (by omega)]
  have et := take_snoc8 h
  have hlen : (s.take i).length = i := by simp; omega
  constructor
  · intro hbad
    rw [e, if_neg]
    rintro ⟨h1, h2⟩
    rcases hbad with ⟨h3, h4⟩ | h3
    · rw [et] at h2
      exact num_last h2 (by intro h5; rw [h5] at hlen; simp at hlen; omega) h4
    · omega
  · intro hok
    have h3 : valL (s.take (i + 1)) ≤ 2147483647 := by omega
    have h4 : numL (valL (s.take (i + 1))) = s.take (i + 1) := by
      rw [et]
      refine num_of ha hc ?_
      by_cases h5 : i = 0
      · left; subst h5; simp
      · right; intro h6; exact hok (.inl ⟨by omega, h6⟩)
    have h0 : getE s = 0 := by rw [e, if_pos ⟨h3, h4⟩]
    obtain ⟨g1, g2⟩ := get_good h0
    rw [hr] at g1 g2
    exact ⟨h0, g1, g2⟩
theorem get_long {s : List UInt8} (hl : 5 ≤ s.length) (ha : ∀ x ∈ s.take 5, bigB x = true) : getE s = 3 := by
  rw [getE, if_pos (run_ge hl ha)]
theorem get_short {s : List UInt8} (hl : s.length < 5) (ha : ∀ x ∈ s.take s.length, bigB x = true) : getE s = 5 := by
  have h := run_ge (Nat.le_refl _) ha
  have h2 := run_le s
  rw [getE, if_neg (by omega), if_pos (by omega)]
theorem all_snoc {s : List UInt8} {i : Nat} {c : UInt8} (h : s[i]? = some c) (ha : ∀ x ∈ s.take i, bigB x = true) (hc : bigB c = true) : ∀ x ∈ s.take (i + 1), bigB x = true := by
  rw [take_snoc8 h]
  intro x hx
  rcases List.mem_append.1 hx with hx | hx
  · exact ha x hx
  · simp at hx; subst hx; exact hc
theorem get_cases (s : List UInt8) : getE s = 0 ∨ getE s = 3 ∨ getE s = 5 := by
  unfold getE
  repeat' split
  all_goals simp
end Go.Proofs.Ytgffippimmokiaa

/- A part at the beginning of bytes: no program in it. -/
namespace Go.Proofs.Ytgffippimmokiaa
set_option linter.unusedSimpArgs false
set_option linter.unusedVariables false

/-- the part at the beginning, and what is behind it -/
def readP (s : List UInt8) : Option (Pt × List UInt8) :=
  if getE s = 0 then
    if getN s % 4 = 2 then
      if getN s / 4 ≤ (s.drop (getK s)).length then some (⟨2, 0, ⟨((s.drop (getK s)).take (getN s / 4)).toArray⟩⟩, (s.drop (getK s)).drop (getN s / 4)) else none
    else some (⟨(getN s % 4 : Nat), (getN s / 4 : Nat), ⟨#[]⟩⟩, s.drop (getK s))
  else none
theorem parse_step (n : Nat) (s : List UInt8) : parseN (n + 1) s = (readP s).bind (fun x => (parseN n x.2).map (fun y => (x.1 :: y.1, y.2))) := by
  rw [parseN, readP]
  by_cases h : getE s = 0
  · obtain ⟨g1, g2⟩ := get_good h
    rw [if_pos h, if_pos h, g1, g2]
    simp only
    split
    · split
      · simp
      · simp
    · simp; rfl
  · rw [if_neg h, if_neg h]; rfl
theorem get_le {s : List UInt8} (h : getE s = 0) : 0 < getK s ∧ getK s ≤ s.length ∧ getN s ≤ 2147483647 := by
  obtain ⟨g1, g2⟩ := get_good h
  have h1 := run_le s
  unfold getE at h
  split at h
  · omega
  · split at h
    · omega
    · split at h
      · rename_i h2 h3 h4
        rw [g1, g2]
        exact ⟨by omega, by omega, h4.1⟩
      · omega
theorem readP_len {s : List UInt8} {p : Pt} {r : List UInt8} (h : readP s = some (p, r)) : r.length < s.length ∧ 0 ≤ p.n ∧ p.n ≤ 2147483647 ∧ p.t.size ≤ s.length ∧ 0 ≤ p.k ∧ p.k ≤ 3 := by
  unfold readP at h
  split at h
  · rename_i h0
    obtain ⟨h1, h2, h3⟩ := get_le h0
    split at h
    · split at h
      · rename_i h4
        simp only [Option.some.injEq, Prod.mk.injEq] at h
        obtain ⟨rfl, rfl⟩ := h
        rw [List.length_drop] at h4
        refine ⟨by simp only [List.length_drop]; omega, by simp, by simp, ?_, by simp, by simp⟩
        show Array.size _ ≤ _
        simp; omega
      · simp at h
    · simp only [Option.some.injEq, Prod.mk.injEq] at h
      obtain ⟨rfl, rfl⟩ := h
      refine ⟨by simp only [List.length_drop]; omega, by simp; omega, by simp; omega, ?_, by simp; omega, by simp; omega⟩
      show 0 ≤ _
      omega
  · simp at h
end Go.Proofs.Ytgffippimmokiaa

/- What is read of bytes is just what is written as them: no program in it. -/
namespace Go.Proofs.Ytgffippimmokiaa
set_option linter.unusedSimpArgs false
set_option linter.unusedVariables false

theorem get_bytes {s : List UInt8} (h : getE s = 0) : numL (getN s) = s.take (getK s) := by
  obtain ⟨g1, g2⟩ := get_good h
  unfold getE at h
  split at h
  · omega
  · split at h
    · omega
    · split at h
      · rename_i h4
        rw [g1, g2]; exact h4.2
      · omega
theorem readP_sound {s : List UInt8} {p : Pt} {r : List UInt8} (h : readP s = some (p, r)) : s = codeP p ++ r := by
  unfold readP at h
  split at h
  · rename_i h0
    have hb := get_bytes h0
    have hsp : s = s.take (getK s) ++ s.drop (getK s) := (List.take_append_drop _ _).symm
    split at h
    · rename_i h2
      split at h
      · rename_i h4
        simp only [Option.some.injEq, Prod.mk.injEq] at h
        obtain ⟨rfl, rfl⟩ := h
        have hc : codeN ⟨2, 0, ⟨((s.drop (getK s)).take (getN s / 4)).toArray⟩⟩ = getN s := by
          have hz : (⟨((s.drop (getK s)).take (getN s / 4)).toArray⟩ : ByteArray).size = getN s / 4 := by
            show Array.size _ = _
            rw [List.size_toArray, List.length_take]; omega
          unfold codeN
          simp only [hz]; omega
        rw [codeP, hc, hb, List.append_assoc]
        show s = s.take (getK s) ++ ((s.drop (getK s)).take (getN s / 4) ++ (s.drop (getK s)).drop (getN s / 4))
        rw [List.take_append_drop]; exact hsp
      · simp at h
    · simp only [Option.some.injEq, Prod.mk.injEq] at h
      obtain ⟨rfl, rfl⟩ := h
      have hc : codeN ⟨(getN s % 4 : Nat), (getN s / 4 : Nat), ⟨#[]⟩⟩ = getN s := by
        have hz : (⟨#[]⟩ : ByteArray).size = 0 := rfl
        unfold codeN
        simp only [hz]; omega
      rw [codeP, hc, hb]
      show s = (s.take (getK s) ++ []) ++ s.drop (getK s)
      rw [List.append_nil]; exact hsp
  · simp at h
theorem parse_sound {n : Nat} {s : List UInt8} {d : List Pt} {r : List UInt8} (h : parseN n s = some (d, r)) : s = d.flatMap codeP ++ r ∧ d.length = n := by
  induction n generalizing s d with
  | zero =>
    simp only [parseN, Option.some.injEq, Prod.mk.injEq] at h
    obtain ⟨rfl, rfl⟩ := h
    exact ⟨rfl, rfl⟩
  | succ n ih =>
    rw [parse_step] at h
    cases hp : readP s with
    | none => rw [hp] at h; simp at h
    | some y =>
      obtain ⟨p, t⟩ := y
      rw [hp] at h
      simp only [Option.bind_some] at h
      cases hq : parseN n t with
      | none => rw [hq] at h; simp at h
      | some z =>
        obtain ⟨d2, r2⟩ := z
        rw [hq] at h
        simp only [Option.map_some, Option.some.injEq, Prod.mk.injEq] at h
        obtain ⟨rfl, rfl⟩ := h
        obtain ⟨h1, h2⟩ := ih hq
        exact ⟨by rw [readP_sound hp, h1, List.flatMap_cons, List.append_assoc], by rw [List.length_cons, h2]⟩

/-- the delta of which these are the bytes -/
def IsCode (l : List UInt8) (d : List Pt) : Prop := sizesE d = 0 ∧ codeL d = l
theorem code_parse {l : List UInt8} {d : List Pt} (h : IsCode l d) : getE l = 0 ∧ getN l = d.length ∧ parseN (getN l) (l.drop (getK l)) = some (d, []) ∧ d.length ≤ 1600 := by
  obtain ⟨h0, rfl⟩ := h
  have hr := read_code h0 []
  rw [List.append_nil, readF] at hr
  have hl := (sizes_zero h0).1.1
  split at hr
  · rename_i h1
    obtain ⟨g1, g2⟩ := get_good h1
    rw [← g1, ← g2] at hr
    exact ⟨h1, (parse_sound hr).2.symm, hr, hl⟩
  · simp at hr
theorem parse_code_of {l : List UInt8} {d : List Pt} (h0 : getE l = 0) (hp : parseN (getN l) (l.drop (getK l)) = some (d, [])) (hz : sizesE d = 0) : IsCode l d := by
  obtain ⟨h1, h2⟩ := parse_sound hp
  refine ⟨hz, ?_⟩
  rw [codeL, h2, get_bytes h0]
  rw [List.append_nil] at h1
  rw [← h1, List.take_append_drop]
theorem code_uniq {l : List UInt8} {a b : List Pt} (ha : IsCode l a) (hb : IsCode l b) : a = b := code_inj ha.1 hb.1 (ha.2.trans hb.2.symm)
end Go.Proofs.Ytgffippimmokiaa
