/- Deltas as bytes: no program in it. -/
import Derived.Test.YtkihanmodfnpcabDelta
import Derived.Test.YtkihanmodfnpcabNumL
namespace Go.Proofs.Ytkihanmodfnpcab
set_option linter.unusedSimpArgs false
set_option linter.unusedVariables false

/-- a delta as bytes -/
def codeN (p : Pt) : Nat := (4 * (p.n + (p.t.size : Int)) + p.k).toNat
def codeP (p : Pt) : List UInt8 := numL (codeN p) ++ p.t.data.toList
def codeL (d : List Pt) : List UInt8 := numL d.length ++ d.flatMap codeP
/-- as many parts are read -/
def parseN : Nat → List UInt8 → Option (List Pt × List UInt8)
  | 0, s => some ([], s)
  | n + 1, s =>
    if getE s = 0 then
      let x := valL (s.take (runN s + 1))
      let r := s.drop (runN s + 1)
      if x % 4 = 2 then
        if x / 4 ≤ r.length then (parseN n (r.drop (x / 4))).map (fun y => (⟨2, 0, ⟨(r.take (x / 4)).toArray⟩⟩ :: y.1, y.2)) else none
      else (parseN n r).map (fun y => (⟨(x % 4 : Nat), (x / 4 : Nat), ByteArray.empty⟩ :: y.1, y.2))
    else none
theorem ba_eta (t : ByteArray) : (⟨t.data.toList.toArray⟩ : ByteArray) = t := by cases t; simp
theorem ba_nil {t : ByteArray} (h : t.size = 0) : t = ByteArray.empty := by
  have : t.data.toList = [] := List.length_eq_zero_iff.1 (by rw [Array.length_toList]; exact h)
  rw [← ba_eta t, this]; rfl
theorem parse_code {d : List Pt} (hR : Right d) (hb : ∀ p ∈ d, p.n ≤ 500 ∧ p.t.size ≤ 500) (more : List UInt8) : parseN d.length (d.flatMap codeP ++ more) = some (d, more) := by
  induction d with
  | nil => rfl
  | cons p r ih =>
    have ih := ih (fun q hq => hR q (List.mem_cons_of_mem _ hq)) (fun q hq => hb q (List.mem_cons_of_mem _ hq))
    obtain ⟨hk, h2, h3, h4⟩ := hR p (by simp)
    obtain ⟨b1, b2⟩ := hb p (by simp)
    have hn : 0 ≤ p.n := by rcases hk with h | h | h <;> first | (have := h2 h; omega) | (have := h3 (by omega); omega)
    have htl : p.t.data.toList.length = p.t.size := Array.length_toList
    have hc : codeN p ≤ 2147483647 := by unfold codeN; omega
    obtain ⟨g1, g2, g3⟩ := num_get hc (p.t.data.toList ++ (r.flatMap codeP ++ more))
    have e : (p :: r).flatMap codeP ++ more = numL (codeN p) ++ (p.t.data.toList ++ (r.flatMap codeP ++ more)) := by
      rw [List.flatMap_cons, codeP]; simp only [List.append_assoc]
    rw [e, List.length_cons, parseN, if_pos g1, g3, g2]
    have hd : (numL (codeN p) ++ (p.t.data.toList ++ (r.flatMap codeP ++ more))).drop (numL (codeN p)).length = p.t.data.toList ++ (r.flatMap codeP ++ more) := by simp
    simp only [hd]
    obtain ⟨k, n, t⟩ := p
    simp only at *
    rcases hk with rfl | rfl | rfl
    · obtain ⟨t0, n0⟩ := h3 (by omega)
      have ht := ba_nil t0
      subst ht
      have hm : codeN ⟨1, n, ByteArray.empty⟩ % 4 = 1 ∧ codeN ⟨1, n, ByteArray.empty⟩ / 4 = n.toNat := by simp [codeN]; omega
      rw [if_neg (by omega), hm.1, hm.2]
      have e0 : ByteArray.empty.data.toList = [] := rfl
      rw [e0, List.nil_append, ih]
      simp only [Option.map_some]
      rw [show ((n.toNat : Nat) : Int) = n by omega]; rfl
    · have n0 := h2 rfl
      subst n0
      have hm : codeN ⟨2, 0, t⟩ % 4 = 2 ∧ codeN ⟨2, 0, t⟩ / 4 = t.size := by simp [codeN]; omega
      rw [if_pos hm.1, hm.2, if_pos (by rw [List.length_append, htl]; omega)]
      have d1 : (t.data.toList ++ (r.flatMap codeP ++ more)).drop t.size = r.flatMap codeP ++ more := by rw [← htl]; simp
      have d2 : (t.data.toList ++ (r.flatMap codeP ++ more)).take t.size = t.data.toList := by rw [← htl]; simp
      rw [d1, d2, ih]
      simp only [Option.map_some, ba_eta]
    · obtain ⟨t0, n0⟩ := h3 (by omega)
      have ht := ba_nil t0
      subst ht
      have hm : codeN ⟨3, n, ByteArray.empty⟩ % 4 = 3 ∧ codeN ⟨3, n, ByteArray.empty⟩ / 4 = n.toNat := by simp [codeN]; omega
      rw [if_neg (by omega), hm.1, hm.2]
      have e0 : ByteArray.empty.data.toList = [] := rfl
      rw [e0, List.nil_append, ih]
      simp only [Option.map_some]
      rw [show ((n.toNat : Nat) : Int) = n by omega]; rfl
/-- whatever stands behind, a delta's bytes are read as that delta -/
def readF (s : List UInt8) : Option (List Pt × List UInt8) := if getE s = 0 then parseN (valL (s.take (runN s + 1))) (s.drop (runN s + 1)) else none
theorem read_code {d : List Pt} (h : sizesE d = 0) (more : List UInt8) : readF (codeL d ++ more) = some (d, more) := by
  obtain ⟨hs, _⟩ := sizes_zero h
  have hl := hs.1
  obtain ⟨g1, g2, g3⟩ := num_get (n := d.length) (by omega) (d.flatMap codeP ++ more)
  rw [codeL, List.append_assoc, readF, if_pos g1, g3, g2]
  have hd : (numL d.length ++ (d.flatMap codeP ++ more)).drop (numL d.length).length = d.flatMap codeP ++ more := by simp
  rw [hd]
  exact parse_code (sizes_right h) (fun p hp => ⟨(hs.2 p hp).2.1, (hs.2 p hp).2.2⟩) more
theorem code_inj {a b : List Pt} (ha : sizesE a = 0) (hb : sizesE b = 0) (h : codeL a = codeL b) : a = b := by
  have h1 := read_code ha []
  have h2 := read_code hb []
  rw [h, h2] at h1
  simpa using h1.symm
theorem code_none {a b : List Pt} (ha : sizesE a = 0) (hb : sizesE b = 0) {r : List UInt8} (h : codeL a = codeL b ++ r) : r = [] := by
  have h1 := read_code ha []
  have h2 := read_code hb r
  rw [List.append_nil, h, h2] at h1
  simp only [Option.some.injEq, Prod.mk.injEq] at h1
  exact h1.2

end Go.Proofs.Ytkihanmodfnpcab
