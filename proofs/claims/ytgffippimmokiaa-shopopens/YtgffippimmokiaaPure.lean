/- What the functions of package part and of the document's own road compute, as plain functions on lists of parts: no program in it. -/
import GoSem.Claim
import Derived.Test.YtgffippimmokiaaRows
import Derived.WalkKit
import Derived.WalkSpells
import Derived.WalkLawsBesides
namespace Go.Proofs.Ytgffippimmokiaa

structure Pt where
  k : Int
  n : Int
  t : ByteArray

def widthI (k n : Int) (t : ByteArray) : Int := if k = 2 then (t.size : Int) else n
def formedB (k n : Int) (t : ByteArray) : Bool := if k = 1 ∨ k = 3 then decide (0 ≤ n) && decide (t.size = 0) else decide (k = 2) && decide (n = 0)
def followB (a k : Int) : Bool := decide (k ≠ a) && !(decide (a = 3) && decide (k = 2))
/-- what is wrong with a part behind one of kind a -/
def stepE (a : Int) (p : Pt) : Int := if (formedB p.k p.n p.t && decide (widthI p.k p.n p.t ≠ 0) && followB a p.k) = true then (if 500 < widthI p.k p.n p.t then 2 else 0) else 3
def scanE : Int → List Pt → Int
  | _, [] => 0
  | a, p :: r => if stepE a p = 0 then scanE p.k r else stepE a p
def inI : List Pt → Int
  | [] => 0
  | p :: r => p.n + inI r
def outI : List Pt → Int
  | [] => 0
  | p :: r => (if p.k = 3 then 0 else p.n + (p.t.size : Int)) + outI r
def sumIn : List Pt → Int
  | [] => 0
  | p :: r => (if p.k = 2 then 0 else widthI p.k p.n p.t) + sumIn r
def sumOut : List Pt → Int
  | [] => 0
  | p :: r => (if p.k = 3 then 0 else widthI p.k p.n p.t) + sumOut r
def partsE (l : List Pt) : Int := if 1600 < l.length then 2 else scanE 0 l
def deltaE (l : List Pt) : Int := if 1600 < l.length then 2 else if scanE 0 l = 0 then (if 500 < inI l ∨ 500 < outI l then 2 else 0) else scanE 0 l
/-- the kind ahead of place i -/
def aheadI (l : List Pt) (i : Nat) : Int := match i with | 0 => 0 | j + 1 => match l[j]? with | some p => p.k | none => 0

def Small (l : List Pt) : Prop := l.length ≤ 1600 ∧ ∀ p ∈ l, 0 ≤ p.n ∧ p.n ≤ 500 ∧ p.t.size ≤ 500

theorem inI_app (a b : List Pt) : inI (a ++ b) = inI a + inI b := by
  induction a with
  | nil => simp [inI]
  | cons p r ih => simp only [List.cons_append, inI, ih]; omega
theorem outI_app (a b : List Pt) : outI (a ++ b) = outI a + outI b := by
  induction a with
  | nil => simp [outI]
  | cons p r ih => simp only [List.cons_append, outI, ih]; omega
theorem sumIn_app (a b : List Pt) : sumIn (a ++ b) = sumIn a + sumIn b := by
  induction a with
  | nil => simp [sumIn]
  | cons p r ih => simp only [List.cons_append, sumIn, ih]; omega
theorem sumOut_app (a b : List Pt) : sumOut (a ++ b) = sumOut a + sumOut b := by
  induction a with
  | nil => simp [sumOut]
  | cons p r ih => simp only [List.cons_append, sumOut, ih]; omega
theorem take_snoc {l : List Pt} {i : Nat} {p : Pt} (h : l[i]? = some p) : l.take (i + 1) = l.take i ++ [p] := by
  obtain ⟨hi, rfl⟩ := List.getElem?_eq_some_iff.1 h
  rw [List.take_succ_eq_append_getElem hi]
theorem inI_snoc {l : List Pt} {i : Nat} {p : Pt} (h : l[i]? = some p) : inI (l.take (i + 1)) = inI (l.take i) + p.n := by
  rw [take_snoc h, inI_app]; simp [inI]
theorem outI_snoc {l : List Pt} {i : Nat} {p : Pt} (h : l[i]? = some p) : outI (l.take (i + 1)) = outI (l.take i) + (if p.k = 3 then 0 else p.n + (p.t.size : Int)) := by
  rw [take_snoc h, outI_app]; simp [outI]
theorem sumIn_snoc {l : List Pt} {i : Nat} {p : Pt} (h : l[i]? = some p) : sumIn (l.take (i + 1)) = sumIn (l.take i) + (if p.k = 2 then 0 else widthI p.k p.n p.t) := by
  rw [take_snoc h, sumIn_app]; simp [sumIn]
theorem sumOut_snoc {l : List Pt} {i : Nat} {p : Pt} (h : l[i]? = some p) : sumOut (l.take (i + 1)) = sumOut (l.take i) + (if p.k = 3 then 0 else widthI p.k p.n p.t) := by
  rw [take_snoc h, sumOut_app]; simp [sumOut]

theorem inI_bd {l : List Pt} (h : ∀ p ∈ l, 0 ≤ p.n ∧ p.n ≤ 500 ∧ p.t.size ≤ 500) : 0 ≤ inI l ∧ inI l ≤ 500 * l.length := by
  induction l with
  | nil => simp [inI]
  | cons p r ih =>
    have h1 := h p (by simp)
    have h2 := ih (fun q hq => h q (by simp [hq]))
    simp only [inI, List.length_cons]; omega
theorem outI_bd {l : List Pt} (h : ∀ p ∈ l, 0 ≤ p.n ∧ p.n ≤ 500 ∧ p.t.size ≤ 500) : 0 ≤ outI l ∧ outI l ≤ 1000 * l.length := by
  induction l with
  | nil => simp [outI]
  | cons p r ih =>
    have h1 := h p (by simp)
    have h2 := ih (fun q hq => h q (by simp [hq]))
    simp only [outI, List.length_cons]; split <;> omega
theorem sumIn_bd {l : List Pt} (h : ∀ p ∈ l, 0 ≤ p.n ∧ p.n ≤ 500 ∧ p.t.size ≤ 500) : 0 ≤ sumIn l ∧ sumIn l ≤ 500 * l.length := by
  induction l with
  | nil => simp [sumIn]
  | cons p r ih =>
    have h1 := h p (by simp)
    have h2 := ih (fun q hq => h q (by simp [hq]))
    simp only [sumIn, widthI, List.length_cons]; split <;> omega
theorem sumOut_bd {l : List Pt} (h : ∀ p ∈ l, 0 ≤ p.n ∧ p.n ≤ 500 ∧ p.t.size ≤ 500) : 0 ≤ sumOut l ∧ sumOut l ≤ 500 * l.length := by
  induction l with
  | nil => simp [sumOut]
  | cons p r ih =>
    have h1 := h p (by simp)
    have h2 := ih (fun q hq => h q (by simp [hq]))
    simp only [sumOut, widthI, List.length_cons]; split <;> (try split) <;> omega
theorem Small.take {l : List Pt} (h : Small l) (i : Nat) : Small (l.take i) :=
  ⟨by have := h.1; simp; omega, fun p hp => h.2 p (List.mem_of_mem_take hp)⟩

theorem drop_cons {l : List Pt} {i : Nat} {p : Pt} (h : l[i]? = some p) : l.drop i = p :: l.drop (i + 1) := by
  obtain ⟨hi, rfl⟩ := List.getElem?_eq_some_iff.1 h
  exact List.drop_eq_getElem_cons hi
theorem scan_stop {l : List Pt} {i : Nat} {p : Pt} {a R : Int} (h : l[i]? = some p) (hR : scanE a (l.drop i) = R) (he : stepE a p ≠ 0) : stepE a p = R := by
  rw [drop_cons h] at hR
  simpa [scanE, he] using hR
theorem scan_on {l : List Pt} {i : Nat} {p : Pt} {a R : Int} (h : l[i]? = some p) (hR : scanE a (l.drop i) = R) (he : stepE a p = 0) : scanE p.k (l.drop (i + 1)) = R := by
  rw [drop_cons h] at hR
  simpa [scanE, he] using hR
theorem step_unformed {a : Int} {p : Pt} (h : formedB p.k p.n p.t = false) : stepE a p = 3 := by simp [stepE, h]
theorem step_none {a : Int} {p : Pt} (h : widthI p.k p.n p.t = 0) : stepE a p = 3 := by simp [stepE, h]
theorem step_behind {a : Int} {p : Pt} (h : followB a p.k = false) : stepE a p = 3 := by simp [stepE, h]
theorem step_great {a : Int} {p : Pt} (h1 : formedB p.k p.n p.t = true) (h2 : widthI p.k p.n p.t ≠ 0) (h3 : followB a p.k = true) (h4 : 500 < widthI p.k p.n p.t) : stepE a p = 2 := by simp [stepE, h1, h2, h3, h4]
theorem step_ok {a : Int} {p : Pt} (h1 : formedB p.k p.n p.t = true) (h2 : widthI p.k p.n p.t ≠ 0) (h3 : followB a p.k = true) (h4 : ¬ 500 < widthI p.k p.n p.t) : stepE a p = 0 := by simp [stepE, h1, h2, h3, h4]

end Go.Proofs.Ytgffippimmokiaa

/- A list of parts as it lies in memory, and what stays of it where nothing old is written. -/
namespace Go.Proofs.Ytgffippimmokiaa
open Go.RowKit
set_option linter.unusedSimpArgs false
set_option linter.unusedVariables false

/-- the parts l lie from address a on, below block B -/
def PartsAt (w : World) (B : Nat) (a : Option Addr) (l : List Pt) : Prop :=
  l.length ≤ 9223372036854775807 ∧ B ≤ w.heap.size ∧ (∀ p ∈ l, p.t.size ≤ 9223372036854775807 ∧ -9223372036854775808 ≤ p.n ∧ p.n ≤ 9223372036854775807 ∧ -9223372036854775808 ≤ p.k ∧ p.k ≤ 9223372036854775807) ∧
  (l ≠ [] → ∃ b off, a = some ⟨b, off, none⟩ ∧ b < B ∧ ∀ i p, l[i]? = some p →
    w.cell? ⟨b, off + i * 3, none⟩ = some (.int .i64 p.k) ∧ w.cell? ⟨b, off + i * 3 + 1, none⟩ = some (.int .i64 p.n) ∧ w.cell? ⟨b, off + i * 3 + 2, none⟩ = some (.string p.t))

theorem PartsAt.below {w w' : World} {B B' : Nat} {a : Option Addr} {l : List Pt} (h : PartsAt w B a l) (hb : Below B' w w') (hB : B ≤ B') : PartsAt w' B a l := by
  obtain ⟨h1, h2, h3, h4⟩ := h
  refine ⟨h1, Nat.le_trans h2 hb.size, h3, fun hn => ?_⟩
  obtain ⟨b, off, ha, hlt, hc⟩ := h4 hn
  have hlt' : b < B' := Nat.lt_of_lt_of_le hlt hB
  refine ⟨b, off, ha, hlt, fun i p hi => ?_⟩
  obtain ⟨c1, c2, c3⟩ := hc i p hi
  exact ⟨(hb.cell (p := ⟨b, _, none⟩) hlt').trans c1, (hb.cell (p := ⟨b, _, none⟩) hlt').trans c2, (hb.cell (p := ⟨b, _, none⟩) hlt').trans c3⟩

theorem PartsAt.mem {w : World} {B : Nat} {a : Option Addr} {l : List Pt} (h : PartsAt w B a l) {i : Nat} {p : Pt} (hi : l[i]? = some p) :
    ∃ b off, a = some ⟨b, off, none⟩ ∧ b < B ∧
    w.cell? ⟨b, off + i * 3, none⟩ = some (.int .i64 p.k) ∧ w.cell? ⟨b, off + i * 3 + 1, none⟩ = some (.int .i64 p.n) ∧ w.cell? ⟨b, off + i * 3 + 2, none⟩ = some (.string p.t) := by
  obtain ⟨_, _, _, h4⟩ := h
  obtain ⟨b, off, ha, hlt, hc⟩ := h4 (fun e => by subst e; simp at hi)
  exact ⟨b, off, ha, hlt, hc i p hi⟩

theorem PartsAt.here {w w' : World} {B B' : Nat} {a : Option Addr} {l : List Pt} (h : PartsAt w B a l) (hb : Below B' w w') (hB : B ≤ B') : PartsAt w' w'.heap.size a l := by
  have h := h.below hb hB
  exact ⟨h.1, Nat.le_refl _, h.2.2.1, fun hn => by
    obtain ⟨b, off, ha, hlt, hc⟩ := h.2.2.2 hn
    exact ⟨b, off, ha, Nat.lt_of_lt_of_le hlt h.2.1, hc⟩⟩

theorem bcell {B : Nat} {W w1 : World} (hb : Below B W w1) : (∀ b o, b < B → w1.cell? ⟨b, o, none⟩ = W.cell? ⟨b, o, none⟩) ∧ (∀ b o, b < B → w1.frozen? ⟨b, o, none⟩ = W.frozen? ⟨b, o, none⟩) :=
  ⟨fun b o h => hb.cell (p := ⟨b, o, none⟩) h, fun b o h => hb.frozen (p := ⟨b, o, none⟩) h⟩
theorem ret_int {k : IntKind} {a b : Int} (h : a = b) : Ending.returned (.int k a) = .returned (.int k b) := by rw [h]
theorem ret_bool {a b : Bool} (h : a = b) : Ending.returned (.bool a) = .returned (.bool b) := by rw [h]

end Go.Proofs.Ytgffippimmokiaa

/- What the small functions of a part answer: its width, whether it is formed, whether it may follow, whether it is right. -/
namespace Go.Proofs.Ytgffippimmokiaa
open Go.RowKit
set_option linter.unusedSimpArgs false
set_option linter.unusedVariables false

set_option maxHeartbeats 400000 in
theorem width_any (k n : Int) (t : ByteArray) (w : World) (_ht : t.size ≤ 9223372036854775807) :
    Calls Try.prog 137 #[.agg #[.int .i64 k, .int .i64 n, .string t]] w fun e w' => e = .returned (.int .i64 (widthI k n t)) ∧ Below w.heap.size w w' := by
  by_cases h : k = 2
  · have hB : (k == 2) = true := by simpa using h
    have H : Hid (k = 2) := h
    clear h
    go_enter Try.func137, Try.ntmps137
    go_wp2
    go_ret
    exact ⟨ret_int (by simp [widthI, H.out]), (Below.refl _ _).alloc (Nat.le_refl _) _⟩
  · have hB : (k == 2) = false := by simpa using h
    have H : Hid (¬ k = 2) := h
    clear h
    go_enter Try.func137, Try.ntmps137
    go_wp2
    go_ret
    exact ⟨ret_int (by have := H.out; simp [widthI, this]), (Below.refl _ _).alloc (Nat.le_refl _) _⟩

theorem empty_size (t : ByteArray) : t.toList.isEmpty = decide (t.size = 0) := by
  rw [ByteArray.toList_eq]
  rcases t with ⟨⟨l⟩⟩
  cases l <;> simp [ByteArray.size]

theorem toList_nil (t : ByteArray) : (t.toList = []) = (t.size = 0) := by
  rw [ByteArray.toList_eq]
  rcases t with ⟨⟨l⟩⟩
  cases l <;> simp [ByteArray.size]

theorem formed_pos {k n : Int} {t : ByteArray} (hk : k = 1 ∨ k = 3) (hn : 0 ≤ n) : t.toList.isEmpty = formedB k n t := by
  simp [formedB, hk, hn, empty_size]
theorem formed_neg {k n : Int} {t : ByteArray} (hk : k = 1 ∨ k = 3) (hn : n < 0) : false = formedB k n t := by
  have : ¬ 0 ≤ n := by omega
  simp [formedB, hk, this]
theorem formed_put {k n : Int} {t : ByteArray} (hk : k = 2) : (n == 0) = formedB k n t := by
  subst hk
  rw [Bool.eq_iff_iff]; simp [formedB]
theorem formed_no {k n : Int} {t : ByteArray} (h1 : k ≠ 1) (h2 : k ≠ 2) (h3 : k ≠ 3) : false = formedB k n t := by
  simp [formedB, h1, h2, h3]

set_option maxHeartbeats 400000 in
theorem formed_any (k n : Int) (t : ByteArray) (w : World) :
    Calls Try.prog 136 #[.agg #[.int .i64 k, .int .i64 n, .string t]] w fun e w' => e = .returned (.bool (formedB k n t)) ∧ Below w.heap.size w w' := by
  go_enter Try.func136, Try.ntmps136
  go_wp2
  all_goals go_ret
  all_goals refine ⟨ret_bool ?_, (Below.refl _ _).alloc (Nat.le_refl _) _⟩
  all_goals (try simp only [beq_iff_eq, beq_eq_false_iff_ne, ne_eq] at *)
  all_goals first | exact formed_pos (by omega) (by omega) | exact formed_neg (by omega) (by omega) | exact formed_put (by omega) | exact formed_no (by omega) (by omega) (by omega)

theorem follow_ne {a k : Int} (h : (k == a) = true) : false = followB a k := by
  simp at h; simp [followB, h]
theorem follow_three {a k : Int} (h1 : (a == 3) = true) (h2 : (k == a) = false) : (!(k == 2)) = followB a k := by
  simp at h1 h2; subst h1; rw [Bool.eq_iff_iff]; simp [followB, h2]
theorem follow_else {a k : Int} (h1 : (a == 3) = false) (h2 : (k == a) = false) : true = followB a k := by
  simp at h1 h2; simp [followB, h1, h2]

set_option maxHeartbeats 400000 in
theorem follow_any (a k : Int) (w : World) :
    Calls Try.prog 138 #[.int .i64 a, .int .i64 k] w fun e w' => e = .returned (.bool (followB a k)) ∧ w' = w := by
  cases h1 : (k == a)
  · have h1' : (k != a) = true := by simp_all
    cases h2 : (a == 3)
    · have H : Hid _ := follow_else h2 h1
      generalize followB a k = r at H
      go_enter Try.func138, Try.ntmps138
      go_wp2
      go_ret
      exact ⟨ret_bool H.out, rfl⟩
    · have H : Hid _ := follow_three h2 h1
      generalize followB a k = r at H
      go_enter Try.func138, Try.ntmps138
      go_wp2
      go_ret
      exact ⟨ret_bool H.out, rfl⟩
  · have h1' : (k != a) = false := by simp_all
    have H : Hid _ := follow_ne h1
    generalize followB a k = r at H
    go_enter Try.func138, Try.ntmps138
    go_wp2
    go_ret
    exact ⟨ret_bool H.out, rfl⟩

def rightE (k n : Int) (t : ByteArray) : Int := if (k = 2 ∧ n = 0 ∧ t.size ≠ 0) ∨ ((k = 1 ∨ k = 3) ∧ 0 < n ∧ t.size = 0) then (if 500 < n ∨ 500 < t.size then 2 else 0) else 3

set_option maxHeartbeats 1000000 in
theorem right_any (k n : Int) (t : ByteArray) (w : World) (_ht : t.size ≤ 9223372036854775807) :
    Calls Try.prog 132 #[.agg #[.int .i64 k, .int .i64 n, .string t]] w fun e w' => e = .returned (.int .i64 (rightE k n t)) ∧ Below w.heap.size w w' := by
  go_enter Try.func132, Try.ntmps132
  go_wp2
  all_goals go_ret
  all_goals refine ⟨ret_int ?_, (Below.refl _ _).alloc (Nat.le_refl _) _⟩
  all_goals (try simp only [beq_iff_eq, beq_eq_false_iff_ne, ne_eq, empty_size, Bool.not_eq_true', decide_eq_false_iff_not, decide_eq_true_eq, Bool.not_eq_false', bne_iff_ne, bne_eq_false_iff_eq, toList_nil] at *)
  all_goals (unfold rightE; split <;> (try split) <;> omega)

end Go.Proofs.Ytgffippimmokiaa

/- What In, Out (the document's road) and sums (package part) answer of parts that are not too great. -/
namespace Go.Proofs.Ytgffippimmokiaa
open Go.RowKit
set_option linter.unusedSimpArgs false
set_option linter.unusedVariables false

set_option maxHeartbeats 400000 in
theorem In_any (a : Option Addr) (l : List Pt) (cap : Nat) (w : World) (hp : PartsAt w w.heap.size a l) (hs : Small l) :
    Calls Try.prog 133 #[.slice a l.length cap] w fun e w' => e = .returned (.int .i64 (inI l)) ∧ Below w.heap.size w w' := by
  have hl := hs.1
  go_enter Try.func133, Try.ntmps133
  go_wp2
  go_loopw [3, 8] (fun n i wr => ∃ k : Nat, k ≤ l.length ∧ i = .int .i64 k ∧ n = .int .i64 (inI (l.take k)) ∧ Below w.heap.size w wr) (fun _ i _ => l.length - (intOf i).toNat)
  case atStart => exact ⟨0, Nat.zero_le _, rfl, rfl, Below.refl _ _⟩
  case round =>
    obtain ⟨k, hk, rfl, rfl, hb⟩ := hrel
    by_cases hlt : k < l.length
    · obtain ⟨p, hpk⟩ : ∃ p, l[k]? = some p := ⟨l[k], List.getElem?_eq_getElem hlt⟩
      have Hsn : Hid _ := inI_snoc hpk
      have hbd := inI_bd (hs.take k).2
      have hpb := hs.2 p (List.mem_of_getElem? hpk)
      have htl : (l.take k).length ≤ 1600 := (hs.take k).1
      obtain ⟨b, off, rfl, hblt, c1, c2, c3⟩ := (hp.below hb (Nat.le_refl _)).mem hpk
      have HB : Hid _ := hb
      have hz := hb.size
      clear hp hs hpk hb
      go_wp2
      go_roundw
      case rel => exact ⟨k + 1, by omega, by go_num, by rw [Hsn.out], HB.out.alloc hz _⟩
      case measure => simp [intOf]; omega
    · go_wp2
      go_ret
      exact ⟨ret_int (by rw [List.take_of_length_le (by omega)]), hb⟩

set_option maxHeartbeats 400000 in
theorem Out_any (a : Option Addr) (l : List Pt) (cap : Nat) (w : World) (hp : PartsAt w w.heap.size a l) (hs : Small l) :
    Calls Try.prog 134 #[.slice a l.length cap] w fun e w' => e = .returned (.int .i64 (outI l)) ∧ Below w.heap.size w w' := by
  have hl := hs.1
  go_enter Try.func134, Try.ntmps134
  go_wp2
  go_loopw [3, 8] (fun n i wr => ∃ k : Nat, k ≤ l.length ∧ i = .int .i64 k ∧ n = .int .i64 (outI (l.take k)) ∧ Below w.heap.size w wr) (fun _ i _ => l.length - (intOf i).toNat)
  case atStart => exact ⟨0, Nat.zero_le _, rfl, rfl, Below.refl _ _⟩
  case round =>
    obtain ⟨k, hk, rfl, rfl, hb⟩ := hrel
    by_cases hlt : k < l.length
    · obtain ⟨p, hpk⟩ : ∃ p, l[k]? = some p := ⟨l[k], List.getElem?_eq_getElem hlt⟩
      have Hsn : Hid _ := outI_snoc hpk
      have hbd := outI_bd (hs.take k).2
      have hpb := hs.2 p (List.mem_of_getElem? hpk)
      have htl : (l.take k).length ≤ 1600 := (hs.take k).1
      obtain ⟨b, off, rfl, hblt, c1, c2, c3⟩ := (hp.below hb (Nat.le_refl _)).mem hpk
      have HB : Hid _ := hb
      have hz := hb.size
      clear hp hs hpk hb
      cases h3 : (p.k == 3)
      · have h3' : (p.k != 3) = true := by simp_all
        have H3 : Hid (¬ p.k = 3) := by show ¬ p.k = 3; simpa using h3
        clear h3
        go_wp2
        go_roundw
        case rel => exact ⟨k + 1, by omega, by go_num, by rw [Hsn.out, if_neg H3.out], HB.out.alloc hz _⟩
        case measure => simp [intOf]; omega
      · have h3' : (p.k != 3) = false := by simp_all
        have H3 : Hid (p.k = 3) := by show p.k = 3; simpa using h3
        clear h3
        go_wp2
        go_roundw
        case rel => exact ⟨k + 1, by omega, by go_num, by rw [Hsn.out, if_pos H3.out]; simp, HB.out.alloc hz _⟩
        case measure => simp [intOf]; omega
    · go_wp2
      go_ret
      exact ⟨ret_int (by rw [List.take_of_length_le (by omega)]), hb⟩

set_option maxHeartbeats 1000000 in
theorem sums_any (a : Option Addr) (l : List Pt) (cap : Nat) (w : World) (hp : PartsAt w w.heap.size a l) (hs : Small l) :
    Calls Try.prog 118 #[.slice a l.length cap] w fun e w' => e = .returned (.tuple #[.int .i64 (sumIn l), .int .i64 (sumOut l)]) ∧ Below w.heap.size w w' := by
  have hl := hs.1
  go_enter Try.func118, Try.ntmps118
  go_wp2
  go_loopw [2, 3, 8] (fun m n i wr => ∃ k : Nat, k ≤ l.length ∧ i = .int .i64 k ∧ m = .int .i64 (sumIn (l.take k)) ∧ n = .int .i64 (sumOut (l.take k)) ∧ Below w.heap.size w wr) (fun _ _ i _ => l.length - (intOf i).toNat)
  case atStart => exact ⟨0, Nat.zero_le _, rfl, rfl, rfl, Below.refl _ _⟩
  case round =>
    obtain ⟨k, hk, rfl, rfl, rfl, hb⟩ := hrel
    by_cases hlt : k < l.length
    · obtain ⟨p, hpk⟩ : ∃ p, l[k]? = some p := ⟨l[k], List.getElem?_eq_getElem hlt⟩
      have Hsn : Hid _ := sumIn_snoc hpk
      have Hsm : Hid _ := sumOut_snoc hpk
      have hbd := sumIn_bd (hs.take k).2
      have hbd' := sumOut_bd (hs.take k).2
      have hpb := hs.2 p (List.mem_of_getElem? hpk)
      have htl : (l.take k).length ≤ 1600 := (hs.take k).1
      have hw1 : 0 ≤ widthI p.k p.n p.t ∧ widthI p.k p.n p.t ≤ 500 := by unfold widthI; split <;> omega
      obtain ⟨b, off, rfl, hblt, c1, c2, c3⟩ := (hp.below hb (Nat.le_refl _)).mem hpk
      have HB : Hid _ := hb
      have hz := hb.size
      clear hp hs hpk hb
      by_cases h3 : p.k = 3
      · have h3' : (p.k != 3) = false := by simp [h3]
        have h2' : (p.k != 2) = true := by simp [h3]
        have H3 : Hid _ := h3
        clear h3
        go_wp2_with fail
        refine (width_any p.k p.n p.t _ (by omega)).mono ?_
        rintro e w1 ⟨rfl, hb1⟩
        obtain ⟨hc, hf⟩ := bcell hb1
        have hz1 : wr.heap.size + 1 ≤ w1.heap.size := by have := hb1.size; simpa using this
        have HB1 : Hid _ := hb1
        clear hb1
        go_wp2_with fail
        go_roundw
        case rel => exact ⟨k + 1, by omega, by go_num, by rw [Hsn.out, if_neg (by rw [H3.out]; omega)], by rw [Hsm.out, if_pos H3.out]; simp, (HB.out.alloc hz _).trans (HB1.out.mono (by simp; omega))⟩
        case measure => simp [intOf]; omega
      · have h3' : (p.k != 3) = true := by simp [h3]
        by_cases h2 : p.k = 2
        · have h2' : (p.k != 2) = false := by simp [h2]
          have H3 : Hid _ := h3
          have H2 : Hid _ := h2
          clear h3 h2
          go_wp2_with fail
          refine (width_any p.k p.n p.t _ (by omega)).mono ?_
          rintro e w1 ⟨rfl, hb1⟩
          obtain ⟨hc, hf⟩ := bcell hb1
          have hz1 : wr.heap.size + 1 ≤ w1.heap.size := by have := hb1.size; simpa using this
          have HB1 : Hid _ := hb1
          clear hb1
          go_wp2_with fail
          go_roundw
          case rel => exact ⟨k + 1, by omega, by go_num, by rw [Hsn.out, if_pos H2.out]; simp, by rw [Hsm.out, if_neg H3.out], (HB.out.alloc hz _).trans (HB1.out.mono (by simp; omega))⟩
          case measure => simp [intOf]; omega
        · have h2' : (p.k != 2) = true := by simp [h2]
          have H3 : Hid _ := h3
          have H2 : Hid _ := h2
          clear h3 h2
          go_wp2_with fail
          refine (width_any p.k p.n p.t _ (by omega)).mono ?_
          rintro e w1 ⟨rfl, hb1⟩
          obtain ⟨hc, hf⟩ := bcell hb1
          have hz1 : wr.heap.size + 1 ≤ w1.heap.size := by have := hb1.size; simpa using this
          have HB1 : Hid _ := hb1
          clear hb1
          go_wp2_with fail
          refine (width_any p.k p.n p.t _ (by omega)).mono ?_
          rintro e w2 ⟨rfl, hb2⟩
          have HB2 : Hid _ := hb2
          clear hb2
          go_wp2_with fail
          go_roundw
          case rel => exact ⟨k + 1, by omega, by go_num, by rw [Hsn.out, if_neg H2.out], by rw [Hsm.out, if_neg H3.out], ((HB.out.alloc hz _).trans (HB1.out.mono (by simp; omega))).trans (HB2.out.mono (by omega))⟩
          case measure => simp [intOf]; omega
    · go_wp2
      go_ret2
      exact ⟨by rw [List.take_of_length_le (by omega)]; rfl, hb⟩

end Go.Proofs.Ytgffippimmokiaa

/- What package part's checkParts answers: the first part that is wrong. -/
namespace Go.Proofs.Ytgffippimmokiaa
open Go.RowKit
set_option linter.unusedSimpArgs false
set_option linter.unusedVariables false

set_option maxHeartbeats 1000000 in
theorem checkParts_any (a : Option Addr) (l : List Pt) (cap : Nat) (w : World) (hp : PartsAt w w.heap.size a l) :
    Calls Try.prog 117 #[.slice a l.length cap] w fun e w' => e = .returned (.int .i64 (partsE l)) ∧ Below w.heap.size w w' := by
  have hl := hp.1
  by_cases hbig : 1600 < l.length
  · have Hpe : Hid (2 = partsE l) := by show 2 = partsE l; simp [partsE, hbig]
    go_enter Try.func117, Try.ntmps117
    go_wp2
    go_ret
    exact ⟨ret_int Hpe.out, Below.refl _ _⟩
  · have Hpe : Hid (scanE 0 l = partsE l) := by show scanE 0 l = partsE l; simp [partsE, hbig]
    go_enter Try.func117, Try.ntmps117
    go_wp2
    go_loopw [3, 11] (fun h i wr => ∃ k : Nat, ∃ ah : Int, k ≤ l.length ∧ i = .int .i64 k ∧ h = .int .i64 ah ∧ scanE ah (l.drop k) = scanE 0 l ∧ Below w.heap.size w wr) (fun _ i _ => l.length - (intOf i).toNat)
    case atStart => exact ⟨0, 0, Nat.zero_le _, rfl, rfl, rfl, Below.refl _ _⟩
    case round =>
      obtain ⟨k, ah, hk, rfl, rfl, hsc, hb⟩ := hrel
      by_cases hlt : k < l.length
      · obtain ⟨p, hpk⟩ : ∃ p, l[k]? = some p := ⟨l[k], List.getElem?_eq_getElem hlt⟩
        have hpb := hp.2.2.1 p (List.mem_of_getElem? hpk)
        obtain ⟨hpb1, hpb2, hpb3, hpb4, hpb5⟩ := hpb
        have Hstop : Hid _ := scan_stop hpk hsc
        have Hon : Hid _ := scan_on hpk hsc
        have HU : Hid _ := @step_unformed ah p
        have HN : Hid _ := @step_none ah p
        have HF : Hid _ := @step_behind ah p
        have HG : Hid _ := @step_great ah p
        have HO : Hid _ := @step_ok ah p
        obtain ⟨b, off, rfl, hblt, c1, c2, c3⟩ := (hp.below hb (Nat.le_refl _)).mem hpk
        have HB : Hid _ := hb
        have hz := hb.size
        clear hp hpk hb hsc
        go_wp2_with fail
        refine (formed_any p.k p.n p.t _).mono ?_
        rintro e w1 ⟨rfl, hb1⟩
        obtain ⟨hc, hf⟩ := bcell hb1
        have hz1 : wr.heap.size + 1 ≤ w1.heap.size := by have := hb1.size; simpa using this
        have HB1 : Hid (Below w.heap.size w w1) := (HB.out.alloc hz _).trans (hb1.mono (by simp; omega))
        clear hb1
        cases hfm : formedB p.k p.n p.t
        · go_wp2_with fail
          go_ret
          exact ⟨ret_int (by rw [← Hpe.out, ← Hstop.out (by rw [HU.out hfm]; omega), HU.out hfm]), HB1.out⟩
        · go_wp2_with fail
          refine (width_any p.k p.n p.t _ (by omega)).mono ?_
          rintro e w2 ⟨rfl, hb2⟩
          have hz2 : wr.heap.size + 1 ≤ w2.heap.size := Nat.le_trans hz1 hb2.size
          have HB2 : Hid (Below w.heap.size w w2) := HB1.out.trans (hb2.mono (by omega))
          have hc2 : ∀ o, w2.cell? ⟨wr.heap.size, o, none⟩ = w1.cell? ⟨wr.heap.size, o, none⟩ := fun o => hb2.cell (p := ⟨wr.heap.size, o, none⟩) (by simp; omega)
          clear hb2
          by_cases hw0 : widthI p.k p.n p.t = 0
          · have hw0' : (widthI p.k p.n p.t == 0) = true := by simpa using hw0
            have HW : Hid _ := hw0
            clear hw0
            go_wp2_with fail
            go_ret
            exact ⟨ret_int (by rw [← Hpe.out, ← Hstop.out (by rw [HN.out HW.out]; omega), HN.out HW.out]), HB2.out⟩
          · have hw0' : (widthI p.k p.n p.t == 0) = false := by simpa using hw0
            have HW : Hid _ := hw0
            clear hw0
            go_wp2_with fail
            refine (follow_any ah p.k _).mono ?_
            rintro e w3 ⟨rfl, rfl⟩
            cases hfo : followB ah p.k
            · go_wp2_with fail
              go_ret
              exact ⟨ret_int (by rw [← Hpe.out, ← Hstop.out (by rw [HF.out hfo]; omega), HF.out hfo]), HB2.out⟩
            · go_wp2_with fail
              refine (width_any p.k p.n p.t _ (by omega)).mono ?_
              rintro e w4 ⟨rfl, hb4⟩
              have hz4 : wr.heap.size + 1 ≤ w4.heap.size := Nat.le_trans hz2 hb4.size
              have HB4 : Hid (Below w.heap.size w w4) := HB2.out.trans (hb4.mono (by omega))
              have hc4 : ∀ o, w4.cell? ⟨wr.heap.size, o, none⟩ = w3.cell? ⟨wr.heap.size, o, none⟩ := fun o => hb4.cell (p := ⟨wr.heap.size, o, none⟩) (by simp; omega)
              clear hb4
              by_cases hg : 500 < widthI p.k p.n p.t
              · go_wp2_with fail
                go_ret
                exact ⟨ret_int (by rw [← Hpe.out, ← Hstop.out (by rw [HG.out hfm HW.out hfo hg]; omega), HG.out hfm HW.out hfo hg]), HB4.out⟩
              · go_wp2_with fail
                go_roundw
                case rel => exact ⟨k + 1, p.k, by omega, by go_num, rfl, Hon.out (HO.out hfm HW.out hfo hg), HB4.out⟩
                case measure => simp [intOf]; omega
      · have hnil : l.drop k = [] := List.drop_eq_nil_of_le (by omega)
        rw [hnil] at hsc
        have Hsc : Hid _ := hsc
        clear hsc hnil
        go_wp2
        go_ret
        exact ⟨ret_int (by rw [← Hpe.out, ← Hsc.out]; rfl), hb⟩

end Go.Proofs.Ytgffippimmokiaa

/- What package part's Sizes and Check answer. -/
namespace Go.Proofs.Ytgffippimmokiaa
open Go.RowKit
set_option linter.unusedSimpArgs false
set_option linter.unusedVariables false

/-- the error of Sizes, and what it tells -/
def sizesE (l : List Pt) : Int := if partsE l = 0 then (if 500 < sumIn l ∨ 500 < sumOut l then 2 else 0) else partsE l
def sizesIn (l : List Pt) : Int := if sizesE l = 0 then sumIn l else 0
def sizesOut (l : List Pt) : Int := if sizesE l = 0 then sumOut l else 0

theorem step_small {a : Int} {p : Pt} (h : stepE a p = 0) : 0 ≤ p.n ∧ p.n ≤ 500 ∧ p.t.size ≤ 500 := by
  unfold stepE at h
  split at h
  · rename_i h1
    simp only [Bool.and_eq_true, decide_eq_true_eq] at h1
    obtain ⟨⟨h1, h2⟩, h3⟩ := h1
    unfold formedB at h1
    split at h
    · omega
    · rename_i h5
      unfold widthI at h5
      split at h1 <;> simp only [Bool.and_eq_true, decide_eq_true_eq] at h1 <;> split at h5 <;> omega
  · omega
theorem scan_small {a : Int} {l : List Pt} (h : scanE a l = 0) : ∀ p ∈ l, 0 ≤ p.n ∧ p.n ≤ 500 ∧ p.t.size ≤ 500 := by
  induction l generalizing a with
  | nil => simp
  | cons q r ih =>
    unfold scanE at h
    split at h
    · rename_i h1
      intro p hp
      rcases List.mem_cons.1 hp with rfl | hp
      · exact step_small h1
      · exact ih h p hp
    · contradiction
theorem parts_small {l : List Pt} (h : partsE l = 0) : Small l := by
  unfold partsE at h
  split at h
  · omega
  · exact ⟨by omega, scan_small h⟩

set_option maxHeartbeats 1000000 in
theorem Sizes_any (a : Option Addr) (l : List Pt) (cap : Nat) (w : World) (hp : PartsAt w w.heap.size a l) :
    Calls Try.prog 93 #[.slice a l.length cap] w fun e w' => e = .returned (.tuple #[.int .i64 (sizesIn l), .int .i64 (sizesOut l), .int .i64 (sizesE l)]) ∧ Below w.heap.size w w' := by
  have HP : Hid (PartsAt w w.heap.size a l) := hp
  clear hp
  go_enter Try.func93, Try.ntmps93
  go_wp2_with fail
  refine (checkParts_any a l cap _ HP.out).mono ?_
  rintro e w1 ⟨rfl, hb1⟩
  by_cases h0 : partsE l = 0
  · have hs := parts_small h0
    have h0' : (partsE l != 0) = false := by simp [h0]
    have HP1 : Hid (PartsAt w1 w1.heap.size a l) := HP.out.here hb1 (Nat.le_refl _)
    have HS : Hid (Small l) := hs
    have H0 : Hid _ := h0
    have HB1 : Hid (Below w.heap.size w w1) := hb1
    have b1 := sumIn_bd hs.2
    have b2 := sumOut_bd hs.2
    have hl := hs.1
    have HSE : Hid (sizesE l = if 500 < sumIn l ∨ 500 < sumOut l then 2 else 0) := by show sizesE l = _; simp [sizesE, h0]
    clear hs h0 hb1
    go_wp2_with fail
    refine (sums_any a l cap _ HP1.out HS.out).mono ?_
    rintro e w2 ⟨rfl, hb2⟩
    have HB2 : Hid (Below w.heap.size w w2) := HB1.out.trans (hb2.mono HB1.out.size)
    clear hb2
    by_cases hi : 500 < sumIn l
    · have HE : Hid (sizesE l = 2) := by show _ = _; rw [HSE.out]; simp [hi]
      go_wp2_with fail
      go_ret3
      exact ⟨by simp [sizesIn, sizesOut, HE.out], HB2.out⟩
    · by_cases ho : 500 < sumOut l
      · have HE : Hid (sizesE l = 2) := by show _ = _; rw [HSE.out]; simp [ho]
        go_wp2_with fail
        go_ret3
        exact ⟨by simp [sizesIn, sizesOut, HE.out], HB2.out⟩
      · have HE : Hid (sizesE l = 0) := by show _ = _; rw [HSE.out]; simp [hi, ho]
        go_wp2_with fail
        go_ret3
        exact ⟨by simp [sizesIn, sizesOut, HE.out], HB2.out⟩
  · have h0' : (partsE l != 0) = true := by simp [h0]
    have HE : Hid (sizesE l = partsE l ∧ partsE l ≠ 0) := ⟨by simp [sizesE, h0], h0⟩
    clear h0
    go_wp2_with fail
    go_ret3
    exact ⟨by simp [sizesIn, sizesOut, HE.out], hb1⟩

set_option maxHeartbeats 400000 in
theorem Check_any (a : Option Addr) (l : List Pt) (cap : Nat) (w : World) (hp : PartsAt w w.heap.size a l) :
    Calls Try.prog 103 #[.slice a l.length cap] w fun e w' => e = .returned (.int .i64 (sizesE l)) ∧ Below w.heap.size w w' := by
  have HP : Hid (PartsAt w w.heap.size a l) := hp
  clear hp
  go_enter Try.func103, Try.ntmps103
  go_wp2_with fail
  refine (Sizes_any a l cap _ HP.out).mono ?_
  rintro e w1 ⟨rfl, hb1⟩
  go_wp2_with fail
  go_ret
  exact ⟨rfl, hb1⟩

end Go.Proofs.Ytgffippimmokiaa
