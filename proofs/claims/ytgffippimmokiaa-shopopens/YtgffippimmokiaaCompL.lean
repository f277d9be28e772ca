/- What slices.Equal of two lists of parts, and Same, answer. -/
import Derived.Test.YtgffippimmokiaaPure
import Derived.Laws.StructEq
import Derived.Deep.QuietTactic
import Derived.BigQuiet
import Derived.Test.YtgffippimmokiaaLoose
import Derived.Test.YtgffippimmokiaaDelta
import Derived.Test.YtgffippimmokiaaWords
namespace Go.Proofs.Ytgffippimmokiaa
open Go.RowKit
set_option linter.unusedSimpArgs false
set_option linter.unusedVariables false

def samePt (p q : Pt) : Bool := p.k == q.k && (p.n == q.n && (p.t.toList == q.t.toList))
theorem samePt_iff (p q : Pt) : samePt p q = true ↔ p = q := by
  obtain ⟨k, n, t⟩ := p
  obtain ⟨k', n', t'⟩ := q
  simp only [samePt, Bool.and_eq_true, beq_iff_eq, ByteArray.toList_eq, Pt.mk.injEq]
  constructor
  · rintro ⟨h1, h2, h3⟩
    refine ⟨h1, h2, ?_⟩
    cases t; cases t'; simp_all
  · rintro ⟨h1, h2, h3⟩
    exact ⟨h1, h2, by rw [h3]⟩

theorem fieldsPart : Try.prog.underlying 138 = some (.struct (Try.prog.fieldsOf 138)) := by kernel_rfl
theorem heldPart : Try.prog.stoodInHeld 138 = false := by kernel_rfl

set_option maxRecDepth 10000 in
theorem run_neq_part (p q : Pt) (w : World) : (binOp .neq 138 (.agg #[.int .i64 p.k, .int .i64 p.n, .string p.t]) (.agg #[.int .i64 q.k, .int .i64 q.n, .string q.t])).run Try.prog w = .ok (.bool (!samePt p q)) w := by
  rw [run_neq_struct, run_equalIn_agg w 9999 138 _ _ fieldsPart heldPart]
  have e1 := Try.underlying3
  have e2 := Try.underlying9
  simp only [Program.fieldsOf, Try.underlying138]
  cases h1 : (p.k == q.k) <;> cases h2 : (p.n == q.n) <;> cases h3 : (p.t.toList == q.t.toList) <;> simp [go_sem, Op.eqFields, part, samePt, h1, h2, h3, Try.underlying3, Try.underlying9]

theorem take_eq_succ {la lb : List Pt} {k : Nat} {p q : Pt} (h : la.take k = lb.take k) (hp : la[k]? = some p) (hq : lb[k]? = some q) (e : p = q) : la.take (k + 1) = lb.take (k + 1) := by
  rw [take_snoc hp, take_snoc hq, h, e]
theorem take_ne {la lb : List Pt} {k : Nat} {p q : Pt} (hp : la[k]? = some p) (hq : lb[k]? = some q) (e : p ≠ q) : la ≠ lb := by
  intro h; subst h; rw [hp] at hq; exact e (Option.some.inj hq)

set_option maxHeartbeats 1000000 in
theorem Equal_any (a b : Option Addr) (la lb : List Pt) (ca cb : Nat) (w : World) (ha : PartsAt w w.heap.size a la) (hb : PartsAt w w.heap.size b lb) :
    Calls Try.prog 135 #[.slice a la.length ca, .slice b lb.length cb] w fun e w' => ∃ r : Bool, e = .returned (.bool r) ∧ (r = true ↔ la = lb) ∧ Below w.heap.size w w' := by
  have hla := ha.1
  have hlb := hb.1
  by_cases hlen : la.length = lb.length
  · have HL : Hid (la.length = lb.length) := hlen
    have hl' : ((la.length : Int) != (lb.length : Int)) = false := by simp [hlen]
    have hlen2 : la.length ≤ lb.length := by omega
    clear hlen
    go_enter Try.func135, Try.ntmps135
    go_wp2
    go_loopw [13] (fun i wr => ∃ k : Nat, k ≤ la.length ∧ i = .int .i64 k ∧ la.take k = lb.take k ∧ Below w.heap.size w wr) (fun i _ => la.length - (intOf i).toNat)
    case atStart => exact ⟨0, Nat.zero_le _, rfl, by simp, Below.refl _ _⟩
    case round =>
      obtain ⟨k, hk, rfl, htk, hbe⟩ := hrel
      by_cases hlt : k < la.length
      · obtain ⟨p, hpk⟩ : ∃ p, la[k]? = some p := ⟨la[k], List.getElem?_eq_getElem hlt⟩
        obtain ⟨q, hqk⟩ : ∃ q, lb[k]? = some q := ⟨lb[k]'(by omega), List.getElem?_eq_getElem _⟩
        obtain ⟨b1, o1, rfl, hb1, c1, c2, c3⟩ := (ha.below hbe (Nat.le_refl _)).mem hpk
        obtain ⟨b2, o2, rfl, hb2, d1, d2, d3⟩ := (hb.below hbe (Nat.le_refl _)).mem hqk
        have hneq := run_neq_part p q
        have hkb : (k : Int) < (lb.length : Int) := by omega
        have HT : Hid _ := htk
        have HP : Hid _ := hpk
        have HQ : Hid _ := hqk
        have HB : Hid (Below w.heap.size w wr) := hbe
        clear htk hpk hqk ha hb hbe
        by_cases hpq : p = q
        · have hs : samePt p q = true := (samePt_iff p q).2 hpq
          have HPQ : Hid _ := hpq
          clear hpq
          go_wp2_with fail
          go_quiet (fail)
          go_wp2_with fail
          go_roundw
          case rel => exact ⟨k + 1, by omega, by go_num, take_eq_succ HT.out HP.out HQ.out HPQ.out, below_drewN HB.out _⟩
          case measure => simp [intOf]; omega
        · have hs : samePt p q = false := by
            cases h : samePt p q
            · rfl
            · exact absurd ((samePt_iff p q).1 h) hpq
          have HPQ : Hid _ := hpq
          clear hpq
          go_wp2_with fail
          go_quiet (fail)
          go_wp2_with fail
          go_ret
          exact ⟨false, rfl, by simpa using take_ne HP.out HQ.out HPQ.out, below_drewN HB.out _⟩
      · have HE : Hid (la = lb) := by
          show _ = _
          have h1 : la.take k = la := List.take_of_length_le (by omega)
          have h2 : lb.take k = lb := List.take_of_length_le (by have := HL.out; omega)
          rw [h1, h2] at htk; exact htk
        clear htk
        go_wp2_with fail
        go_ret
        exact ⟨true, rfl, by simp [HE.out], hbe⟩
  · have hl' : ((la.length : Int) != (lb.length : Int)) = true := by simp; omega
    have HL : Hid (¬ la = lb) := fun e => hlen (by rw [e])
    clear hlen
    go_enter Try.func135, Try.ntmps135
    go_wp2
    go_ret
    exact ⟨false, rfl, by simpa using HL.out, Below.refl _ _⟩

set_option maxHeartbeats 400000 in
theorem Same_any (a b : Option Addr) (la lb : List Pt) (ca cb : Nat) (w : World) (ha : PartsAt w w.heap.size a la) (hb : PartsAt w w.heap.size b lb) :
    Calls Try.prog 116 #[.slice a la.length ca, .slice b lb.length cb] w fun e w' => ∃ r : Bool, e = .returned (.bool r) ∧ (r = true ↔ la = lb) ∧ Below w.heap.size w w' := by
  have HA : Hid (PartsAt w w.heap.size a la) := ha
  have HB : Hid (PartsAt w w.heap.size b lb) := hb
  clear ha hb
  go_enter Try.func116, Try.ntmps116
  go_wp2_with fail
  refine (Equal_any a b la lb ca cb _ HA.out HB.out).mono ?_
  rintro e w1 ⟨r, rfl, hr, hb⟩
  have HR : Hid _ := hr
  clear hr
  go_wp2_with fail
  go_ret
  exact ⟨r, rfl, HR.out, hb⟩

theorem Same_yes (a b : Option Addr) (la : List Pt) (ca cb : Nat) (w : World) (ha : PartsAt w w.heap.size a la) (hb : PartsAt w w.heap.size b la) :
    Calls Try.prog 116 #[.slice a la.length ca, .slice b la.length cb] w fun e w' => e = .returned (.bool true) ∧ Below w.heap.size w w' := by
  refine (Same_any a b la la ca cb w ha hb).mono ?_
  rintro e w1 ⟨r, rfl, hr, hb⟩
  have : r = true := hr.2 rfl
  exact ⟨by rw [this], hb⟩

end Go.Proofs.Ytgffippimmokiaa

/- The law PartOnce, walked: it answers true. -/
namespace Go.Proofs.Ytgffippimmokiaa
open Go.RowKit
set_option linter.unusedSimpArgs false
set_option linter.unusedVariables false

theorem step_loose {a : Int} {p : Pt} (h : stepE a p = 0) : looseP p = 0 := by
  unfold stepE at h
  split at h
  · rename_i h1
    simp only [Bool.and_eq_true] at h1
    unfold looseP
    rw [if_pos h1.1.1]
    exact h
  · omega
theorem scan_loose {a : Int} {l : List Pt} (h : scanE a l = 0) : looseS l = 0 := by
  induction l generalizing a with
  | nil => rfl
  | cons p r ih =>
    unfold scanE at h
    split at h
    · unfold looseS
      rw [if_pos (step_loose (by assumption))]
      exact ih h
    · contradiction
theorem sizes_scan {l : List Pt} (h : sizesE l = 0) : l.length ≤ 1600 ∧ scanE 0 l = 0 := by
  have h0 : partsE l = 0 := by
    unfold sizesE at h
    split at h
    · assumption
    · contradiction
  unfold partsE at h0
  split at h0
  · omega
  · exact ⟨by omega, h0⟩
theorem norm_delta {l : List Pt} (h : sizesE l = 0) : normE l = 0 ∧ normL l = l := by
  obtain ⟨h1, h2⟩ := sizes_scan h
  have h3 : looseE l = 0 := by unfold looseE; rw [if_neg (by omega)]; exact scan_loose h2
  have h4 := norm_self h2
  have h5 : normE l = 0 := by rw [normE, if_pos h3, h4, if_pos h]
  exact ⟨h5, by rw [normL, if_pos h5, h4]⟩
theorem norm_zero {l : List Pt} (h : normE l = 0) : looseE l = 0 ∧ sizesE (normL l) = 0 ∧ normL l = gatherL l := by
  have h1 : looseE l = 0 := by
    unfold normE at h
    split at h
    · assumption
    · contradiction
  have h2 : sizesE (gatherL l) = 0 := by
    rw [normE, if_pos h1] at h
    split at h
    · assumption
    · omega
  have h3 : normL l = gatherL l := by rw [normL, if_pos h]
  exact ⟨h1, by rw [h3]; exact h2, h3⟩
theorem norm_in {l : List Pt} (h : normE l = 0) : Small l ∧ sizesIn (normL l) = inI l := by
  obtain ⟨h1, h2, h3⟩ := norm_zero h
  obtain ⟨hs, hk⟩ := loose_small h1
  refine ⟨hs, ?_⟩
  rw [(sizes_zero h2).2.1, h3]
  exact gather_in (fun p hp => ⟨(hs.2 p hp).1, (hk p hp).2⟩)

def lit4 : List Pt := [⟨3, 1, ByteArray.empty⟩, ⟨2, 0, ⟨#[97]⟩⟩, ⟨1, 0, ByteArray.empty⟩, ⟨3, 2, ByteArray.empty⟩]
def lit2 : List Pt := [⟨2, 0, ⟨#[97]⟩⟩, ⟨3, 3, ByteArray.empty⟩]
theorem lit4_bound : Bound lit4 := by
  refine ⟨by decide, ?_⟩
  intro p hp
  simp only [lit4, List.mem_cons, List.mem_nil_iff, or_false] at hp
  rcases hp with rfl | rfl | rfl | rfl <;> decide
theorem lit2_bound : Bound lit2 := by
  refine ⟨by decide, ?_⟩
  intro p hp
  simp only [lit2, List.mem_cons, List.mem_nil_iff, or_false] at hp
  rcases hp with rfl | rfl <;> decide
theorem lit4_norm : normE lit4 = 0 ∧ normL lit4 = lit2 := by
  have h1 : looseE lit4 = 0 := by decide
  have h2 : gatherL lit4 = lit2 := rfl
  have h3 : sizesE lit2 = 0 := by decide
  have h4 : normE lit4 = 0 := by rw [normE, if_pos h1, h2, if_pos h3]
  exact ⟨h4, by rw [normL, if_pos h4, h2]⟩


end Go.Proofs.Ytgffippimmokiaa

/- Two deltas as one, and a delta the other way, as lists of parts: that they are deltas, and their laws: no program in it. -/
namespace Go.Proofs.Ytgffippimmokiaa
set_option linter.unusedSimpArgs false
set_option linter.unusedVariables false

def Good (l : List Pt) : Prop := ∀ p ∈ l, (p.k = 1 ∨ p.k = 2 ∨ p.k = 3) ∧ 0 ≤ p.n ∧ (p.k = 2 → p.n = 0) ∧ (p.k ≠ 2 → p.t.size = 0)
theorem Good.tail {p : Pt} {r : List Pt} (h : Good (p :: r)) : Good r := fun q hq => h q (List.mem_cons_of_mem _ hq)
theorem Good.app {a b : List Pt} (h : Good a) (h' : Good b) : Good (a ++ b) := fun p hp => by
  rcases List.mem_append.1 hp with h1 | h1
  · exact h p h1
  · exact h' p h1
theorem Good.kinds {l : List Pt} (h : Good l) : Kinds l := fun p hp => ⟨(h p hp).2.1, (h p hp).1⟩

theorem inW_rep (n : Nat) (w : List Tok) : inW (List.replicate n .K ++ w) = n + inW w ∧ inW (List.replicate n .X ++ w) = n + inW w := by
  induction n with
  | zero => simp
  | succ n ih => simp only [List.replicate_succ, List.cons_append, inW]; omega
theorem outW_rep (n : Nat) (w : List Tok) : outW (List.replicate n .K ++ w) = n + outW w ∧ outW (List.replicate n .X ++ w) = outW w := by
  induction n with
  | zero => simp
  | succ n ih => simp only [List.replicate_succ, List.cons_append, outW]; omega
theorem inW_map (t : List UInt8) (w : List Tok) : inW (t.map .P ++ w) = inW w := by
  induction t with
  | nil => rfl
  | cons c t ih => simpa [inW] using ih
theorem outW_map (t : List UInt8) (w : List Tok) : outW (t.map .P ++ w) = t.length + outW w := by
  induction t with
  | nil => simp
  | cons c t ih => simp only [List.map_cons, List.cons_append, outW, List.length_cons]; omega
theorem doW_repK (n : Nat) (w : List Tok) (x : List UInt8) : doW (List.replicate n .K ++ w) x = x.take n ++ doW w (x.drop n) := by
  induction n generalizing x with
  | zero => simp
  | succ n ih =>
    simp only [List.replicate_succ, List.cons_append, doW, ih]
    cases x <;> simp
theorem doW_repX (n : Nat) (w : List Tok) (x : List UInt8) : doW (List.replicate n .X ++ w) x = doW w (x.drop n) := by
  induction n generalizing x with
  | zero => simp
  | succ n ih =>
    simp only [List.replicate_succ, List.cons_append, doW, ih]
    cases x <;> simp
theorem doW_map (t : List UInt8) (w : List Tok) (x : List UInt8) : doW (t.map .P ++ w) x = t ++ doW w x := by
  induction t with
  | nil => rfl
  | cons c t ih => simp [doW, ih]
theorem doL_word (l : List Pt) (x : List UInt8) : doL l x = doW (wordL l) x := by
  induction l generalizing x with
  | nil => rfl
  | cons p r ih =>
    rw [wordL_cons, doL, wordP]
    split
    · rw [doW_repK, ih]
    · split
      · rw [doW_map, ih]
      · rw [doW_repX, ih]
theorem inI_word {l : List Pt} (h : Good l) : inI l = inW (wordL l) := by
  induction l with
  | nil => rfl
  | cons p r ih =>
    obtain ⟨h1, h2, h3, h4⟩ := h p (by simp)
    rw [wordL_cons, inI, ih h.tail, wordP]
    rcases h1 with h1 | h1 | h1
    · rw [if_pos h1, (inW_rep _ _).1]; omega
    · rw [if_neg (by omega), if_pos h1, inW_map, h3 h1]; omega
    · rw [if_neg (by omega), if_neg (by omega), (inW_rep _ _).2]; omega
theorem outI_word {l : List Pt} (h : Good l) : outI l = outW (wordL l) := by
  induction l with
  | nil => rfl
  | cons p r ih =>
    obtain ⟨h1, h2, h3, h4⟩ := h p (by simp)
    have htl : p.t.data.toList.length = p.t.size := Array.length_toList
    rw [wordL_cons, outI, ih h.tail, wordP]
    rcases h1 with h1 | h1 | h1
    · rw [if_neg (by omega), if_pos h1, (outW_rep _ _).1, h4 (by omega)]; omega
    · rw [if_neg (by omega), if_neg (by omega), if_pos h1, outW_map, h3 h1]; omega
    · rw [if_pos h1, if_neg (by omega), if_neg (by omega), (outW_rep _ _).2]; omega

/-- the form of a word is a delta -/
def endK : Int → List Pt → Int
  | a, [] => a
  | _, p :: r => endK p.k r
theorem endK_app (a : Int) (l r : List Pt) : endK a (l ++ r) = endK (endK a l) r := by
  induction l generalizing a with
  | nil => rfl
  | cons p l ih => exact ih p.k
theorem scan_app {a : Int} {l r : List Pt} : scanE a (l ++ r) = 0 ↔ scanE a l = 0 ∧ scanE (endK a l) r = 0 := by
  induction l generalizing a with
  | nil => simp [scanE, endK]
  | cons p l ih =>
    have e1 : ∀ x : List Pt, scanE a (p :: x) = if stepE a p = 0 then scanE p.k x else stepE a p := fun x => rfl
    rw [List.cons_append, e1, e1]
    show _ ↔ _ ∧ scanE (endK p.k l) r = 0
    by_cases h : stepE a p = 0
    · rw [if_pos h, if_pos h]; exact ih
    · rw [if_neg h, if_neg h]; simp [h]
theorem scan_one {a : Int} {p : Pt} : scanE a [p] = 0 ↔ stepE a p = 0 := by
  unfold scanE
  by_cases h : stepE a p = 0
  · simp [h, scanE]
  · simp [h]
theorem step_put0 {e : Int} {t : List UInt8} (he : e = 0 ∨ e = 1) (h0 : t ≠ []) (h5 : t.length ≤ 500) : stepE e ⟨2, 0, ⟨t.toArray⟩⟩ = 0 := by
  have hs : (⟨t.toArray⟩ : ByteArray).size = t.length := by show (List.toArray t).size = _; simp
  have hp : 0 < t.length := List.length_pos_iff.2 h0
  refine step_ok ?_ ?_ ?_ ?_
  · simp [formedB]
  · simp only [widthI, if_true, hs]; omega
  · simp only [followB, Bool.and_eq_true, decide_eq_true_eq, Bool.not_eq_true', Bool.and_eq_false_iff, decide_eq_false_iff_not]; omega
  · simp only [widthI, if_true, hs]; omega
theorem step_cut0 {e n : Int} (he : e ≠ 3) (h0 : 0 < n) (h5 : n ≤ 500) : stepE e ⟨3, n, ByteArray.empty⟩ = 0 := by
  refine step_ok ?_ ?_ ?_ ?_
  · have : (0 : Int) ≤ n := by omega
    simp [formedB, this]
  · simp [widthI]; omega
  · simp only [followB, Bool.and_eq_true, decide_eq_true_eq, Bool.not_eq_true', Bool.and_eq_false_iff, decide_eq_false_iff_not]; omega
  · simp [widthI]; omega
theorem step_keep0 {e n : Int} (he : e ≠ 1) (h0 : 0 < n) (h5 : n ≤ 500) : stepE e ⟨1, n, ByteArray.empty⟩ = 0 := by
  refine step_ok ?_ ?_ ?_ ?_
  · have : (0 : Int) ≤ n := by omega
    simp [formedB, this]
  · simp [widthI]; omega
  · simp only [followB, Bool.and_eq_true, decide_eq_true_eq, Bool.not_eq_true', Bool.and_eq_false_iff, decide_eq_false_iff_not]; omega
  · simp [widthI]; omega
theorem step_part {a : Int} {p : Pt} (h : stepE a p = 0) : formedB p.k p.n p.t = true ∧ widthI p.k p.n p.t ≠ 0 ∧ followB a p.k = true ∧ ¬ 500 < widthI p.k p.n p.t := by
  unfold stepE at h
  split at h
  · rename_i h1
    simp only [Bool.and_eq_true, decide_eq_true_eq] at h1
    split at h
    · omega
    · rename_i h2; exact ⟨h1.1.1, h1.1.2, h1.2, h2⟩
  · omega
theorem step_bump {e : Int} {p : Pt} (h : stepE e p = 0) (hk : p.k = 1) (h0 : 0 ≤ p.n) (h5 : p.n + 1 ≤ 500) : stepE e ⟨p.k, p.n + 1, p.t⟩ = 0 := by
  obtain ⟨h1, h2, h3, h4⟩ := step_part h
  obtain ⟨k, n, t⟩ := p
  simp only at hk h0 h5 h1 h3 ⊢
  subst hk
  refine step_ok ?_ ?_ h3 ?_
  · unfold formedB at h1 ⊢
    rw [if_pos (Or.inl rfl)] at h1 ⊢
    simp only [Bool.and_eq_true, decide_eq_true_eq] at h1 ⊢
    exact ⟨by omega, h1.2⟩
  · simp [widthI]; omega
  · simp [widthI]; omega
theorem settle_scan {sl : List Pt} {tx : List UInt8} {ct : Int} (h : scanE 0 sl = 0) (he : endK 0 sl = 0 ∨ endK 0 sl = 1) (ht : tx.length ≤ 500) (hc : ct ≤ 500) :
    scanE 0 (settleL sl tx ct) = 0 ∧ (endK 0 (settleL sl tx ct) = 1 → settleL sl tx ct = sl) := by
  unfold settleL
  by_cases h1 : tx = []
  · by_cases h2 : 0 < ct
    · rw [if_pos h1, if_pos h2, List.append_nil]
      refine ⟨scan_app.2 ⟨h, scan_one.2 (step_cut0 (by omega) h2 hc)⟩, fun e => ?_⟩
      rw [endK_app] at e
      simp [endK] at e
    · rw [if_pos h1, if_neg h2, List.append_nil, List.append_nil]
      exact ⟨h, fun _ => rfl⟩
  · have h3 : scanE 0 (sl ++ [⟨2, 0, ⟨tx.toArray⟩⟩]) = 0 := scan_app.2 ⟨h, scan_one.2 (step_put0 he h1 ht)⟩
    have h4 : endK 0 (sl ++ [⟨2, 0, ⟨tx.toArray⟩⟩]) = 2 := by rw [endK_app]; rfl
    by_cases h2 : 0 < ct
    · rw [if_neg h1, if_pos h2]
      refine ⟨scan_app.2 ⟨h3, scan_one.2 (step_cut0 (by omega) h2 hc)⟩, fun e => ?_⟩
      rw [endK_app] at e
      simp [endK] at e
    · rw [if_neg h1, if_neg h2, List.append_nil]
      exact ⟨h3, fun e => by omega⟩
theorem settle_out (sl : List Pt) (tx : List UInt8) (ct : Int) : outI (settleL sl tx ct) = outI sl + tx.length := by
  have hs : (⟨tx.toArray⟩ : ByteArray).size = tx.length := by show (List.toArray tx).size = _; simp
  simp only [settleL, outI_app]
  split <;> split <;> simp [outI, hs, *]
theorem snoc_of {sl : List Pt} {p : Pt} (hp : sl.getLast? = some p) : sl = sl.dropLast ++ [p] := by
  have h2 : sl ≠ [] := fun e => by subst e; simp at hp
  rw [List.getLast?_eq_some_getLast h2] at hp
  have h3 := List.dropLast_concat_getLast h2
  have h4 : sl.getLast h2 = p := Option.some.inj hp
  rw [h4] at h3; exact h3.symm
theorem keep_out (sl : List Pt) (n : Int) : outI (keepL sl n) = outI sl + n := by
  unfold keepL
  split
  · rename_i p hp
    have h1 := snoc_of hp
    split
    · rename_i hk
      have h5 : outI sl = outI sl.dropLast + (p.n + (p.t.size : Int)) := by
        have h6 : outI sl = outI (sl.dropLast ++ [p]) := by rw [← h1]
        rw [h6, outI_app]; simp [outI, hk]
      rw [outI_app, h5]; simp [outI, hk]; omega
    · rw [outI_app]; simp [outI]
  · rw [outI_app]; simp [outI]
theorem whole_in {l : List Pt} (h : Whole l) : 0 ≤ inI l := by
  induction l with
  | nil => simp [inI]
  | cons p r ih =>
    have h1 := h p (by simp)
    have h2 := ih (fun q hq => h q (List.mem_cons_of_mem _ hq))
    simp only [inI]; omega
theorem keep_scan {S : List Pt} (h : scanE 0 S = 0) (hw : Whole S) (h5 : inI S + 1 ≤ 500) : scanE 0 (keepL S 1) = 0 ∧ endK 0 (keepL S 1) = 1 := by
  unfold keepL
  split
  · rename_i p hp
    have h1 := snoc_of hp
    have hd : Whole S.dropLast := fun q hq => hw q (List.dropLast_subset _ hq)
    have hp0 := hw p (List.mem_of_getLast? hp)
    have hge := whole_in hd
    generalize S.dropLast = D at *
    subst h1
    have h2 := scan_app.1 h
    rw [inI_app] at h5
    simp only [inI] at h5
    split
    · rename_i hk
      exact ⟨scan_app.2 ⟨h2.1, scan_one.2 (step_bump (scan_one.1 h2.2) hk hp0 (by omega))⟩, by rw [endK_app]; exact hk⟩
    · rename_i hk
      refine ⟨scan_app.2 ⟨h, scan_one.2 (step_keep0 ?_ (by omega) (by omega))⟩, by rw [endK_app]; rfl⟩
      rw [endK_app]; exact hk
  · rename_i hp
    have : S = [] := by
      cases S with
      | nil => rfl
      | cons q r => simp [List.getLast?_cons] at hp
    subst this
    exact ⟨scan_one.2 (step_keep0 (by omega) (by omega) (by omega)), rfl⟩
theorem canonF_scan (w : List Tok) : ∀ s : GSt, scanE 0 s.sl = 0 → (endK 0 s.sl = 0 ∨ endK 0 s.sl = 1) → Whole s.sl → 0 ≤ outI s.sl → 0 ≤ s.ct → inI s.sl + s.ct + inW w ≤ 500 → outI s.sl + s.tx.length + outW w ≤ 500 → scanE 0 (canonF s w) = 0 := by
  induction w with
  | nil =>
    intro s h1 h2 h3 h4 h5 h6 h7
    have := whole_in h3
    simp only [inW, outW] at h6 h7
    exact (settle_scan (tx := s.tx) (ct := s.ct) h1 h2 (by omega) (by omega)).1
  | cons t w ih =>
    intro s h1 h2 h3 h4 h5 h6 h7
    have hge := whole_in h3
    show scanE 0 (canonF (gTok s t) w) = 0
    cases t using Tok.by3 with
    | K =>
      simp only [inW, outW] at h6 h7
      have hS := settle_scan h1 h2 (tx := s.tx) (ct := s.ct) (by omega) (by omega)
      have hW := settle_whole h3 h5 (tx := s.tx)
      have hin := settle_in s.sl s.tx s.ct h5
      have hout := settle_out s.sl s.tx s.ct
      have hk := keep_scan hS.1 hW (by omega)
      refine ih _ hk.1 (Or.inr hk.2) (keep_whole hW (by omega)) ?_ (by simp [gTok]) ?_ ?_
      · simp only [gTok]; rw [keep_out, hout]; omega
      · simp only [gTok]; rw [keep_in, hin]; omega
      · simp only [gTok, List.length_nil]; rw [keep_out, hout]; omega
    | X =>
      simp only [inW, outW] at h6 h7
      exact ih _ h1 h2 h3 h4 (by simp only [gTok]; omega) (by simp only [gTok]; omega) (by simp only [gTok]; omega)
    | P c =>
      simp only [inW, outW] at h6 h7
      exact ih _ h1 h2 h3 h4 h5 (by simp only [gTok]; omega) (by simp only [gTok, List.length_append, List.length_cons, List.length_nil]; omega)
theorem right_len {l : List Pt} (h : Right l) : 0 ≤ inI l ∧ 0 ≤ outI l ∧ (l.length : Int) ≤ inI l + outI l ∧ ∀ p ∈ l, 0 ≤ p.n ∧ p.n ≤ inI l ∧ (p.t.size : Int) ≤ outI l := by
  induction l with
  | nil => simp [inI, outI]
  | cons p r ih =>
    obtain ⟨i0, i1, i2, i3⟩ := ih (fun q hq => h q (List.mem_cons_of_mem _ hq))
    obtain ⟨h1, h2, h3, h4⟩ := h p (by simp)
    have hn : 0 ≤ p.n ∧ (p.k = 2 → p.n = 0) ∧ (p.k = 2 → 0 < p.t.size) ∧ (p.k ≠ 2 → 0 < p.n ∧ p.t.size = 0) := by
      refine ⟨?_, h2, fun e => Nat.pos_of_ne_zero (h4 e), fun e => ⟨(h3 e).2, (h3 e).1⟩⟩
      by_cases e : p.k = 2
      · have := h2 e; omega
      · have := (h3 e).2; omega
    obtain ⟨n1, n2, n3, n4⟩ := hn
    have ho : 0 ≤ (if p.k = 3 then (0 : Int) else p.n + (p.t.size : Int)) ∧ (1 : Int) ≤ p.n + (if p.k = 3 then (0 : Int) else p.n + (p.t.size : Int)) ∧ (p.t.size : Int) ≤ (if p.k = 3 then (0 : Int) else p.n + (p.t.size : Int)) := by
      split
      · have := n4 (by omega); omega
      · by_cases e : p.k = 2
        · have := n3 e; omega
        · have := n4 e; omega
    simp only [inI, outI, List.length_cons]
    refine ⟨by omega, by omega, by omega, fun q hq => ?_⟩
    rcases List.mem_cons.1 hq with rfl | hq
    · exact ⟨n1, by omega, by omega⟩
    · have := i3 q hq
      omega
theorem sizes_of_scan {l : List Pt} (h : scanE 0 l = 0) (h1 : inI l ≤ 500) (h2 : outI l ≤ 500) : sizesE l = 0 := by
  have hR := right_len (scan_right h)
  obtain ⟨e1, e2⟩ := right_in h
  have hp : partsE l = 0 := by rw [partsE, if_neg (by omega)]; exact h
  rw [sizesE, if_pos hp, e1, e2, if_neg (by omega)]
theorem scan_good {a : Int} {l : List Pt} (h : scanE a l = 0) : Good l := by
  have hR := scan_right h
  have hs := scan_small h
  exact fun p hp => ⟨(hR p hp).1, (hs p hp).1, (hR p hp).2.1, fun e => ((hR p hp).2.2.1 e).1⟩
theorem canon_facts {w : List Tok} (h1 : inW w ≤ 500) (h2 : outW w ≤ 500) : sizesE (canonW w) = 0 ∧ Good (canonW w) ∧ inI (canonW w) = inW w ∧ outI (canonW w) = outW w := by
  have hs := canonF_scan w ⟨[], [], 0⟩ rfl (Or.inl rfl) (by intro p hp; simp at hp) (by simp [outI]) (by simp) (by simp only [inI]; omega) (by simp only [outI, List.length_nil]; omega)
  have hG : Good (canonW w) := scan_good hs
  have hsem := canon_sem w
  have e1 : inI (canonW w) = inW w := by rw [inI_word hG, hsem.ins]
  have e2 : outI (canonW w) = outW w := by rw [outI_word hG, hsem.outs]
  exact ⟨sizes_of_scan hs (by omega) (by omega), hG, e1, e2⟩
theorem delta_facts {l : List Pt} (h : sizesE l = 0) : Good l ∧ canonW (wordL l) = l ∧ inI l = inW (wordL l) ∧ outI l = outW (wordL l) ∧ inW (wordL l) ≤ 500 ∧ outW (wordL l) ≤ 500 := by
  obtain ⟨h1, h2⟩ := sizes_scan h
  have hG := scan_good h2
  have hc : canonW (wordL l) = l := by rw [← gather_canon hG.kinds, norm_self h2]
  have e1 := inI_word hG
  have e2 := outI_word hG
  obtain ⟨r1, r2⟩ := right_in h2
  have hb : ¬ (500 < sumIn l ∨ 500 < sumOut l) := by
    intro hc
    unfold sizesE at h
    split at h
    · omega
    · contradiction
  exact ⟨hG, hc, e1, e2, by omega, by omega⟩

/-- two deltas as one: what the document says -/
def pairsL (l : List Pt) : List (Nat × Nat) := pairsW (wordL l) 0 0
def compL (a b : List Pt) : List Pt := madeL (inI a).toNat (joinP (pairsL a) (pairsL b)) (doL b (doL a (List.replicate (inI a).toNat 63)))
def compE (a b : List Pt) : Int := if sizesE a = 0 then (if sizesE b = 0 then (if outI a = inI b then 0 else 4) else sizesE b) else sizesE a
def compR (a b : List Pt) : List Pt := if compE a b = 0 then compL a b else []
theorem comp_zero {a b : List Pt} (h : compE a b = 0) : sizesE a = 0 ∧ sizesE b = 0 ∧ outI a = inI b := by
  unfold compE at h
  split at h
  · split at h
    · split at h
      · exact ⟨by assumption, by assumption, by assumption⟩
      · omega
    · contradiction
  · contradiction
theorem comp_is {a b : List Pt} (h1 : sizesE a = 0) (h2 : sizesE b = 0) (h3 : outI a = inI b) : compE a b = 0 := by rw [compE, if_pos h1, if_pos h2, if_pos h3]
theorem comp_cmp {a b : List Pt} {r : List Tok} (ha : sizesE a = 0) (hr : Cmp (wordL a) (wordL b) r) : compL a b = canonW r := by
  obtain ⟨_, _, e1, _⟩ := delta_facts ha
  have hn : (inI a).toNat = inW (wordL a) := by omega
  have hx : (List.replicate (inW (wordL a)) (63 : UInt8)).length = inW (wordL a) := by simp
  rw [compL, hn, doL_word, doL_word, pairsL, pairsL, ← hr.prs, ← hr.dos _ hx, ← hr.ins]
  exact canon_made r _ (by simp)
theorem comp_facts {a b : List Pt} (h : compE a b = 0) : ∃ r, Cmp (wordL a) (wordL b) r ∧ compL a b = canonW r ∧ sizesE (compL a b) = 0 ∧ inI (compL a b) = inI a ∧ outI (compL a b) = outI b ∧ compR a b = compL a b ∧ Sem (wordL (compL a b)) r := by
  obtain ⟨h1, h2, h3⟩ := comp_zero h
  obtain ⟨ga, ca, ia, oa, la, ma⟩ := delta_facts h1
  obtain ⟨gb, cb, ib, ob, lb, mb⟩ := delta_facts h2
  obtain ⟨r, hr⟩ := cmp_exists (wordL a) (wordL b) (by omega)
  have e := comp_cmp h1 hr
  obtain ⟨c1, c2, c3, c4⟩ := canon_facts (w := r) (by rw [hr.ins]; exact la) (by rw [hr.outs]; exact mb)
  exact ⟨r, hr, e, by rw [e]; exact c1, by rw [e, c3, hr.ins, ia], by rw [e, c4, hr.outs, ob], by rw [compR, if_pos h], by rw [e]; exact canon_sem r⟩

/-- parts that Norm takes as they are -/
theorem norm_right {J : List Pt} (hR : Right J) (h1 : inI J ≤ 500) (h2 : outI J ≤ 500) : normE J = 0 ∧ normL J = canonW (wordL J) := by
  obtain ⟨r0, r1, r2, r3⟩ := right_len hR
  have hG : Good J := fun p hp => ⟨(hR p hp).1, (r3 p hp).1, (hR p hp).2.1, fun e => ((hR p hp).2.2.1 e).1⟩
  have hl : looseE J = 0 := by
    rw [looseE, if_neg (by omega)]
    have : ∀ p ∈ J, looseP p = 0 := by
      intro p hp
      obtain ⟨g1, g2, g3, g4⟩ := hG p hp
      obtain ⟨b1, b2, b3⟩ := r3 p hp
      unfold looseP
      have hf : formedB p.k p.n p.t = true := by
        unfold formedB
        split
        · have := g4 (by omega); simp [g2, this]
        · have h2k : p.k = 2 := by omega
          simp [h2k, g3 h2k]
      rw [if_pos hf, if_neg]
      unfold widthI
      split <;> omega
    clear r0 r1 r2 r3 h1 h2 hR hG
    induction J with
    | nil => rfl
    | cons p r ih => rw [looseS, if_pos (this p (by simp))]; exact ih (fun q hq => this q (List.mem_cons_of_mem _ hq))
  have hg := gather_canon hG.kinds
  have e1 := inI_word hG
  have e2 := outI_word hG
  obtain ⟨c1, c2, c3, c4⟩ := canon_facts (w := wordL J) (by omega) (by omega)
  have hn : normE J = 0 := by rw [normE, if_pos hl, hg, if_pos c1]
  exact ⟨hn, by rw [normL, if_pos hn, hg]⟩
theorem norm_comp {a b J : List Pt} (h : compE a b = 0) (hJ : Cmp (wordL a) (wordL b) (wordL J)) (hR : Right J) : normE J = 0 ∧ normL J = compL a b := by
  obtain ⟨h1, h2, h3⟩ := comp_zero h
  obtain ⟨ga, ca, ia, oa, la, ma⟩ := delta_facts h1
  obtain ⟨gb, cb, ib, ob, lb, mb⟩ := delta_facts h2
  have hG : Good J := fun p hp => ⟨(hR p hp).1, ((right_len hR).2.2.2 p hp).1, (hR p hp).2.1, fun e => ((hR p hp).2.2.1 e).1⟩
  have hn := norm_right hR (by rw [inI_word hG, hJ.ins]; omega) (by rw [outI_word hG, hJ.outs]; omega)
  exact ⟨hn.1, by rw [hn.2, comp_cmp h1 hJ]⟩

/-- a delta the other way: what the document says -/
def turnL (d : List Pt) (s : List UInt8) : List Pt := madeL (outI d).toNat (swapP (pairsL d)) s
def turnR (d : List Pt) (s : ByteArray) : List Pt := if fitsE d s.size = 0 then turnL d s.data.toList else []
theorem turn_canon {d : List Pt} {s : List UInt8} (h : sizesE d = 0) (hs : (s.length : Int) = inI d) : turnL d s = canonW (turnW (wordL d) s) := by
  obtain ⟨g, c, i, o, l, m⟩ := delta_facts h
  rw [turn_made _ _ (by omega), turnL, pairsL, show (outI d).toNat = outW (wordL d) by omega]
theorem turn_facts {d : List Pt} {s : List UInt8} (h : sizesE d = 0) (hs : (s.length : Int) = inI d) : sizesE (turnL d s) = 0 ∧ inI (turnL d s) = outI d ∧ outI (turnL d s) = inI d ∧ Sem (wordL (turnL d s)) (turnW (wordL d) s) := by
  obtain ⟨g, c, i, o, l, m⟩ := delta_facts h
  have e := turn_canon h hs
  obtain ⟨t1, t2, t3, t4⟩ := turn_props (wordL d) s (by omega)
  obtain ⟨c1, c2, c3, c4⟩ := canon_facts (w := turnW (wordL d) s) (by omega) (by omega)
  rw [e]
  exact ⟨c1, by omega, by omega, canon_sem _⟩

/-- the laws -/
theorem comp_does {a b : List Pt} (h : compE a b = 0) {x : List UInt8} (hx : (x.length : Int) = inI a) : doL (compL a b) x = doL b (doL a x) := by
  obtain ⟨h1, h2, h3⟩ := comp_zero h
  obtain ⟨ga, ca, ia, oa, la, ma⟩ := delta_facts h1
  obtain ⟨r, hr, e, f1, f2, f3, f4, f5⟩ := comp_facts h
  rw [doL_word, doL_word, doL_word, f5.dos x (by rw [f5.ins, hr.ins]; omega), hr.dos x (by omega)]
theorem comp_assoc {a b c : List Pt} (h : compE a b = 0) (h' : compE b c = 0) : compE (compL a b) c = 0 ∧ compE a (compL b c) = 0 ∧ compL (compL a b) c = compL a (compL b c) := by
  obtain ⟨h1, h2, h3⟩ := comp_zero h
  obtain ⟨_, k2, k3⟩ := comp_zero h'
  obtain ⟨x, hx, e, f1, f2, f3, f4, f5⟩ := comp_facts h
  obtain ⟨y, hy, d, g1, g2, g3, g4, g5⟩ := comp_facts h'
  have z1 : compE (compL a b) c = 0 := comp_is f1 k2 (by omega)
  have z2 : compE a (compL b c) = 0 := comp_is h1 g1 (by omega)
  obtain ⟨p, hp, ep, _⟩ := comp_facts z1
  obtain ⟨q, hq, eq, _⟩ := comp_facts z2
  refine ⟨z1, z2, ?_⟩
  rw [ep, eq]
  obtain ⟨p', hp'⟩ := cmp_exists x (wordL c) (by rw [← hp.mid, f5.outs])
  obtain ⟨q', hq'⟩ := cmp_exists (wordL a) y (by rw [hq.mid, g5.ins])
  exact canon_sem_eq (((hp.sem hp' f5 (Sem.rfl' _)).trans (hx.assoc hy hp' hq')).trans (hq'.sem hq (Sem.rfl' _) g5.symm))
def allN (n : Int) : List Pt := if n = 0 then [] else [⟨1, n, ByteArray.empty⟩]
theorem all_word {n : Int} (h : 0 ≤ n) : wordL (allN n) = List.replicate n.toNat .K := by
  unfold allN
  split
  · rename_i e; subst e; rfl
  · simp [wordL, wordP]
theorem all_facts {n : Int} (h : 0 ≤ n) (h5 : n ≤ 500) : sizesE (allN n) = 0 ∧ inI (allN n) = n ∧ outI (allN n) = n := by
  have hi : inI (allN n) = n ∧ outI (allN n) = n := by
    unfold allN
    split
    · rename_i e; subst e; simp [inI, outI]
    · simp [inI, outI]
  refine ⟨sizes_of_scan ?_ (by omega) (by omega), hi⟩
  unfold allN
  split
  · rfl
  · exact scan_one.2 (step_keep0 (by omega) (by omega) h5)
theorem comp_units {a : List Pt} (h : sizesE a = 0) : compE (allN (inI a)) a = 0 ∧ compL (allN (inI a)) a = a ∧ compE a (allN (outI a)) = 0 ∧ compL a (allN (outI a)) = a := by
  obtain ⟨g, c, i, o, l, m⟩ := delta_facts h
  obtain ⟨x1, x2, x3⟩ := all_facts (n := inI a) (by omega) (by omega)
  obtain ⟨y1, y2, y3⟩ := all_facts (n := outI a) (by omega) (by omega)
  refine ⟨comp_is x1 h (by omega), ?_, comp_is h y1 (by omega), ?_⟩
  · have hr : Cmp (wordL (allN (inI a))) (wordL a) (wordL a) := by
      rw [all_word (by omega), show (inI a).toNat = inW (wordL a) by omega]; exact Cmp.unitL _
    rw [comp_cmp x1 hr, c]
  · have hr : Cmp (wordL a) (wordL (allN (outI a))) (wordL a) := by
      rw [all_word (by omega), show (outI a).toNat = outW (wordL a) by omega]; exact Cmp.unitR _
    rw [comp_cmp h hr, c]
theorem turn_back {d : List Pt} {s : List UInt8} (h : sizesE d = 0) (hs : (s.length : Int) = inI d) : doL (turnL d s) (doL d s) = s ∧ turnL (turnL d s) (doL d s) = d ∧ ((doL d s).length : Int) = outI d := by
  obtain ⟨g, c, i, o, l, m⟩ := delta_facts h
  obtain ⟨f1, f2, f3, f4⟩ := turn_facts h hs
  obtain ⟨t1, t2, t3, t4⟩ := turn_props (wordL d) s (by omega)
  have hl : (doL d s).length = outW (wordL d) := by rw [doL_word, doW_len _ _ (by omega)]
  refine ⟨?_, ?_, by omega⟩
  · rw [doL_word (turnL d s), f4.dos _ (by rw [hl, f4.ins, t1]), doL_word, t3]
  · rw [turn_canon f1 (by omega), turn_sem f4 _ (by rw [hl, f4.ins, t1]), doL_word, turn_twice _ _ (by omega), c]
theorem turn_parts {a b : List Pt} {s : List UInt8} (h : compE a b = 0) (hs : (s.length : Int) = inI a) :
    compE (turnL b (doL a s)) (turnL a s) = 0 ∧ turnL (compL a b) s = compL (turnL b (doL a s)) (turnL a s) := by
  obtain ⟨h1, h2, h3⟩ := comp_zero h
  obtain ⟨ga, ca, ia, oa, la, ma⟩ := delta_facts h1
  obtain ⟨gb, cb, ib, ob, lb, mb⟩ := delta_facts h2
  obtain ⟨r, hr, e, f1, f2, f3, f4, f5⟩ := comp_facts h
  have hl : ((doL a s).length : Int) = inI b := by rw [doL_word, doW_len _ _ (by omega)]; omega
  obtain ⟨p1, p2, p3, p4⟩ := turn_facts h1 hs
  obtain ⟨q1, q2, q3, q4⟩ := turn_facts h2 hl
  have z : compE (turnL b (doL a s)) (turnL a s) = 0 := comp_is q1 p1 (by omega)
  obtain ⟨y, hy, ey, _⟩ := comp_facts z
  refine ⟨z, ?_⟩
  obtain ⟨t1, t2, _, _⟩ := turn_props (wordL a) s (by omega)
  obtain ⟨u1, u2, _, _⟩ := turn_props (wordL b) (doL a s) (by omega)
  obtain ⟨y', hy'⟩ := cmp_exists (turnW (wordL b) (doL a s)) (turnW (wordL a) s) (by omega)
  rw [turn_canon f1 (by omega), turn_sem f5 _ (by rw [f5.ins, hr.ins]; omega), ey, canon_sem_eq (hy.sem hy' q4 p4)]
  rw [doL_word] at hy'
  exact turn_cmp hr s (by omega) hy'
/-- one beside the other -/
theorem norm_word {l : List Pt} (h : normE l = 0) : sizesE (normL l) = 0 ∧ Sem (wordL (normL l)) (wordL l) ∧ normL l = canonW (wordL l) ∧ Good l := by
  obtain ⟨n1, n2, n3⟩ := norm_zero h
  obtain ⟨hs, hk⟩ := loose_small n1
  have hx : looseS l = 0 := by
    unfold looseE at n1
    split at n1
    · omega
    · exact n1
  have hG : Good l := fun p hp => by
    obtain ⟨g1, g2, g3, g4, g5, g6⟩ := loose_all hx p hp
    exact ⟨g1, g2, g5, g6⟩
  have e : normL l = canonW (wordL l) := by rw [n3, gather_canon hG.kinds]
  exact ⟨n2, by rw [e]; exact canon_sem _, e, hG⟩
theorem comp_beside {a b c d : List Pt} (h : compE a b = 0) (h' : compE c d = 0) (hac : normE (a ++ c) = 0) (hbd : normE (b ++ d) = 0) (hx : normE (compL a b ++ compL c d) = 0) :
    compE (normL (a ++ c)) (normL (b ++ d)) = 0 ∧ normL (compL a b ++ compL c d) = compL (normL (a ++ c)) (normL (b ++ d)) := by
  obtain ⟨r, hr, e, f1, f2, f3, f4, f5⟩ := comp_facts h
  obtain ⟨t, ht, e', g1, g2, g3, g4, g5⟩ := comp_facts h'
  obtain ⟨m1, m2, m3, m4⟩ := norm_word hac
  obtain ⟨n1, n2, n3, n4⟩ := norm_word hbd
  obtain ⟨o1, o2, o3, o4⟩ := norm_word hx
  obtain ⟨_, _, mi, mo, _, _⟩ := delta_facts m1
  obtain ⟨_, _, ni, no, _, _⟩ := delta_facts n1
  have hmid := hr.mid
  have hmid' := ht.mid
  have z : compE (normL (a ++ c)) (normL (b ++ d)) = 0 := comp_is m1 n1 (by rw [mo, ni, m2.outs, n2.ins, wordL_app, wordL_app, outW_app, inW_app]; omega)
  refine ⟨z, ?_⟩
  obtain ⟨y, hy, ey, _⟩ := comp_facts z
  rw [ey, o3, wordL_app]
  have hrt : Cmp (wordL (a ++ c)) (wordL (b ++ d)) (r ++ t) := by rw [wordL_app, wordL_app]; exact hr.app ht
  exact canon_sem_eq ((f5.app g5).trans (hrt.sem hy m2.symm n2.symm))
theorem turn_beside {a b : List Pt} {s t : List UInt8} (h1 : sizesE a = 0) (hs : (s.length : Int) = inI a) (h2 : sizesE b = 0) (ht : (t.length : Int) = inI b) (hab : normE (a ++ b) = 0) :
    normE (turnL a s ++ turnL b t) = 0 ∧ inI (normL (a ++ b)) = ((s ++ t).length : Int) ∧ sizesE (normL (a ++ b)) = 0 ∧ normL (turnL a s ++ turnL b t) = turnL (normL (a ++ b)) (s ++ t) := by
  obtain ⟨ga, ca, ia, oa, la, ma⟩ := delta_facts h1
  obtain ⟨gb, cb, ib, ob, lb, mb⟩ := delta_facts h2
  obtain ⟨m1, m2, m3, m4⟩ := norm_word hab
  obtain ⟨_, _, mi, mo, ml, mm⟩ := delta_facts m1
  have hi : inW (wordL (normL (a ++ b))) = inW (wordL a) + inW (wordL b) := by rw [m2.ins, wordL_app, inW_app]
  have ho : outW (wordL (normL (a ++ b))) = outW (wordL a) + outW (wordL b) := by rw [m2.outs, wordL_app, outW_app]
  obtain ⟨p1, p2, p3, p4⟩ := turn_facts h1 hs
  obtain ⟨q1, q2, q3, q4⟩ := turn_facts h2 ht
  have hR : Right (turnL a s ++ turnL b t) := fun p hp => by
    rcases List.mem_append.1 hp with h | h
    · exact sizes_right p1 p h
    · exact sizes_right q1 p h
  have hn := norm_right hR (by rw [inI_app]; omega) (by rw [outI_app]; omega)
  have hst : ((s ++ t).length : Int) = inI (normL (a ++ b)) := by rw [List.length_append]; omega
  refine ⟨hn.1, hst.symm, m1, ?_⟩
  rw [hn.2, wordL_app, turn_canon m1 hst, turn_sem m2 _ (by omega), wordL_app, turn_app _ _ _ _ (by omega)]
  exact canon_sem_eq (p4.app q4)

end Go.Proofs.Ytgffippimmokiaa
