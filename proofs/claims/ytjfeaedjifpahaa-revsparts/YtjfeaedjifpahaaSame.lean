/- What slices.Equal of two lists of parts, and Same, answer. -/
import Derived.Test.YtjfeaedjifpahaaSmall
import Derived.Laws.StructEq
import Derived.Deep.QuietTactic
import Derived.BigQuiet
namespace Go.Proofs.Ytjfeaedjifpahaa
open Go.RowKit
set_option linter.unusedSimpArgs false
set_option linter.unusedVariables false

def samePt (p q : Pt) : Bool := p.k == q.k && (p.n == q.n && (p.t.toList == q.t.toList))
theorem samePt_iff (p q : Pt) : samePt p q = true ↔ p = q := by
  obtain ⟨k, n, t⟩ := p
  obtain ⟨k', n', t'⟩ := q
  simp only [samePt, Bool.and_eq_true, beq_iff_eq, ByteArray.toList_eq, Pt.mk.injEq]
  constructor
  · rintro ⟨h1, h2, h3⟩
    refine ⟨h1, h2, ?_⟩
    cases t; cases t'; simp_all
  · rintro ⟨h1, h2, h3⟩
    exact ⟨h1, h2, by rw [h3]⟩

theorem fieldsPart : Try.prog.underlying 53 = some (.struct (Try.prog.fieldsOf 53)) := by kernel_rfl
theorem heldPart : Try.prog.stoodInHeld 53 = false := by kernel_rfl

set_option maxRecDepth 10000 in
theorem run_neq_part (p q : Pt) (w : World) : (binOp .neq 53 (.agg #[.int .i64 p.k, .int .i64 p.n, .string p.t]) (.agg #[.int .i64 q.k, .int .i64 q.n, .string q.t])).run Try.prog w = .ok (.bool (!samePt p q)) w := by
  rw [run_neq_struct, run_equalIn_agg w 9999 53 _ _ fieldsPart heldPart]
  have e1 := Try.underlying3
  have e2 := Try.underlying9
  simp only [Program.fieldsOf, Try.underlying53]
  cases h1 : (p.k == q.k) <;> cases h2 : (p.n == q.n) <;> cases h3 : (p.t.toList == q.t.toList) <;> simp [go_sem, Op.eqFields, part, samePt, h1, h2, h3, Try.underlying3, Try.underlying9]

theorem take_eq_succ {la lb : List Pt} {k : Nat} {p q : Pt} (h : la.take k = lb.take k) (hp : la[k]? = some p) (hq : lb[k]? = some q) (e : p = q) : la.take (k + 1) = lb.take (k + 1) := by
  rw [take_snoc hp, take_snoc hq, h, e]
theorem take_ne {la lb : List Pt} {k : Nat} {p q : Pt} (hp : la[k]? = some p) (hq : lb[k]? = some q) (e : p ≠ q) : la ≠ lb := by
  intro h; subst h; rw [hp] at hq; exact e (Option.some.inj hq)

set_option maxHeartbeats 1000000 in
theorem Equal_any (a b : Option Addr) (la lb : List Pt) (ca cb : Nat) (w : World) (ha : PartsAt w w.heap.size a la) (hb : PartsAt w w.heap.size b lb) :
    Calls Try.prog 32 #[.slice a la.length ca, .slice b lb.length cb] w fun e w' => ∃ r : Bool, e = .returned (.bool r) ∧ (r = true ↔ la = lb) ∧ Below w.heap.size w w' := by
  have hla := ha.1
  have hlb := hb.1
  by_cases hlen : la.length = lb.length
  · have HL : Hid (la.length = lb.length) := hlen
    have hl' : ((la.length : Int) != (lb.length : Int)) = false := by simp [hlen]
    have hlen2 : la.length ≤ lb.length := by omega
    clear hlen
    go_enter Try.func32, Try.ntmps32
    go_wp2
    go_loopw [13] (fun i wr => ∃ k : Nat, k ≤ la.length ∧ i = .int .i64 k ∧ la.take k = lb.take k ∧ Below w.heap.size w wr) (fun i _ => la.length - (intOf i).toNat)
    case atStart => exact ⟨0, Nat.zero_le _, rfl, by simp, Below.refl _ _⟩
    case round =>
      obtain ⟨k, hk, rfl, htk, hbe⟩ := hrel
      by_cases hlt : k < la.length
      · obtain ⟨p, hpk⟩ : ∃ p, la[k]? = some p := ⟨la[k], List.getElem?_eq_getElem hlt⟩
        obtain ⟨q, hqk⟩ : ∃ q, lb[k]? = some q := ⟨lb[k]'(by omega), List.getElem?_eq_getElem _⟩
        obtain ⟨b1, o1, rfl, hb1, c1, c2, c3⟩ := (ha.below hbe (Nat.le_refl _)).mem hpk
        obtain ⟨b2, o2, rfl, hb2, d1, d2, d3⟩ := (hb.below hbe (Nat.le_refl _)).mem hqk
        have hneq := run_neq_part p q
        have hkb : (k : Int) < (lb.length : Int) := by omega
        have HT : Hid _ := htk
        have HP : Hid _ := hpk
        have HQ : Hid _ := hqk
        have HB : Hid (Below w.heap.size w wr) := hbe
        clear htk hpk hqk ha hb hbe
        by_cases hpq : p = q
        · have hs : samePt p q = true := (samePt_iff p q).2 hpq
          have HPQ : Hid _ := hpq
          clear hpq
          go_wp2_with fail
          go_quiet (fail)
          go_wp2_with fail
          go_roundw
          case rel => exact ⟨k + 1, by omega, by go_num, take_eq_succ HT.out HP.out HQ.out HPQ.out, below_drewN HB.out _⟩
          case measure => simp [intOf]; omega
        · have hs : samePt p q = false := by
            cases h : samePt p q
            · rfl
            · exact absurd ((samePt_iff p q).1 h) hpq
          have HPQ : Hid _ := hpq
          clear hpq
          go_wp2_with fail
          go_quiet (fail)
          go_wp2_with fail
          go_ret
          exact ⟨false, rfl, by simpa using take_ne HP.out HQ.out HPQ.out, below_drewN HB.out _⟩
      · have HE : Hid (la = lb) := by
          show _ = _
          have h1 : la.take k = la := List.take_of_length_le (by omega)
          have h2 : lb.take k = lb := List.take_of_length_le (by have := HL.out; omega)
          rw [h1, h2] at htk; exact htk
        clear htk
        go_wp2_with fail
        go_ret
        exact ⟨true, rfl, by simp [HE.out], hbe⟩
  · have hl' : ((la.length : Int) != (lb.length : Int)) = true := by simp; omega
    have HL : Hid (¬ la = lb) := fun e => hlen (by rw [e])
    clear hlen
    go_enter Try.func32, Try.ntmps32
    go_wp2
    go_ret
    exact ⟨false, rfl, by simpa using HL.out, Below.refl _ _⟩

set_option maxHeartbeats 400000 in
theorem Same_any (a b : Option Addr) (la lb : List Pt) (ca cb : Nat) (w : World) (ha : PartsAt w w.heap.size a la) (hb : PartsAt w w.heap.size b lb) :
    Calls Try.prog 15 #[.slice a la.length ca, .slice b lb.length cb] w fun e w' => ∃ r : Bool, e = .returned (.bool r) ∧ (r = true ↔ la = lb) ∧ Below w.heap.size w w' := by
  have HA : Hid (PartsAt w w.heap.size a la) := ha
  have HB : Hid (PartsAt w w.heap.size b lb) := hb
  clear ha hb
  go_enter Try.func15, Try.ntmps15
  go_wp2_with fail
  refine (Equal_any a b la lb ca cb _ HA.out HB.out).mono ?_
  rintro e w1 ⟨r, rfl, hr, hb⟩
  have HR : Hid _ := hr
  clear hr
  go_wp2_with fail
  go_ret
  exact ⟨r, rfl, HR.out, hb⟩

theorem Same_yes (a b : Option Addr) (la : List Pt) (ca cb : Nat) (w : World) (ha : PartsAt w w.heap.size a la) (hb : PartsAt w w.heap.size b la) :
    Calls Try.prog 15 #[.slice a la.length ca, .slice b la.length cb] w fun e w' => e = .returned (.bool true) ∧ Below w.heap.size w w' := by
  refine (Same_any a b la la ca cb w ha hb).mono ?_
  rintro e w1 ⟨r, rfl, hr, hb⟩
  have : r = true := hr.2 rfl
  exact ⟨by rw [this], hb⟩

end Go.Proofs.Ytjfeaedjifpahaa
