/- What slices.Equal of two lists of parts, and Same, answer. -/
import Derived.Test.YtbfabahdaacpfaaSmall
import Derived.Laws.StructEq
import Derived.Deep.QuietTactic
import Derived.BigQuiet
namespace Go.Proofs.Ytbfabahdaacpfaa
open Go.RowKit
set_option linter.unusedSimpArgs false
set_option linter.unusedVariables false

def samePt (p q : Pt) : Bool := p.k == q.k && (p.n == q.n && (p.t.toList == q.t.toList))
theorem samePt_iff (p q : Pt) : samePt p q = true ↔ p = q := by
  obtain ⟨k, n, t⟩ := p
  obtain ⟨k', n', t'⟩ := q
  simp only [samePt, Bool.and_eq_true, beq_iff_eq, ByteArray.toList_eq, Pt.mk.injEq]
  constructor
  · rintro ⟨h1, h2, h3⟩
    refine ⟨h1, h2, ?_⟩
    cases t; cases t'; simp_all
  · rintro ⟨h1, h2, h3⟩
    exact ⟨h1, h2, by rw [h3]⟩

theorem fieldsPart : Try.prog.underlying 58 = some (.struct (Try.prog.fieldsOf 58)) := by kernel_rfl
theorem heldPart : Try.prog.stoodInHeld 58 = false := by kernel_rfl

set_option maxRecDepth 10000 in
theorem run_neq_part (p q : Pt) (w : World) : (binOp .neq 58 (.agg #[.int .i64 p.k, .int .i64 p.n, .string p.t]) (.agg #[.int .i64 q.k, .int .i64 q.n, .string q.t])).run Try.prog w = .ok (.bool (!samePt p q)) w := by
  rw [run_neq_struct, run_equalIn_agg w 9999 58 _ _ fieldsPart heldPart]
  have e1 := Try.underlying3
  have e2 := Try.underlying9
  simp only [Program.fieldsOf, Try.underlying58]
  cases h1 : (p.k == q.k) <;> cases h2 : (p.n == q.n) <;> cases h3 : (p.t.toList == q.t.toList) <;> simp [go_sem, Op.eqFields, part, samePt, h1, h2, h3, Try.underlying3, Try.underlying9]

theorem take_eq_succ {la lb : List Pt} {k : Nat} {p q : Pt} (h : la.take k = lb.take k) (hp : la[k]? = some p) (hq : lb[k]? = some q) (e : p = q) : la.take (k + 1) = lb.take (k + 1) := by
  rw [take_snoc hp, take_snoc hq, h, e]
theorem take_ne {la lb : List Pt} {k : Nat} {p q : Pt} (hp : la[k]? = some p) (hq : lb[k]? = some q) (e : p ≠ q) : la ≠ lb := by
  intro h; subst h; rw [hp] at hq; exact e (Option.some.inj hq)

end Go.Proofs.Ytbfabahdaacpfaa
