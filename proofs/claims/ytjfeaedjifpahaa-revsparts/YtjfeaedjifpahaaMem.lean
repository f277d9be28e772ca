/- A list of parts as it lies in memory, and what stays of it where nothing old is written. -/
import Derived.Test.YtjfeaedjifpahaaRows
import Derived.Test.YtjfeaedjifpahaaPure
import Derived.WalkKit
import Derived.WalkSpells
import Derived.WalkLawsBesides
namespace Go.Proofs.Ytjfeaedjifpahaa
open Go.RowKit
set_option linter.unusedSimpArgs false
set_option linter.unusedVariables false

/-- the parts l lie from address a on, below block B -/
def PartsAt (w : World) (B : Nat) (a : Option Addr) (l : List Pt) : Prop :=
  l.length ≤ 9223372036854775807 ∧ B ≤ w.heap.size ∧ (∀ p ∈ l, p.t.size ≤ 9223372036854775807 ∧ -9223372036854775808 ≤ p.n ∧ p.n ≤ 9223372036854775807 ∧ -9223372036854775808 ≤ p.k ∧ p.k ≤ 9223372036854775807) ∧
  (l ≠ [] → ∃ b off, a = some ⟨b, off, none⟩ ∧ b < B ∧ ∀ i p, l[i]? = some p →
    w.cell? ⟨b, off + i * 3, none⟩ = some (.int .i64 p.k) ∧ w.cell? ⟨b, off + i * 3 + 1, none⟩ = some (.int .i64 p.n) ∧ w.cell? ⟨b, off + i * 3 + 2, none⟩ = some (.string p.t))

theorem PartsAt.below {w w' : World} {B B' : Nat} {a : Option Addr} {l : List Pt} (h : PartsAt w B a l) (hb : Below B' w w') (hB : B ≤ B') : PartsAt w' B a l := by
  obtain ⟨h1, h2, h3, h4⟩ := h
  refine ⟨h1, Nat.le_trans h2 hb.size, h3, fun hn => ?_⟩
  obtain ⟨b, off, ha, hlt, hc⟩ := h4 hn
  have hlt' : b < B' := Nat.lt_of_lt_of_le hlt hB
  refine ⟨b, off, ha, hlt, fun i p hi => ?_⟩
  obtain ⟨c1, c2, c3⟩ := hc i p hi
  exact ⟨(hb.cell (p := ⟨b, _, none⟩) hlt').trans c1, (hb.cell (p := ⟨b, _, none⟩) hlt').trans c2, (hb.cell (p := ⟨b, _, none⟩) hlt').trans c3⟩

theorem PartsAt.mem {w : World} {B : Nat} {a : Option Addr} {l : List Pt} (h : PartsAt w B a l) {i : Nat} {p : Pt} (hi : l[i]? = some p) :
    ∃ b off, a = some ⟨b, off, none⟩ ∧ b < B ∧
    w.cell? ⟨b, off + i * 3, none⟩ = some (.int .i64 p.k) ∧ w.cell? ⟨b, off + i * 3 + 1, none⟩ = some (.int .i64 p.n) ∧ w.cell? ⟨b, off + i * 3 + 2, none⟩ = some (.string p.t) := by
  obtain ⟨_, _, _, h4⟩ := h
  obtain ⟨b, off, ha, hlt, hc⟩ := h4 (fun e => by subst e; simp at hi)
  exact ⟨b, off, ha, hlt, hc i p hi⟩

theorem PartsAt.here {w w' : World} {B B' : Nat} {a : Option Addr} {l : List Pt} (h : PartsAt w B a l) (hb : Below B' w w') (hB : B ≤ B') : PartsAt w' w'.heap.size a l := by
  have h := h.below hb hB
  exact ⟨h.1, Nat.le_refl _, h.2.2.1, fun hn => by
    obtain ⟨b, off, ha, hlt, hc⟩ := h.2.2.2 hn
    exact ⟨b, off, ha, Nat.lt_of_lt_of_le hlt h.2.1, hc⟩⟩

theorem bcell {B : Nat} {W w1 : World} (hb : Below B W w1) : (∀ b o, b < B → w1.cell? ⟨b, o, none⟩ = W.cell? ⟨b, o, none⟩) ∧ (∀ b o, b < B → w1.frozen? ⟨b, o, none⟩ = W.frozen? ⟨b, o, none⟩) :=
  ⟨fun b o h => hb.cell (p := ⟨b, o, none⟩) h, fun b o h => hb.frozen (p := ⟨b, o, none⟩) h⟩
theorem ret_int {k : IntKind} {a b : Int} (h : a = b) : Ending.returned (.int k a) = .returned (.int k b) := by rw [h]
theorem ret_bool {a b : Bool} (h : a = b) : Ending.returned (.bool a) = .returned (.bool b) := by rw [h]

end Go.Proofs.Ytjfeaedjifpahaa
