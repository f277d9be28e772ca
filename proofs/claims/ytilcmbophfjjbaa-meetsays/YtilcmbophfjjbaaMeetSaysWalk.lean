/- The law MeetSays, walked: it answers true. -/
import Derived.Test.YtilcmbophfjjbaaRMeet
import Derived.Test.YtilcmbophfjjbaaSame
namespace Go.Proofs.Ytilcmbophfjjbaa
open Go.RowKit
set_option linter.unusedSimpArgs false
set_option linter.unusedVariables false

set_option maxRecDepth 100000 in
set_option maxHeartbeats 8000000 in
theorem MeetSays_any (a : Option Addr) (la : List Pt) (ca : Nat) (b : Option Addr) (lb : List Pt) (cb : Nat) (w : World) (h_a : PartsAt w w.heap.size a la) (h_b : PartsAt w w.heap.size b lb) (k_a : la.length ≤ ca) (k_b : lb.length ≤ cb)   :
    Calls Try.prog 3 #[.slice a la.length ca, .slice b lb.length cb] w fun e w' => e = .returned (.bool true) ∧ Below w.heap.size w w' := by
  have HE0 : Hid (Below w.heap.size w w) := Below.refl _ _
  have H0_a : Hid (PartsAt w w.heap.size a la) := h_a
  have H0_b : Hid (PartsAt w w.heap.size b lb) := h_b
  clear h_a h_b
  have hself : (meetE la lb == meetE la lb) = true := by simp
  go_enter Try.func3, Try.ntmps3
  go_wp2_with fail
  refine (MeetOf_any a b (la) (lb) ca cb _ H0_a.out H0_b.out).mono ?_
  rintro e w1 ⟨xc, cc, xd, cd, rfl, h0, rc, h1, rd, hb⟩
  have HE1 : Hid (Below w.heap.size w w1) := HE0.out.trans (hb.mono HE0.out.size)
  have H1_a : Hid (PartsAt w1 w1.heap.size a (la)) := H0_a.out.here hb (Nat.le_refl _)
  have H1_b : Hid (PartsAt w1 w1.heap.size b (lb)) := H0_b.out.here hb (Nat.le_refl _)
  have H1_c : Hid (PartsAt w1 w1.heap.size xc (meetL (la) (lb))) := h0
  have H1_d : Hid (PartsAt w1 w1.heap.size xd (meetR (la) (lb))) := h1
  have R_c : Hid (Room xc (meetL (la) (lb)) cc) := rc
  have R_d : Hid (Room xd (meetR (la) (lb)) cd) := rd
  clear hb h0 h1 rc rd
  go_wp2_with fail
  refine (RMeet_any a b la lb ca cb _ H1_a.out H1_b.out).mono ?_
  rintro e w2 ⟨xe, ce, xf, cf, rfl, h0, h1, hb⟩
  have HE2 : Hid (Below w.heap.size w w2) := HE1.out.trans (hb.mono HE1.out.size)
  have H2_a : Hid (PartsAt w2 w2.heap.size a (la)) := H1_a.out.here hb (Nat.le_refl _)
  have H2_b : Hid (PartsAt w2 w2.heap.size b (lb)) := H1_b.out.here hb (Nat.le_refl _)
  have H2_c : Hid (PartsAt w2 w2.heap.size xc (meetL (la) (lb))) := H1_c.out.here hb (Nat.le_refl _)
  have H2_d : Hid (PartsAt w2 w2.heap.size xd (meetR (la) (lb))) := H1_d.out.here hb (Nat.le_refl _)
  have H2_e : Hid (PartsAt w2 w2.heap.size xe (meetL la lb)) := h0
  have H2_f : Hid (PartsAt w2 w2.heap.size xf (meetR la lb)) := h1
  clear hb h0 h1
  clear H2_a
  clear H2_b
  go_wp2_with fail
  refine (Same_yes xc xe (meetL (la) (lb)) cc ce _ H2_c.out H2_e.out).mono ?_
  rintro e w3 ⟨rfl, hb⟩
  have HE3 : Hid (Below w.heap.size w w3) := HE2.out.trans (hb.mono HE2.out.size)
  have H3_c : Hid (PartsAt w3 w3.heap.size xc (meetL (la) (lb))) := H2_c.out.here hb (Nat.le_refl _)
  have H3_d : Hid (PartsAt w3 w3.heap.size xd (meetR (la) (lb))) := H2_d.out.here hb (Nat.le_refl _)
  have H3_e : Hid (PartsAt w3 w3.heap.size xe (meetL la lb)) := H2_e.out.here hb (Nat.le_refl _)
  have H3_f : Hid (PartsAt w3 w3.heap.size xf (meetR la lb)) := H2_f.out.here hb (Nat.le_refl _)
  clear hb
  go_wp2_with fail
  refine (Same_yes xd xf (meetR (la) (lb)) cd cf _ H3_d.out H3_f.out).mono ?_
  rintro e w4 ⟨rfl, hb⟩
  have HE4 : Hid (Below w.heap.size w w4) := HE3.out.trans (hb.mono HE3.out.size)
  have H4_c : Hid (PartsAt w4 w4.heap.size xc (meetL (la) (lb))) := H3_c.out.here hb (Nat.le_refl _)
  have H4_d : Hid (PartsAt w4 w4.heap.size xd (meetR (la) (lb))) := H3_d.out.here hb (Nat.le_refl _)
  have H4_e : Hid (PartsAt w4 w4.heap.size xe (meetL la lb)) := H3_e.out.here hb (Nat.le_refl _)
  have H4_f : Hid (PartsAt w4 w4.heap.size xf (meetR la lb)) := H3_f.out.here hb (Nat.le_refl _)
  clear hb
  go_wp2_with fail
  go_ret
  exact ⟨rfl, HE4.out⟩

end Go.Proofs.Ytilcmbophfjjbaa
