/- slices.Sort of three ints. -/
import Derived.Test.YtjfeaedjifpahaaRowKit2
import Derived.BigCall
namespace Go.Proofs.Ytjfeaedjifpahaa
open Go.RowKit
set_option linter.unusedSimpArgs false
set_option linter.unusedVariables false

set_option maxHeartbeats 1000000 in
theorem isNaN_any (x : Int) (w : World) : Calls Try.prog 81 #[.int .i64 x] w fun e w' => e = .returned (.bool false) ∧ w' = w := by
  have h : (x != x) = false := by simp
  go_enter Try.func81, Try.ntmps81
  go_wp2
  go_ret
  exact ⟨rfl, rfl⟩
set_option maxHeartbeats 1000000 in
theorem Less_any (x y : Int) (w : World) : Calls Try.prog 60 #[.int .i64 x, .int .i64 y] w fun e w' => e = .returned (.bool (decide (x < y))) ∧ w' = w := by
  go_enter Try.func60, Try.ntmps60
  go_wp2_with fail
  refine (isNaN_any x _).mono ?_
  rintro e w1 ⟨rfl, e1⟩
  subst e1
  go_wp2_with fail
  go_ret
  exact ⟨rfl, rfl⟩
set_option maxRecDepth 20000 in
set_option maxHeartbeats 1000000 in
theorem Len64_3 (w : World) : Calls Try.prog 64 #[.int .u64 3] w fun e w' => ∃ n, e = .returned (.int .i64 n) ∧ w' = w := by
  go_enter Try.func64, Try.ntmps64
  go_wp2
  go_ret
  exact ⟨_, rfl, rfl⟩
set_option maxHeartbeats 1000000 in
theorem Len_3 (w : World) : Calls Try.prog 41 #[.int .u64 3] w fun e w' => ∃ n, e = .returned (.int .i64 n) ∧ w' = w := by
  go_enter Try.func41, Try.ntmps41
  go_wp2_with fail
  refine (Len64_3 _).mono ?_
  rintro e w1 ⟨n, rfl, e1⟩
  subst w1
  go_wp2_with fail
  go_ret
  exact ⟨n, rfl, rfl⟩

/-- how far three are in order, within the sort -/
def Inn (i j p q r : Nat) : Prop := (i = 1 → j = 0 → p ≤ q) ∧ (i = 2 → (j = 2 → p ≤ q) ∧ (j = 1 → q ≤ r ∧ p ≤ r) ∧ (j = 0 → p ≤ q ∧ q ≤ r))
theorem inn_start {i p q r : Nat} (h1 : 1 ≤ i) (h2 : i < 3) (h : 2 ≤ i → p ≤ q) : Inn i i p q r := by
  refine ⟨fun _ _ => by omega, fun e => ⟨fun _ => h (by omega), fun _ => by omega, fun _ => by omega⟩⟩
theorem inn_out0 {i p q r : Nat} (h1 : 1 ≤ i) (h2 : i < 3) (h : Inn i 0 p q r) : p ≤ q ∧ (3 ≤ i + 1 → q ≤ r) := by
  rcases (show i = 1 ∨ i = 2 by omega) with e | e
  · exact ⟨h.1 e rfl, by omega⟩
  · exact ⟨((h.2 e).2.2 rfl).1, fun _ => ((h.2 e).2.2 rfl).2⟩
theorem inn_stop1 {i p q r : Nat} (h1 : 1 ≤ i) (h2 : i < 3) (h : Inn i 1 p q r) (hn : ¬ q < p) : p ≤ q ∧ (3 ≤ i + 1 → q ≤ r) :=
  ⟨by omega, fun e => ((h.2 (by omega)).2.1 rfl).1⟩
theorem inn_stop2 {i p q r : Nat} (h1 : 2 ≤ i) (h2 : i < 3) (h : Inn i 2 p q r) (hn : ¬ r < q) : p ≤ q ∧ (3 ≤ i + 1 → q ≤ r) :=
  ⟨(h.2 (by omega)).1 rfl, fun _ => by omega⟩
theorem inn_swap1 {i p q r : Nat} (h : Inn i 1 p q r) (hl : q < p) : Inn i 0 q p r :=
  ⟨fun _ _ => by omega, fun e => ⟨fun _ => by omega, fun _ => by omega, fun _ => ⟨by omega, ((h.2 e).2.1 rfl).2⟩⟩⟩
theorem inn_swap2 {i p q r : Nat} (h : Inn i 2 p q r) (hl : r < q) : Inn i 1 p r q :=
  ⟨fun _ _ => by omega, fun e => ⟨fun _ => by omega, fun _ => ⟨by omega, (h.2 e).1 rfl⟩, fun _ => by omega⟩⟩
/-- none is greater than what was there -/
def Among (x y z p q r : Nat) : Prop := ∀ M, x ≤ M → y ≤ M → z ≤ M → p ≤ M ∧ q ≤ M ∧ r ≤ M
theorem Below.drewN' {B : Nat} {w w' : World} (h : Below B w w') (n : Nat) : Below B w (w'.drewN n) := below_drewN h n

set_option maxRecDepth 20000 in
set_option maxHeartbeats 8000000 in
theorem insert3_any (x y z B g : Nat) (w : World) (hr : IntRow w B g [x, y, z]) :
    Calls Try.prog 54 #[.slice (some ⟨g, 0, none⟩) 3 3, .int .i64 0, .int .i64 3] w fun e w' => e = .returned (.tuple #[]) ∧ ∃ p q r, p ≤ q ∧ q ≤ r ∧ Among x y z p q r ∧ IntRow w' B g [p, q, r] ∧ Below B w w' := by
  have hB := (IntRow.there hr).1
  have HR : Hid (IntRow w B g [x, y, z]) := hr
  clear hr
  go_enter Try.func54, Try.ntmps54
  go_wp2_with fail
  go_loopw [6] (fun v wr => ∃ (i p q r : Nat), v = .int .i64 i ∧ 1 ≤ i ∧ i ≤ 3 ∧ (2 ≤ i → p ≤ q) ∧ (3 ≤ i → q ≤ r) ∧ Among x y z p q r ∧ IntRow wr B g [p, q, r] ∧ Below B w wr) (fun v _ => 3 - (intOf v).toNat)
  case atStart => exact ⟨1, x, y, z, by go_num, by omega, by omega, by omega, by omega, fun M h1 h2 h3 => ⟨h1, h2, h3⟩, HR.out, Below.refl _ _⟩
  case round =>
    rename World => wo
    obtain ⟨i, p0, q0, r0, rfl, hi1, hi3, ho1, ho2, hA0, hr0, hb0⟩ := hrel
    by_cases hi : i < 3
    · have hii : (i : Int) < 3 := by omega
      have HA0 : Hid (Among x y z p0 q0 r0 ∧ IntRow wo B g [p0, q0, r0] ∧ Below B w wo) := ⟨hA0, hr0, hb0⟩
      clear hA0 hr0 hb0
      go_wp2_with fail
      go_loopw [7] (fun v wr => ∃ (j p q r : Nat), v = .int .i64 j ∧ j ≤ i ∧ Inn i j p q r ∧ Among x y z p q r ∧ IntRow wr B g [p, q, r] ∧ Below B w wr) (fun v _ => (intOf v).toNat)
      case atStart => exact ⟨i, p0, q0, r0, rfl, Nat.le_refl _, inn_start hi1 hi ho1, HA0.out.1, HA0.out.2.1, HA0.out.2.2⟩
      case round =>
        rename World => wi
        obtain ⟨j, p, q, r, rfl, hji, h12, hA, hrow, hb⟩ := hrel
        have hth := (IntRow.there hrow).2
        have f0 : ∀ o, wi.frozen? ⟨g, o, none⟩ = false := fun o => IntRow.frozen hrow o
        have c0 : wi.cell? ⟨g, 0, none⟩ = some (.int .i64 (p : Int)) := IntRow.cellOf hrow rfl
        have c1 : wi.cell? ⟨g, 1, none⟩ = some (.int .i64 (q : Int)) := IntRow.cellOf hrow rfl
        have c2 : wi.cell? ⟨g, 2, none⟩ = some (.int .i64 (r : Int)) := IntRow.cellOf hrow rfl
        have HRow : Hid (IntRow wi B g [p, q, r]) := hrow
        have HA : Hid (Among x y z p q r) := hA
        have HB : Hid (Below B w wi) := hb
        have H12 : Hid (Inn i j p q r) := h12
        clear hrow hA hb h12
        have hj3 : j = 0 ∨ j = 1 ∨ j = 2 := by omega
        rcases hj3 with rfl | rfl | rfl
        · go_wp2_with fail
          go_quiet (first | (go_at_call 60; refine Calls.quiet_of_same (Less_any _ _ _)))
          rename Nat => nq
          go_wp2_with fail
          go_roundw
          case rel =>
            have h := inn_out0 hi1 hi H12.out
            exact ⟨i + 1, p, q, r, by go_num, by omega, by omega, fun _ => h.1, h.2, HA.out, HRow.out.drewN _, below_drewN HB.out _⟩
          case measure => simp [intOf]; omega
        · by_cases hlt : q < p
          · have hd : decide ((q : Int) < (p : Int)) = true := by simp; omega
            have hd2 : (q : Int) < (p : Int) := by omega
            go_wp2_with fail
            go_quiet (first | (go_at_call 60; refine Calls.quiet_of_same (Less_any _ _ _)))
            rename Nat => nq
            go_wp2_with fail
            go_region
            all_goals go_wp2_with fail
            go_roundw
            case rel =>
              refine ⟨0, q, p, r, by go_num, by omega, inn_swap1 H12.out hlt, fun M a b c => ?_, ?_, ?_⟩
              · have := HA.out M a b c
                omega
              · exact ((HRow.out.drewN nq).put 1 p).put 0 q
              · exact ((below_drewN HB.out _).setCell (p := ⟨g, 1, none⟩) hB _).setCell (p := ⟨g, 0, none⟩) hB _
            case measure => simp [intOf]
          · have hd : decide ((q : Int) < (p : Int)) = false := by simp; omega
            have hd2 : ¬ (q : Int) < (p : Int) := by omega
            go_wp2_with fail
            go_quiet (first | (go_at_call 60; refine Calls.quiet_of_same (Less_any _ _ _)))
            rename Nat => nq
            go_wp2_with fail
            go_roundw
            case rel =>
              have h := inn_stop1 (by omega) hi H12.out hlt
              exact ⟨i + 1, p, q, r, by go_num, by omega, by omega, fun _ => h.1, h.2, HA.out, HRow.out.drewN _, below_drewN HB.out _⟩
            case measure => simp [intOf]; omega
        · by_cases hlt : r < q
          · have hd : decide ((r : Int) < (q : Int)) = true := by simp; omega
            have hd2 : (r : Int) < (q : Int) := by omega
            go_wp2_with fail
            go_quiet (first | (go_at_call 60; refine Calls.quiet_of_same (Less_any _ _ _)))
            rename Nat => nq
            go_wp2_with fail
            go_region
            all_goals go_wp2_with fail
            go_roundw
            case rel =>
              refine ⟨1, p, r, q, by go_num, by omega, inn_swap2 H12.out hlt, fun M a b c => ?_, ?_, ?_⟩
              · have := HA.out M a b c
                omega
              · exact ((HRow.out.drewN nq).put 2 q).put 1 r
              · exact ((below_drewN HB.out _).setCell (p := ⟨g, 2, none⟩) hB _).setCell (p := ⟨g, 1, none⟩) hB _
            case measure => simp [intOf]
          · have hd : decide ((r : Int) < (q : Int)) = false := by simp; omega
            have hd2 : ¬ (r : Int) < (q : Int) := by omega
            go_wp2_with fail
            go_quiet (first | (go_at_call 60; refine Calls.quiet_of_same (Less_any _ _ _)))
            rename Nat => nq
            go_wp2_with fail
            go_roundw
            case rel =>
              have h := inn_stop2 (by omega) hi H12.out hlt
              exact ⟨i + 1, p, q, r, by go_num, by omega, by omega, fun _ => h.1, h.2, HA.out, HRow.out.drewN _, below_drewN HB.out _⟩
            case measure => simp [intOf]; omega
    · have hii : ¬ (i : Int) < 3 := by omega
      have HE : Hid (p0 ≤ q0 ∧ q0 ≤ r0) := ⟨ho1 (by omega), ho2 (by omega)⟩
      have HA0 : Hid (Among x y z p0 q0 r0 ∧ IntRow wo B g [p0, q0, r0] ∧ Below B w wo) := ⟨hA0, hr0, hb0⟩
      clear hA0 hr0 hb0 ho1 ho2
      go_wp2_with fail
      go_end0
      first | exact ⟨rfl, p0, q0, r0, HE.out.1, HE.out.2, HA0.out⟩ | exact ⟨rfl, p0, q0, HE.out.1, r0, HE.out.2, HA0.out⟩

set_option maxRecDepth 20000 in
set_option maxHeartbeats 2000000 in
theorem pdq3_any (x y z B g : Nat) (lim : Int) (w : World) (hr : IntRow w B g [x, y, z]) :
    Calls Try.prog 40 #[.slice (some ⟨g, 0, none⟩) 3 3, .int .i64 0, .int .i64 3, .int .i64 lim] w fun e w' => e = .returned (.tuple #[]) ∧ ∃ p q r, p ≤ q ∧ q ≤ r ∧ Among x y z p q r ∧ IntRow w' B g [p, q, r] ∧ Below B w w' := by
  have HR : Hid (IntRow w B g [x, y, z]) := hr
  clear hr
  go_enter Try.func40, Try.ntmps40
  go_wp2_with fail
  refine wp_loop_rounds 1 ?_
  rw [rounds_succ]
  go_wp2_with fail
  refine (insert3_any x y z B g _ HR.out).mono ?_
  rintro e w1 ⟨rfl, hx⟩
  have HX : Hid (∃ p q r, p ≤ q ∧ q ≤ r ∧ Among x y z p q r ∧ IntRow w1 B g [p, q, r] ∧ Below B w w1) := hx
  clear hx
  go_wp2_with fail
  first | (go_end0; exact ⟨rfl, HX.out⟩) | exact bodyPost_ret (v := .tuple #[]) (by simp [results, Try.results40]) rfl ⟨rfl, HX.out⟩

set_option maxRecDepth 20000 in
set_option maxHeartbeats 2000000 in
theorem Sort3_any (x y z B g : Nat) (w : World) (hr : IntRow w B g [x, y, z]) :
    Calls Try.prog 22 #[.slice (some ⟨g, 0, none⟩) 3 3] w fun e w' => e = .returned (.tuple #[]) ∧ ∃ p q r, p ≤ q ∧ q ≤ r ∧ Among x y z p q r ∧ IntRow w' B g [p, q, r] ∧ Below B w w' := by
  have HR : Hid (IntRow w B g [x, y, z]) := hr
  clear hr
  go_enter Try.func22, Try.ntmps22
  go_wp2_with fail
  refine (Len_3 _).mono ?_
  rintro e w1 ⟨n, rfl, e1⟩
  subst w1
  go_wp2_with fail
  refine (pdq3_any x y z B g n _ HR.out).mono ?_
  rintro e w1 ⟨rfl, hx⟩
  have HX : Hid (∃ p q r, p ≤ q ∧ q ≤ r ∧ Among x y z p q r ∧ IntRow w1 B g [p, q, r] ∧ Below B w w1) := hx
  clear hx
  go_wp2_with fail
  go_end0
  exact ⟨rfl, HX.out⟩
end Go.Proofs.Ytjfeaedjifpahaa
