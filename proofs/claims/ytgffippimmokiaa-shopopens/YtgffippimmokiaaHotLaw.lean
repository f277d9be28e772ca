/- What the document's SameRev and SameRevs answer, of what is the same. -/
import Derived.Test.YtgffippimmokiaaRevOne
import Derived.Test.YtgffippimmokiaaCompL
import Derived.Test.YtgffippimmokiaaLogBox
import Derived.Test.YtgffippimmokiaaHotMem
import Derived.ChangeKeysEq
import Derived.Test.YtgffippimmokiaaHotRead
namespace Go.Proofs.Ytgffippimmokiaa
open Go.RowKit
set_option linter.unusedSimpArgs false
set_option linter.unusedVariables false

set_option maxHeartbeats 1000000 in
theorem SameRv_yes (r : Rv) (a b : Option Addr) (ca cb : Nat) (w : World) (ha : PartsAt w w.heap.size a r.d) (hb : PartsAt w w.heap.size b r.d) :
    Calls Try.prog 90 #[.agg #[.int .i64 r.who, .int .i64 r.seq, .slice a r.d.length ca], .agg #[.int .i64 r.who, .int .i64 r.seq, .slice b r.d.length cb]] w fun e w' => e = .returned (.bool true) ∧ Below w.heap.size w w' := by
  have hb0 : Below w.heap.size w ((w.alloc (.cells #[.int .i64 r.who, .int .i64 r.seq, .slice a r.d.length ca] 40)).alloc (.cells #[.int .i64 r.who, .int .i64 r.seq, .slice b r.d.length cb] 40)) := ((Below.refl _ _).alloc (Nat.le_refl _) _).alloc (by simp) _
  have HP : Hid (PartsAt ((w.alloc (.cells #[.int .i64 r.who, .int .i64 r.seq, .slice a r.d.length ca] 40)).alloc (.cells #[.int .i64 r.who, .int .i64 r.seq, .slice b r.d.length cb] 40)) ((w.alloc (.cells #[.int .i64 r.who, .int .i64 r.seq, .slice a r.d.length ca] 40)).alloc (.cells #[.int .i64 r.who, .int .i64 r.seq, .slice b r.d.length cb] 40)).heap.size a r.d ∧ PartsAt ((w.alloc (.cells #[.int .i64 r.who, .int .i64 r.seq, .slice a r.d.length ca] 40)).alloc (.cells #[.int .i64 r.who, .int .i64 r.seq, .slice b r.d.length cb] 40)) ((w.alloc (.cells #[.int .i64 r.who, .int .i64 r.seq, .slice a r.d.length ca] 40)).alloc (.cells #[.int .i64 r.who, .int .i64 r.seq, .slice b r.d.length cb] 40)).heap.size b r.d) := ⟨ha.here hb0 (Nat.le_refl _), hb.here hb0 (Nat.le_refl _)⟩
  have HB0 : Hid (Below w.heap.size w ((w.alloc (.cells #[.int .i64 r.who, .int .i64 r.seq, .slice a r.d.length ca] 40)).alloc (.cells #[.int .i64 r.who, .int .i64 r.seq, .slice b r.d.length cb] 40))) := hb0
  clear ha hb hb0
  go_enter Try.func90, Try.ntmps90
  go_wp2_with fail
  refine (Same_yes a b r.d ca cb _ HP.out.1 HP.out.2).mono ?_
  rintro e w1 ⟨rfl, hb1⟩
  have HB1 : Hid (Below w.heap.size w w1) := HB0.out.trans (hb1.mono HB0.out.size)
  clear hb1
  go_wp2_with fail
  go_ret
  exact ⟨by first | rfl | simp, HB1.out⟩
theorem EqRvs_yes (a b : Option Addr) (X : List Rv) (ca cb : Nat) (w : World) (ha : RevsAt w w.heap.size a X) (hb : RevsAt w w.heap.size b X) :
    Calls Try.prog 89 #[.slice a X.length ca, .slice b X.length cb, .func (.func 90) #[] #[]] w fun e w' => e = .returned (.bool true) ∧ Below w.heap.size w w' := by
  have hl : X.length ≤ 9223372036854775807 := ha.1
  have HU : Hid (RevsAt w w.heap.size a X) := ha
  have HV : Hid (RevsAt w w.heap.size b X) := hb
  clear ha hb
  go_enter Try.func89, Try.ntmps89
  go_wp2_with fail
  go_loopw [17] (fun i wr => ∃ k : Nat, k ≤ X.length ∧ i = .int .i64 k ∧ Below w.heap.size w wr) (fun i _ => X.length - (intOf i).toNat)
  case atStart => exact ⟨0, Nat.zero_le _, rfl, Below.refl _ _⟩
  case round =>
    rename World => wr
    obtain ⟨k, hk, rfl, hb⟩ := hrel
    have HB : Hid (Below w.heap.size w wr) := hb
    have hz := hb.size
    by_cases hlt : k < X.length
    · obtain ⟨x, hx⟩ : ∃ x, X[k]? = some x := ⟨X[k], List.getElem?_eq_getElem hlt⟩
      have hki : (k : Int) < (X.length : Int) := by omega
      obtain ⟨g, og, ai, ci, e1, hg, y1, y2, y3, y4, _⟩ := (HU.out.below hb (Nat.le_refl _)).mem hx
      obtain ⟨h, oh, bi, di, e2, hh, z1, z2, z3, z4, _⟩ := (HV.out.below hb (Nat.le_refl _)).mem hx
      subst e1 e2
      have hgw : g < wr.heap.size := by omega
      have hhw : h < wr.heap.size := by omega
      have hB2 : Below wr.heap.size wr ((wr.alloc (.cells #[.int .i64 x.who, .int .i64 x.seq, .slice ai x.d.length ci] 40)).alloc (.cells #[.int .i64 x.who, .int .i64 x.seq, .slice bi x.d.length di] 40)) := ((Below.refl _ wr).alloc (Nat.le_refl _) _).alloc (by simp) _
      have HP : Hid (PartsAt ((wr.alloc (.cells #[.int .i64 x.who, .int .i64 x.seq, .slice ai x.d.length ci] 40)).alloc (.cells #[.int .i64 x.who, .int .i64 x.seq, .slice bi x.d.length di] 40)) ((wr.alloc (.cells #[.int .i64 x.who, .int .i64 x.seq, .slice ai x.d.length ci] 40)).alloc (.cells #[.int .i64 x.who, .int .i64 x.seq, .slice bi x.d.length di] 40)).heap.size ai x.d ∧ PartsAt ((wr.alloc (.cells #[.int .i64 x.who, .int .i64 x.seq, .slice ai x.d.length ci] 40)).alloc (.cells #[.int .i64 x.who, .int .i64 x.seq, .slice bi x.d.length di] 40)) ((wr.alloc (.cells #[.int .i64 x.who, .int .i64 x.seq, .slice ai x.d.length ci] 40)).alloc (.cells #[.int .i64 x.who, .int .i64 x.seq, .slice bi x.d.length di] 40)).heap.size bi x.d) := ⟨(y4.wider hz (Nat.le_refl _)).here hB2 (Nat.le_refl _), (z4.wider hz (Nat.le_refl _)).here hB2 (Nat.le_refl _)⟩
      have HB2 : Hid (Below w.heap.size w ((wr.alloc (.cells #[.int .i64 x.who, .int .i64 x.seq, .slice ai x.d.length ci] 40)).alloc (.cells #[.int .i64 x.who, .int .i64 x.seq, .slice bi x.d.length di] 40))) := HB.out.trans (hB2.mono hz)
      clear hb hx y4 z4 hB2
      go_wp2_with fail
      refine (SameRv_yes x ai bi ci di _ HP.out.1 HP.out.2).mono ?_
      rintro e w1 ⟨rfl, hb1⟩
      have HB1 : Hid (Below w.heap.size w w1) := HB2.out.trans (hb1.mono HB2.out.size)
      clear hb1
      go_wp2_with fail
      go_roundw
      case rel => exact ⟨k + 1, by omega, by go_num, HB1.out⟩
      case measure => simp [intOf]; omega
    · have hki : ¬ (k : Int) < (X.length : Int) := by omega
      clear hb
      go_wp2_with fail
      go_ret
      exact ⟨rfl, HB.out⟩
theorem SameRvs_yes (a b : Option Addr) (X : List Rv) (ca cb : Nat) (w : World) (ha : RevsAt w w.heap.size a X) (hb : RevsAt w w.heap.size b X) :
    Calls Try.prog 48 #[.slice a X.length ca, .slice b X.length cb] w fun e w' => e = .returned (.bool true) ∧ Below w.heap.size w w' := by
  have HE : Hid _ := fun w h1 h2 => EqRvs_yes a b X ca cb w h1 h2
  have HU : Hid (RevsAt w w.heap.size a X) := ha
  have HV : Hid (RevsAt w w.heap.size b X) := hb
  clear ha hb
  go_enter Try.func48, Try.ntmps48
  go_wp2_with fail
  refine (HE.out _ HU.out HV.out).mono ?_
  rintro e w1 ⟨rfl, hb1⟩
  have HB1 : Hid (Below w.heap.size w w1) := hb1
  clear hb1
  go_wp2_with fail
  go_ret
  exact ⟨rfl, HB1.out⟩
end Go.Proofs.Ytgffippimmokiaa

/- What the document's SameLog answers, of what is the same. -/
namespace Go.Proofs.Ytgffippimmokiaa
open Go.RowKit
set_option linter.unusedSimpArgs false
set_option linter.unusedVariables false

theorem fieldsSess : Try.prog.underlying 79 = some (.struct (Try.prog.fieldsOf 79)) := by kernel_rfl
theorem heldSess : Try.prog.stoodInHeld 79 = false := by kernel_rfl
set_option maxRecDepth 10000 in
theorem sess_in (d : Nat) (x y : Int) (w : World) : (Op.equalIn (d + 2) 79 (.agg #[.int .i64 x, .int .i64 y]) (.agg #[.int .i64 x, .int .i64 y])).run Try.prog w = .ok true w := by
  rw [run_equalIn_agg w (d + 1) 79 _ _ fieldsSess heldSess]
  simp only [Program.fieldsOf, Try.underlying79]
  simp [go_sem, Op.eqFields, part, Try.underlying3]
theorem info_sess : ∃ i, Try.prog.info? 79 = some i := by
  cases h : Try.prog.info? 79 with
  | some i => exact ⟨i, rfl⟩
  | none => exact absurd h (by have : (Try.prog.info? 79).isSome = true := by kernel_rfl
                               intro e; rw [e] at this; cases this)
theorem cells_sess : Try.prog.cellsOf 79 = 2 := by kernel_rfl
theorem under_eight : Try.prog.underlying 80 = some (.array 8 79) := by kernel_rfl
theorem part_t0 (x0 x1 x2 x3 x4 x5 x6 x7 x8 x9 x10 x11 x12 x13 x14 x15 : Int) : ∀ w : World, (part 79 #[.int .i64 x0, .int .i64 x1, .int .i64 x2, .int .i64 x3, .int .i64 x4, .int .i64 x5, .int .i64 x6, .int .i64 x7, .int .i64 x8, .int .i64 x9, .int .i64 x10, .int .i64 x11, .int .i64 x12, .int .i64 x13, .int .i64 x14, .int .i64 x15] 0).run Try.prog w = .ok (.agg #[.int .i64 x0, .int .i64 x1]) w := fun _ => by kernel_rfl
theorem part_t1 (x0 x1 x2 x3 x4 x5 x6 x7 x8 x9 x10 x11 x12 x13 x14 x15 : Int) : ∀ w : World, (part 79 #[.int .i64 x0, .int .i64 x1, .int .i64 x2, .int .i64 x3, .int .i64 x4, .int .i64 x5, .int .i64 x6, .int .i64 x7, .int .i64 x8, .int .i64 x9, .int .i64 x10, .int .i64 x11, .int .i64 x12, .int .i64 x13, .int .i64 x14, .int .i64 x15] 2).run Try.prog w = .ok (.agg #[.int .i64 x2, .int .i64 x3]) w := fun _ => by kernel_rfl
theorem part_t2 (x0 x1 x2 x3 x4 x5 x6 x7 x8 x9 x10 x11 x12 x13 x14 x15 : Int) : ∀ w : World, (part 79 #[.int .i64 x0, .int .i64 x1, .int .i64 x2, .int .i64 x3, .int .i64 x4, .int .i64 x5, .int .i64 x6, .int .i64 x7, .int .i64 x8, .int .i64 x9, .int .i64 x10, .int .i64 x11, .int .i64 x12, .int .i64 x13, .int .i64 x14, .int .i64 x15] 4).run Try.prog w = .ok (.agg #[.int .i64 x4, .int .i64 x5]) w := fun _ => by kernel_rfl
theorem part_t3 (x0 x1 x2 x3 x4 x5 x6 x7 x8 x9 x10 x11 x12 x13 x14 x15 : Int) : ∀ w : World, (part 79 #[.int .i64 x0, .int .i64 x1, .int .i64 x2, .int .i64 x3, .int .i64 x4, .int .i64 x5, .int .i64 x6, .int .i64 x7, .int .i64 x8, .int .i64 x9, .int .i64 x10, .int .i64 x11, .int .i64 x12, .int .i64 x13, .int .i64 x14, .int .i64 x15] 6).run Try.prog w = .ok (.agg #[.int .i64 x6, .int .i64 x7]) w := fun _ => by kernel_rfl
theorem part_t4 (x0 x1 x2 x3 x4 x5 x6 x7 x8 x9 x10 x11 x12 x13 x14 x15 : Int) : ∀ w : World, (part 79 #[.int .i64 x0, .int .i64 x1, .int .i64 x2, .int .i64 x3, .int .i64 x4, .int .i64 x5, .int .i64 x6, .int .i64 x7, .int .i64 x8, .int .i64 x9, .int .i64 x10, .int .i64 x11, .int .i64 x12, .int .i64 x13, .int .i64 x14, .int .i64 x15] 8).run Try.prog w = .ok (.agg #[.int .i64 x8, .int .i64 x9]) w := fun _ => by kernel_rfl
theorem part_t5 (x0 x1 x2 x3 x4 x5 x6 x7 x8 x9 x10 x11 x12 x13 x14 x15 : Int) : ∀ w : World, (part 79 #[.int .i64 x0, .int .i64 x1, .int .i64 x2, .int .i64 x3, .int .i64 x4, .int .i64 x5, .int .i64 x6, .int .i64 x7, .int .i64 x8, .int .i64 x9, .int .i64 x10, .int .i64 x11, .int .i64 x12, .int .i64 x13, .int .i64 x14, .int .i64 x15] 10).run Try.prog w = .ok (.agg #[.int .i64 x10, .int .i64 x11]) w := fun _ => by kernel_rfl
theorem part_t6 (x0 x1 x2 x3 x4 x5 x6 x7 x8 x9 x10 x11 x12 x13 x14 x15 : Int) : ∀ w : World, (part 79 #[.int .i64 x0, .int .i64 x1, .int .i64 x2, .int .i64 x3, .int .i64 x4, .int .i64 x5, .int .i64 x6, .int .i64 x7, .int .i64 x8, .int .i64 x9, .int .i64 x10, .int .i64 x11, .int .i64 x12, .int .i64 x13, .int .i64 x14, .int .i64 x15] 12).run Try.prog w = .ok (.agg #[.int .i64 x12, .int .i64 x13]) w := fun _ => by kernel_rfl
theorem part_t7 (x0 x1 x2 x3 x4 x5 x6 x7 x8 x9 x10 x11 x12 x13 x14 x15 : Int) : ∀ w : World, (part 79 #[.int .i64 x0, .int .i64 x1, .int .i64 x2, .int .i64 x3, .int .i64 x4, .int .i64 x5, .int .i64 x6, .int .i64 x7, .int .i64 x8, .int .i64 x9, .int .i64 x10, .int .i64 x11, .int .i64 x12, .int .i64 x13, .int .i64 x14, .int .i64 x15] 14).run Try.prog w = .ok (.agg #[.int .i64 x14, .int .i64 x15]) w := fun _ => by kernel_rfl
theorem table_in (d : Nat) (x0 x1 x2 x3 x4 x5 x6 x7 x8 x9 x10 x11 x12 x13 x14 x15 : Int) (w : World) : (Op.equalIn (d + 3) 80 (.agg #[.int .i64 x0, .int .i64 x1, .int .i64 x2, .int .i64 x3, .int .i64 x4, .int .i64 x5, .int .i64 x6, .int .i64 x7, .int .i64 x8, .int .i64 x9, .int .i64 x10, .int .i64 x11, .int .i64 x12, .int .i64 x13, .int .i64 x14, .int .i64 x15]) (.agg #[.int .i64 x0, .int .i64 x1, .int .i64 x2, .int .i64 x3, .int .i64 x4, .int .i64 x5, .int .i64 x6, .int .i64 x7, .int .i64 x8, .int .i64 x9, .int .i64 x10, .int .i64 x11, .int .i64 x12, .int .i64 x13, .int .i64 x14, .int .i64 x15])).run Try.prog w = .ok true w := by
  obtain ⟨i, hi⟩ := info_sess
  rw [run_equalIn_array w (d + 2) _ _ under_eight hi, cells_sess]
  rw [show List.range 8 = [0, 1, 2, 3, 4, 5, 6, 7] from rfl]
  simp only [Op.eqItems, Sem.run_bind, Nat.zero_mul, Nat.one_mul, Nat.reduceMul, part_t0, part_t1, part_t2, part_t3, part_t4, part_t5, part_t6, part_t7, Result.andThen_ok, sess_in, Bool.not_true, Bool.false_eq_true, if_false, Sem.run_pure, if_true]
theorem table_eql {F : List Int} (h : F.length = 16) : ∀ w : World, (binOp .eql 80 (.agg (jzC F).toArray) (.agg (jzC F).toArray)).run Try.prog w = .ok (.bool true) w := fun w => by
  match F, h with
  | [x0, x1, x2, x3, x4, x5, x6, x7, x8, x9, x10, x11, x12, x13, x14, x15], _ =>
    show (binOp .eql 80 (.agg #[.int .i64 x0, .int .i64 x1, .int .i64 x2, .int .i64 x3, .int .i64 x4, .int .i64 x5, .int .i64 x6, .int .i64 x7, .int .i64 x8, .int .i64 x9, .int .i64 x10, .int .i64 x11, .int .i64 x12, .int .i64 x13, .int .i64 x14, .int .i64 x15]) (.agg #[.int .i64 x0, .int .i64 x1, .int .i64 x2, .int .i64 x3, .int .i64 x4, .int .i64 x5, .int .i64 x6, .int .i64 x7, .int .i64 x8, .int .i64 x9, .int .i64 x10, .int .i64 x11, .int .i64 x12, .int .i64 x13, .int .i64 x14, .int .i64 x15])).run Try.prog w = _
    rw [run_eql_struct, table_in 9997]; rfl
/-- a load of many cells in a plain region, where its guard says yes -/
theorem wpList_load_on {P : Program} {ops : Array Oper} {rest : List Oper} {op : Oper} {a : Act} {w : World} {Q : Exit → Act → World → Prop} (hw : Region.wanted op (yielded ops a.tmps) = true) (ty : TypeId) (x : Operand) (ho : op.op = .load ty x)
    (b o : Nat) (hx : a.eval x = .pointer (some ⟨b, o, none⟩)) (cs : List Value) (d : TypeDesc) (hc : w.rangeAt b o cs)
    (hu : P.underlying ty = some d) (hd : d.isRow = true) (hi : (P.info? ty).map (·.size) = some cs.length)
    (h : wpList P ops Q rest (a.put op.dst (.agg cs.toArray)) w) : wpList P ops Q (op :: rest) a w :=
  wpList_step fun K hK => by rw [if_pos hw]; exact wp_load_mid ty x ho b o hx cs d hc hu hd hi (hK _ _ h)
theorem lg_ranges {w : World} {g : Nat} {gen base : Int} {text : List UInt8} {F T : List Int} {rv : Value} {wh : Bool} {gd : Int} (hF : F.length = 16) (h : LgAt w g (lgC gen base text F T rv wh gd)) : w.rangeAt g 3 (jzC F) ∧ w.rangeAt g 19 (jzC T) := by
  refine ⟨h.range [.int .i64 gen, .int .i64 base, .string ⟨text.toArray⟩] (jzC F) _ rfl, ?_⟩
  have h2 := h.range (.int .i64 gen :: .int .i64 base :: .string ⟨text.toArray⟩ :: jzC F) (jzC T) [rv, .bool wh, .int .i64 gd] (by simp [lgC])
  have e : (Value.int .i64 gen :: .int .i64 base :: .string ⟨text.toArray⟩ :: jzC F).length = 19 := by simp [jzC_len, hF]
  rw [e] at h2
  exact h2

end Go.Proofs.Ytgffippimmokiaa

/- hot.Read, as the laws call it: the log that is read lies in a block of its own. -/
namespace Go.Proofs.Ytgffippimmokiaa
open Go.RowKit
set_option linter.unusedSimpArgs false
set_option linter.unusedVariables false

/-- the log that is read, its revisions at a -/
def rlC (S : Lg) (a : Option Addr) (c : Nat) : List Value := sC S (.slice a S.revs.length c) S.good
theorem logS_not {l : List Fr} (h : logE l ≠ 0) : logS l = nilLg := by
  cases l with
  | nil => rfl
  | cons f l =>
    cases hd : hdL f with
    | none => simp [logS, hd]
    | some S => exact absurd (by simp [logE, hd]) h
theorem logS_tabs (s : List UInt8) : (logS (scanL s).1).first.length = 16 ∧ (logS (scanL s).1).table.length = 16 := by
  by_cases h : logE (scanL s).1 = 0
  · obtain ⟨f, fs, S, a, b, _, _, _, e, _, _, ok⟩ := log_facts h
    rw [e]
    exact ⟨ok.first, ok.table⟩
  · rw [logS_not h]
    exact ⟨rfl, rfl⟩
theorem logS_ok {s : List UInt8} (h : logE (scanL s).1 = 0) : ∃ n, LOk (logS (scanL s).1) n := by
  obtain ⟨f, fs, S, a, b, _, _, _, e, _, _, ok⟩ := log_facts h
  exact ⟨_, by rw [e]; exact ok⟩
theorem rl_one (S : Lg) (a : Option Addr) (c : Nat) : ∀ u ∈ rlC S a c, u.oneCell' = true := lgC_one rfl
theorem nil_is : rlC nilLg none 0 = zeroC := rfl
/-- what is wanted to lay a log into a block of its own -/
theorem log_into {L : List Value} (hL : L.length = 38) (h1 : ∀ u ∈ L, u.oneCell' = true) : (Try.prog.info? 82).map (·.size) = some L.toArray.size ∧ (38 : Nat) = L.toArray.size ∧ L.toArray.all (·.oneCell') = true ∧ (Try.prog.info? 82).map (·.size) = some L.length :=
  ⟨by rw [List.size_toArray, hL]; exact infoLg, by rw [List.size_toArray, hL], all_oneCell_toArray h1, by rw [hL]; exact infoLg⟩
/-- a log that was read, in a block of its own -/
def RlAt (w : World) (g : Nat) (S : Lg) (a : Option Addr) (c : Nat) : Prop := LgAt w g (rlC S a c) ∧ RevsAt w w.heap.size a S.revs ∧ S.revs.length ≤ c ∧ S.first.length = 16 ∧ S.table.length = 16
theorem RlAt.next {w w' : World} {g : Nat} {S : Lg} {a : Option Addr} {c : Nat} (h : RlAt w g S a c) (hb : Below w.heap.size w w') : RlAt w' g S a c :=
  ⟨h.1.below hb h.1.lt, h.2.1.here hb (Nat.le_refl _), h.2.2⟩
theorem RlAt.revs {w : World} {g : Nat} {S : Lg} {a : Option Addr} {c : Nat} (h : RlAt w g S a c) : RevsAt w w.heap.size a S.revs ∧ S.revs.length ≤ c := ⟨h.2.1, h.2.2.1⟩
theorem RlAt.lt {w : World} {g : Nat} {S : Lg} {a : Option Addr} {c : Nat} (h : RlAt w g S a c) : g < w.heap.size := h.1.lt
theorem RlAt.all {w : World} {g : Nat} {S : Lg} {a : Option Addr} {c : Nat} (h : RlAt w g S a c) : w.rangeAt g 0 (rlC S a c) := h.1.all
theorem rl_new {w : World} {S : Lg} {a : Option Addr} {c : Nat} (h : RevsAt w w.heap.size a S.revs) (hc : S.revs.length ≤ c) (hF : S.first.length = 16) (hT : S.table.length = 16) : RlAt (w.alloc (.cells (rlC S a c).toArray 82)) w.heap.size S a c :=
  ⟨Deep.blk_alloc_new w _, h.here ((Below.refl _ w).alloc (Nat.le_refl _) _) (Nat.le_refl _), hc, hF, hT⟩
/-- the cells that the laws read -/
theorem RlAt.cells {w : World} {g : Nat} {S : Lg} {a : Option Addr} {c : Nat} (h : RlAt w g S a c) :
    w.cell? ⟨g, 0, none⟩ = some (.int .i64 S.gen) ∧ w.cell? ⟨g, 1, none⟩ = some (.int .i64 S.base) ∧ w.cell? ⟨g, 2, none⟩ = some (.string ⟨S.text.toArray⟩) ∧ w.cell? ⟨g, 35, none⟩ = some (.slice a S.revs.length c) ∧ w.cell? ⟨g, 36, none⟩ = some (.bool S.whole) ∧ w.cell? ⟨g, 37, none⟩ = some (.int .i64 S.good) := by
  obtain ⟨h1, _, _, hF, hT⟩ := h
  obtain ⟨l35, l36, l37, _⟩ := lg_at (gen := S.gen) (base := S.base) (text := S.text) (F := S.first) (T := S.table) (rv := .slice a S.revs.length c) (wh := S.whole) (gd := S.good) hF hT
  exact ⟨h1.cell rfl, h1.cell rfl, h1.cell rfl, h1.cell l35, h1.cell l36, h1.cell l37⟩
theorem RlAt.table {w : World} {g : Nat} {S : Lg} {a : Option Addr} {c : Nat} (h : RlAt w g S a c) {k : Nat} {q : Int} (hk : S.table[k]? = some q) : w.cell? ⟨g, 19 + k, none⟩ = some (.int .i64 q) := by
  obtain ⟨h1, _, _, hF, hT⟩ := h
  obtain ⟨_, _, _, l⟩ := lg_at (gen := S.gen) (base := S.base) (text := S.text) (F := S.first) (T := S.table) (rv := .slice a S.revs.length c) (wh := S.whole) (gd := S.good) hF hT
  exact h1.cell (l k q hk)
theorem RlAt.into {w : World} {g : Nat} {S : Lg} {a : Option Addr} {c : Nat} (h : RlAt w g S a c) : (rlC S a c).length = 38 := sC_len h.2.2.2.1 h.2.2.2.2

/-- what reading answers -/
def ReadTo (S : Lg) (q : Int) (w : World) (e : Ending) (w' : World) : Prop :=
  ∃ a c, e = .returned (.tuple #[.agg (rlC S a c).toArray, .int .i64 q]) ∧ RevsAt w' w'.heap.size a S.revs ∧ S.revs.length ≤ c ∧ Below w.heap.size w w'
theorem revs_nil (w : World) : RevsAt w w.heap.size none [] := ⟨by simp, Nat.le_refl _, by simp, by simp⟩
theorem read_to {l : List UInt8} {w w' : World} {e : Ending} (h : ReadIs l w e w') : ReadTo (logS (scanL l).1) (logE (scanL l).1) w e w' := by
  obtain ⟨h, hb⟩ := h
  rcases h with ⟨h0, v, xs, he, hz, hx⟩ | ⟨h0, he⟩
  · obtain ⟨n, ok⟩ := logS_ok h0
    have hlx : xs.length = (logS (scanL l).1).revs.length := by rw [← hx, List.length_map]
    obtain ⟨a, c, hv, hc, hr⟩ := rzs_at hz (by rw [hlx]; exact ok.revs)
    rw [hx] at hr
    rw [hlx] at hv hc
    exact ⟨a, c, by rw [he, hv, h0]; rfl, hr, hc, hb⟩
  · exact ⟨none, 0, by rw [he, logS_not h0]; rfl, by rw [logS_not h0]; exact revs_nil w', by rw [logS_not h0]; exact Nat.le_refl _, hb⟩
theorem Read_to (s : ByteArray) (w : World) (hs : s.size ≤ 9223372036854775807) : Calls Try.prog 80 #[.string s] w fun e w' => ReadTo (logS (scanL s.data.toList).1) (logE (scanL s.data.toList).1) w e w' :=
  (Read_any s w hs).mono fun e w' h => read_to h
end Go.Proofs.Ytgffippimmokiaa
