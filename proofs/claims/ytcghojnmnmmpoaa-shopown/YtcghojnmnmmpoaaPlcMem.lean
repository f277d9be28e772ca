/- Places as package meet keeps them, in memory; what meet.places makes. -/
import Derived.Test.YtcghojnmnmmpoaaPlcL
import Derived.Test.YtcghojnmnmmpoaaGMem
import Derived.OwnWalk
namespace Go.Proofs.Ytcghojnmnmmpoaa
open Go.RowKit
set_option linter.unusedSimpArgs false
set_option linter.unusedVariables false

def plcCells (X : List (ByteArray × Bool)) : List Value := X.flatMap (fun x => [Value.string x.1, Value.bool x.2])
theorem plc_cons (x : ByteArray × Bool) (X : List (ByteArray × Bool)) : plcCells (x :: X) = .string x.1 :: .bool x.2 :: plcCells X := rfl
theorem plc_len (X : List (ByteArray × Bool)) : (plcCells X).length = X.length * 2 := by
  induction X with
  | nil => rfl
  | cons x X ih => rw [plc_cons]; simp only [List.length_cons, ih]; omega
theorem plc_at {X : List (ByteArray × Bool)} {i : Nat} {x : ByteArray × Bool} (h : X[i]? = some x) : (plcCells X)[i * 2]? = some (.string x.1) ∧ (plcCells X)[i * 2 + 1]? = some (.bool x.2) := by
  induction X generalizing i with
  | nil => simp at h
  | cons y X ih =>
    cases i with
    | zero =>
      simp only [List.getElem?_cons_zero, Option.some.injEq] at h
      subst h
      exact ⟨rfl, rfl⟩
    | succ i =>
      have := ih (i := i) (by simpa using h)
      rw [plc_cons, show (i + 1) * 2 = i * 2 + 1 + 1 by omega]
      simpa using this
theorem plc_set {X : List (ByteArray × Bool)} {i : Nat} {x : ByteArray × Bool} (h : X[i]? = some x) : (∀ t, (plcCells X).set (i * 2) (.string t) = plcCells (X.set i (t, x.2))) ∧ (∀ c, (plcCells X).set (i * 2 + 1) (.bool c) = plcCells (X.set i (x.1, c))) := by
  induction X generalizing i with
  | nil => simp at h
  | cons y X ih =>
    cases i with
    | zero =>
      simp only [List.getElem?_cons_zero, Option.some.injEq] at h
      subst h
      exact ⟨fun t => rfl, fun c => rfl⟩
    | succ i =>
      obtain ⟨h1, h2⟩ := ih (i := i) (by simpa using h)
      refine ⟨fun t => ?_, fun c => ?_⟩
      · rw [plc_cons, show (i + 1) * 2 = i * 2 + 1 + 1 by omega, List.set_cons_succ, List.set_cons_succ, h1, List.set_cons_succ, plc_cons]
      · rw [plc_cons, show (i + 1) * 2 + 1 = i * 2 + 1 + 1 + 1 by omega, List.set_cons_succ, List.set_cons_succ, h2, List.set_cons_succ, plc_cons]
theorem made_plc (n : Nat) : (madeCells #[Value.string ⟨#[]⟩, Value.bool false] (n * 2)).toList = plcCells (List.replicate n noPl) := by
  refine List.ext_getElem? fun i => ?_
  by_cases h : i < n * 2
  · have h1 : (madeCells #[Value.string ⟨#[]⟩, Value.bool false] (n * 2)).toList[i]? = some (#[Value.string ⟨#[]⟩, Value.bool false][i % 2]!) := by
      simp [madeCells, h]
    have h2 : (List.replicate n noPl)[i / 2]? = some noPl := by
      rw [List.getElem?_replicate, if_pos (by omega)]
    obtain ⟨e1, e2⟩ := plc_at h2
    rw [h1]
    rcases Nat.mod_two_eq_zero_or_one i with h3 | h3
    · rw [h3, show i = i / 2 * 2 by omega, e1]; rfl
    · rw [h3, show i = i / 2 * 2 + 1 by omega, e2]; rfl
  · rw [List.getElem?_eq_none (by simp [size_madeCells]; omega), List.getElem?_eq_none (by rw [plc_len]; simp; omega)]
theorem infoPlc : (Try.prog.info? 214).map (fun i => (i.zero, i.size, i.bytes)) = some (some (.agg #[.string ⟨#[]⟩, .bool false]), 2, 24) := by kernel_rfl
theorem own_plc {w : World} {B n : Nat} {v : Value} {X : List (ByteArray × Bool)} (h : w.ownsRow B 214 2 v n (plcCells X)) {i : Nat} {x : ByteArray × Bool} (hi : X[i]? = some x) : ∃ g cap, v = .slice (some ⟨g, 0, none⟩) n cap ∧ w.cell? ⟨g, i * 2, none⟩ = some (.string x.1) ∧ w.cell? ⟨g, i * 2 + 1, none⟩ = some (.bool x.2) ∧ g < w.heap.size ∧ B ≤ g ∧ (∀ o, w.frozen? ⟨g, o, none⟩ = false) := by
  have h1 := h.1
  rw [plc_len] at h1
  have hl := (List.getElem?_eq_some_iff.1 hi).1
  obtain ⟨c1, c2⟩ := plc_at hi
  rcases h.2 with ⟨_, h0⟩ | ⟨g, cap, cur, rfl, hB, hc, _⟩
  · omega
  · exact ⟨g, cap, rfl, by rw [h.cellAt _ (by omega)]; exact c1, by rw [h.cellAt _ (by omega)]; exact c2, lt_of_heap hc, hB, fun o => frozen_of_row _ _ _ _ _ hc⟩

set_option maxHeartbeats 4000000 in
theorem mplaces_any (a : Option Addr) (l : List Pt) (cap : Nat) (n : Nat) (w : World) (hp : PartsAt w w.heap.size a l) (hz : sizesE l = 0) (hn : (n : Int) = inI l) :
    Calls Try.prog 128 #[.slice a l.length cap, .int .i64 n] w fun e w' => ∃ v, e = .returned v ∧ w'.ownsRow w.heap.size 214 2 v (n + 1) (plcCells (zipPl (ofAll l).1 (ofAll l).2)) ∧ Below w.heap.size w w' := by
  obtain ⟨ip, hip, hp0, hp1, hp2⟩ := info_parts infoPlc
  have hsm := (sizes_zero hz).1
  have hl := hsm.1
  obtain ⟨g, c, i, o, b1, b2⟩ := delta_facts hz
  have hn5 : n ≤ 500 := by omega
  have HZ : Hid (sizesE l = 0 ∧ (n : Int) = inI l) := ⟨hz, hn⟩
  have HSM : Hid (Small l) := hsm
  have HRT : Hid (Right l) := sizes_right hz
  have HP : Hid (PartsAt w w.heap.size a l) := hp
  have hbb : ip.bytes * (n + 1) ≤ 281474976710656 := by rw [hp2]; omega
  clear hp hsm hz hn g c i o b1 b2
  go_enter Try.func128, Try.ntmps128
  go_wp2_with (at_make; refine wpList_make_full _ rfl _ _ 189 rfl w.heap.size 214 ip _ 2 Try.underlying189 hip hp0 hp1 .i64 .i64 _ _ (n + 1) rfl rfl ?m1 ?m2 hbb ?m3 (Nat.le_refl _) ?_)
  case m1 => go_num
  case m2 => go_num
  case m3 => unfold maxLen; omega
  intro w1 hown hgrow
  have HB1 : Hid (Below w.heap.size w w1) := (Below.refl _ _).grown hgrow (Nat.le_refl _) (fun k hk => by simp at hk)
  have HO1 : Hid (w1.ownsRow w.heap.size 214 2 (.slice (some ⟨w.heap.size, 0, none⟩) (n + 1) (n + 1)) (n + 1) (plcCells (fillL n (l.take 0)))) := by
    rw [List.take_zero, fill_none, ← made_plc]; exact hown
  clear hown hgrow
  go_wp2_with fail
  go_loopw [6, 15] (fun t i wr => ∃ (k : Nat), k ≤ l.length ∧ i = .int .i64 k ∧ t = .int .i64 (inI (l.take k)) ∧ wr.ownsRow w.heap.size 214 2 (.slice (some ⟨w.heap.size, 0, none⟩) (n + 1) (n + 1)) (n + 1) (plcCells (fillL n (l.take k))) ∧ Below w.heap.size w wr) (fun _ i _ => l.length - (intOf i).toNat)
  case atStart => exact ⟨0, Nat.zero_le _, rfl, rfl, HO1.out, HB1.out⟩
  case round =>
    rename World => wo
    obtain ⟨k, hk, rfl, rfl, hown, hb⟩ := hrel
    have hz := hb.size
    by_cases hlt : k < l.length
    · obtain ⟨p, hpk⟩ : ∃ p, l[k]? = some p := ⟨l[k], List.getElem?_eq_getElem hlt⟩
      have hpm := List.mem_of_getElem? hpk
      obtain ⟨hpb1, hpb2, hpb3⟩ := HSM.out.2 p hpm
      have hpr := (HRT.out p hpm).1
      obtain ⟨A, q, f1, f2, f3⟩ := fill_form HZ.out.1 HZ.out.2 hk
      obtain ⟨fp, fk, fx, fle⟩ := f3 p hpk
      have HSN : Hid (inI (l.take (k + 1)) = (A.length : Int) + p.n) := by show _ = _; rw [inI_snoc hpk, f2]
      rw [f1] at hown fk
      rw [← f2]
      have hgw : w.heap.size < wo.heap.size := by
        rcases hown.2 with ⟨_, h0⟩ | ⟨g, cap, cur, h1, hB, hc, _⟩
        · omega
        · simp only [Value.slice.injEq, Option.some.injEq, Addr.mk.injEq, and_true] at h1
          obtain ⟨⟨rfl, _⟩, _⟩ := h1
          exact lt_of_heap hc
      have hfz : ∀ o, wo.frozen? ⟨w.heap.size, o, none⟩ = false := by
        rcases hown.2 with ⟨_, h0⟩ | ⟨g, cap, cur, h1, hB, hc, _⟩
        · omega
        · simp only [Value.slice.injEq, Option.some.injEq, Addr.mk.injEq, and_true] at h1
          obtain ⟨⟨rfl, _⟩, _⟩ := h1
          exact fun o => frozen_of_row _ _ _ _ _ hc
      obtain ⟨b, off, rfl, hblt, c1, c2, c3⟩ := (HP.out.below hb (Nat.le_refl _)).mem hpk
      have hbw : b < wo.heap.size := by omega
      have HB : Hid (Below w.heap.size w wo) := hb
      have HO : Hid (wo.ownsRow w.heap.size 214 2 (.slice (some ⟨w.heap.size, 0, none⟩) (n + 1) (n + 1)) (n + 1) (plcCells (A ++ (q, false) :: List.replicate (n - A.length) noPl))) := hown
      have HAt : Hid ((A ++ (q, false) :: List.replicate (n - A.length) noPl)[A.length]? = some (q, false)) := by show _ = _; simp
      have ca : wo.cell? ⟨w.heap.size, A.length * 2, none⟩ = some (.string q) := by
        obtain ⟨g, cap, e, x1, x2, _⟩ := own_plc hown HAt.out
        simp only [Value.slice.injEq, Option.some.injEq, Addr.mk.injEq, and_true] at e
        obtain ⟨⟨rfl, _⟩, _⟩ := e
        exact x1
      have hne : ¬ b = w.heap.size := by omega
      have hAn : A.length ≤ n := by omega
      have HF2 : Hid ((A.length : Int) = inI (l.take k)) := f2
      clear hpm hpk hb hown f1 f2 f3
      by_cases q2 : p.k = 2
      · have e2 : (p.k == 2) = true := by simp [q2]
        have HF : Hid (fillL n (l.take (k + 1)) = A ++ (p.t, false) :: List.replicate (n - A.length) noPl) := fp q2
        clear fp fk fx q2 hpr
        go_wp2_with fail
        go_roundw
        case rel =>
          refine ⟨k + 1, by omega, by go_num, by rw [HSN.out], ?_, ?_⟩
          · rw [HF.out]
            have h1 := (HO.out.stored (A.length * 2) (.string p.t)).1
            rw [(plc_set HAt.out).1 p.t] at h1
            have h2 := own_alloc h1 (.cells #[.int .i64 p.k, .int .i64 p.n, .string p.t] 45)
            simpa using h2
          · exact (HB.out.setCell (p := ⟨w.heap.size, A.length * 2, none⟩) (Nat.le_refl _) _).alloc (by simpa using hz) _
        case measure => simp [intOf]; omega
      · have e2 : (p.k == 2) = false := by simp [q2]
        by_cases q3 : p.k = 3
        · have e3 : (p.k == 3) = true := by simp [q3]
          have HF : Hid (fillL n (l.take (k + 1)) = A ++ cutN p.n.toNat ((q, false) :: List.replicate (n - A.length) noPl)) := fx q3
          clear fp fk fx q2 q3 hpr
          go_wp2_with fail
          go_loopw [33] (fun i w2 => ∃ (j : Nat), (j : Int) ≤ p.n ∧ i = .int .i64 j ∧ w2.ownsRow w.heap.size 214 2 (.slice (some ⟨w.heap.size, 0, none⟩) (n + 1) (n + 1)) (n + 1) (plcCells (A ++ cutN j ((q, false) :: List.replicate (n - A.length) noPl))) ∧ Below w.heap.size w w2 ∧
            w2.heap[wo.heap.size]? = some (.cells #[.int .i64 p.k, .int .i64 p.n, .string p.t] 45 (0, 0))) (fun i _ => (p.n - intOf i).toNat)
          case atStart => exact ⟨0, by omega, rfl, own_alloc HO.out _, HB.out.alloc hz _, Deep.blk_alloc_new _ _⟩
          case round =>
            obtain ⟨j, hj, rfl, hown, hb, hbox⟩ := hrel
            have hz2 := hb.size
            by_cases hjl : (j : Int) < p.n
            · obtain ⟨x, hx⟩ : ∃ x, ((q, false) :: List.replicate (n - A.length) noPl)[j]? = some x := ⟨_, List.getElem?_eq_getElem (by simp; omega)⟩
              obtain ⟨x1, x2⟩ := cutN_at hx
              have hX : (A ++ cutN j ((q, false) :: List.replicate (n - A.length) noPl))[A.length + j]? = some x := by rw [List.getElem?_append_right (by omega)]; simpa using x1
              obtain ⟨g, cap', eg, y1, y2, y3, y4, y5⟩ := own_plc hown hX
              simp only [Value.slice.injEq, Option.some.injEq, Addr.mk.injEq, and_true, true_and] at eg
              obtain ⟨⟨rfl, _⟩, _⟩ := eg
              have HS : Hid ((A ++ cutN j ((q, false) :: List.replicate (n - A.length) noPl)).set (A.length + j) (x.1, true) = A ++ cutN (j + 1) ((q, false) :: List.replicate (n - A.length) noPl)) := by
                show _ = _
                rw [List.set_append_right _ _ (by omega), show A.length + j - A.length = j by omega, x2]
              have HX : Hid ((A ++ cutN j ((q, false) :: List.replicate (n - A.length) noPl))[A.length + j]? = some x) := hX
              have HO2 : Hid (wr.ownsRow w.heap.size 214 2 (.slice (some ⟨w.heap.size, 0, none⟩) (n + 1) (n + 1)) (n + 1) (plcCells (A ++ cutN j ((q, false) :: List.replicate (n - A.length) noPl)))) := hown
              have HB2 : Hid (Below w.heap.size w wr) := hb
              have HBX : Hid (wr.heap[wo.heap.size]? = some (.cells #[.int .i64 p.k, .int .i64 p.n, .string p.t] 45 (0, 0))) := hbox
              clear hown hb hbox hX hx x1 x2
              go_wp2_with fail
              go_roundw
              case rel =>
                refine ⟨j + 1, by omega, by go_num, ?_, ?_, ?_⟩
                · have h1 := (HO2.out.stored ((A.length + j) * 2 + 1) (.bool true)).1
                  rw [(plc_set HX.out).2 true, HS.out] at h1
                  exact h1
                · exact HB2.out.setCell (p := ⟨w.heap.size, (A.length + j) * 2 + 1, none⟩) (Nat.le_refl _) _
                · rw [Deep.blk_setCell_other _ _ _ _ (by show _ ≠ w.heap.size; omega)]; exact HBX.out
              case measure => simp [intOf]; omega
            · have HO2 : Hid (wr.ownsRow w.heap.size 214 2 (.slice (some ⟨w.heap.size, 0, none⟩) (n + 1) (n + 1)) (n + 1) (plcCells (A ++ cutN j ((q, false) :: List.replicate (n - A.length) noPl)))) := hown
              have HB2 : Hid (Below w.heap.size w wr) := hb
              have hjn : j = p.n.toNat := by omega
              have z1 : wr.cell? ⟨wo.heap.size, 1, none⟩ = some (.int .i64 p.n) := by rw [cell_of_row _ _ _ _ _ _ hbox]; rfl
              have hP2 : wo.heap.size < wr.heap.size := lt_of_heap hbox
              have HJ : Hid (j = p.n.toNat) := hjn
              clear hown hb hbox hjn
              go_wp2_with fail
              go_roundw
              case rel =>
                refine ⟨k + 1, by omega, by go_num, by rw [HSN.out], ?_, HB2.out⟩
                rw [HF.out, ← HJ.out]; exact HO2.out
              case measure => simp [intOf]; omega
        · have e3 : (p.k == 3) = false := by simp [q3]
          have HF : Hid (fillL n (l.take (k + 1)) = A ++ (q, false) :: List.replicate (n - A.length) noPl) := fk (by omega)
          clear fp fk fx q2 q3 hpr
          go_wp2_with fail
          go_roundw
          case rel =>
            refine ⟨k + 1, by omega, by go_num, by rw [HSN.out], ?_, HB.out.alloc hz _⟩
            rw [HF.out]; exact own_alloc HO.out _
          case measure => simp [intOf]; omega
    · have hkl : l.take k = l := List.take_of_length_le (by omega)
      rw [hkl, fill_all HZ.out.1 HZ.out.2] at hown
      have HO : Hid (wo.ownsRow w.heap.size 214 2 (.slice (some ⟨w.heap.size, 0, none⟩) (n + 1) (n + 1)) (n + 1) (plcCells (zipPl (ofAll l).1 (ofAll l).2))) := hown
      have HB : Hid (Below w.heap.size w wo) := hb
      clear hown hb
      go_wp2_with fail
      go_ret
      exact ⟨_, rfl, HO.out, HB.out⟩

end Go.Proofs.Ytcghojnmnmmpoaa
