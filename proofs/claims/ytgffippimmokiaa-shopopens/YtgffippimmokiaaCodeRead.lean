/- What strings.Clone answers: the same bytes. -/
import Derived.Test.YtgffippimmokiaaPtOwn
import Derived.Shelf.Pu.Clone
import Derived.Test.YtgffippimmokiaaRUnnum
import Derived.Test.YtgffippimmokiaaCodeFinds
import Derived.Deep.RegionHeld3
import Derived.Deep.AppendLies
namespace Go.Proofs.Ytgffippimmokiaa
open Go.Shelf Go.RowKit
set_option linter.unusedSimpArgs false
set_option linter.unusedVariables false

def ren25 : Go.Shelf.Ren := ⟨fun | 25 => 98 | n => n, fun | 0 => 0 | 3 => 3 | 4 => 4 | 5 => 5 | 9 => 9 | 37 => 134 | 47 => 169 | n => n, fun | n => n⟩
theorem lays25 : Go.Proofs.LaysPu.n25 Try.prog ren25 := {
  mixed := by kernel_rfl
  f25 := Try.func98.trans (congrArg some (by kernel_rfl))
  t0 := Try.underlying0
  a0 := Try.isAgg0
  z0 := Try.sizeOf0
  v0 := Try.zeroValue0
  i0 := by kernel_rfl
  t3 := Try.underlying3
  a3 := Try.isAgg3
  z3 := Try.sizeOf3
  v3 := Try.zeroValue3
  i3 := by kernel_rfl
  t4 := Try.underlying4
  a4 := Try.isAgg4
  z4 := Try.sizeOf4
  v4 := Try.zeroValue4
  i4 := by kernel_rfl
  t5 := Try.underlying5
  a5 := Try.isAgg5
  z5 := Try.sizeOf5
  v5 := Try.zeroValue5
  i5 := by kernel_rfl
  t9 := Try.underlying9
  a9 := Try.isAgg9
  z9 := Try.sizeOf9
  v9 := Try.zeroValue9
  i9 := by kernel_rfl
  t37 := Try.underlying134
  a37 := Try.isAgg134
  z37 := Try.sizeOf134
  v37 := Try.zeroValue134
  i37 := by kernel_rfl
  t47 := Try.underlying169
  a47 := Try.isAgg169
  z47 := Try.sizeOf169
  v47 := Try.zeroValue169
  i47 := by kernel_rfl }
theorem LClone_any (s : ByteArray) (w : World) (hs : s.size ≤ 281474976710656) :
    Calls Try.prog 98 #[.string s] w fun e w' => e = .returned (.string s) ∧ Below w.heap.size w w' := AnyPu.stringslite_Clone lays25 s w hs

set_option maxHeartbeats 400000 in
theorem Clone_any (s : ByteArray) (w : World) (hs : s.size ≤ 281474976710656) :
    Calls Try.prog 66 #[.string s] w fun e w' => e = .returned (.string s) ∧ Below w.heap.size w w' := by
  go_enter Try.func66, Try.ntmps66
  go_wp2_with fail
  refine (LClone_any s _ hs).mono ?_
  rintro e w1 ⟨rfl, hb1⟩
  go_wp2_with fail
  go_ret
  exact ⟨rfl, hb1⟩
end Go.Proofs.Ytgffippimmokiaa

/- What code.readPart answers. -/
namespace Go.Proofs.Ytgffippimmokiaa
open Go.RowKit
set_option linter.unusedSimpArgs false
set_option linter.unusedVariables false

theorem drop_text (s : ByteArray) (a : Nat) : (s.extract a s.size).data.toList = s.data.toList.drop a := by
  rw [Lib.extract_data]
  have h : s.data.toList.length = s.size := Array.length_toList
  exact List.take_of_length_le (by rw [List.length_drop, h]; omega)

set_option maxRecDepth 20000 in
set_option maxHeartbeats 4000000 in
theorem readPart_no (s : ByteArray) (w : World) (hs : s.size ≤ 9223372036854775807) (hr : readP s.data.toList = none) :
    Calls Try.prog 150 #[.string s] w fun e w' => ∃ q : Int, e = .returned (.tuple #[.agg #[.int .i64 0, .int .i64 0, .string ⟨#[]⟩], .string ⟨#[]⟩, .int .i64 q]) ∧ q ≠ 0 ∧ Below w.heap.size w w' := by
  have hsl : s.data.toList.length = s.size := Array.length_toList
  by_cases h0 : getE s.data.toList = 0
  · have hg := get_le h0
    rw [readP, if_pos h0] at hr
    split at hr
    · rename_i h2
      split at hr
      · simp at hr
      · rename_i h4
        rw [List.length_drop, hsl] at h4
        rw [hsl] at hg
        have HG : Hid _ := fun w => Get_any s w (by omega)
        obtain ⟨n, hn⟩ : ∃ n, getN s.data.toList = n := ⟨_, rfl⟩
        obtain ⟨k, hk⟩ : ∃ k, getK s.data.toList = k := ⟨_, rfl⟩
        rw [h0, hn, hk] at HG
        rw [hn, hk] at hg
        rw [hn] at h2
        rw [hn, hk] at h4
        obtain ⟨g1, g2, g3⟩ := hg
        have hm : (n : Int) % 4 = 2 := by omega
        clear h0 hn hk hr hsl h2
        go_enter Try.func150, Try.ntmps150
        go_wp2_with fail
        refine (HG.out _).mono ?_
        rintro e w1 ⟨rfl, e1⟩
        subst e1
        go_wp2_with fail
        exact bodyPost_ret (v := .tuple #[.agg #[.int .i64 0, .int .i64 0, .string ⟨#[]⟩], .string ⟨#[]⟩, .int .i64 5]) (by simp [results, Try.results150, go_sem]) rfl ⟨5, rfl, by decide, (Below.refl _ _).alloc (Nat.le_refl _) _⟩
    · simp at hr
  · have HG : Hid _ := fun w => Get_any s w (by omega)
    obtain ⟨g1, g2⟩ := get_bad h0
    rw [g1, g2] at HG
    obtain ⟨q, hq⟩ : ∃ q, getE s.data.toList = q := ⟨_, rfl⟩
    rw [hq] at HG h0
    have hq' : (q != 0) = true := by simp [h0]
    have HQ : Hid (q ≠ 0) := h0
    clear g1 g2 hq hr h0 hsl
    go_enter Try.func150, Try.ntmps150
    go_wp2_with fail
    refine (HG.out _).mono ?_
    rintro e w1 ⟨rfl, e1⟩
    subst e1
    go_wp2_with fail
    exact bodyPost_ret (v := .tuple #[.agg #[.int .i64 0, .int .i64 0, .string ⟨#[]⟩], .string ⟨#[]⟩, .int .i64 q]) (by simp [results, Try.results150, go_sem]) rfl ⟨q, rfl, HQ.out, (Below.refl _ _).alloc (Nat.le_refl _) _⟩

/-- the cell of the answer, behind a call -/
theorem cell_kept {w w2 : World} (hb : Below ((w.alloc (.cells #[.int .i64 0, .int .i64 0, .string ⟨#[]⟩] 138)).drew).heap.size ((w.alloc (.cells #[.int .i64 0, .int .i64 0, .string ⟨#[]⟩] 138)).drew) w2) :
    w2.frozen? ⟨w.heap.size, 0, none⟩ = false ∧ w2.frozen? ⟨w.heap.size, 1, none⟩ = false ∧ w2.frozen? ⟨w.heap.size, 2, none⟩ = false ∧ w2.cell? ⟨w.heap.size, 0, none⟩ = some (.int .i64 0) ∧ w2.cell? ⟨w.heap.size, 1, none⟩ = some (.int .i64 0) ∧ w2.cell? ⟨w.heap.size, 2, none⟩ = some (.string ⟨#[]⟩) := by
  have h1 : w2.heap[w.heap.size]? = some (.cells #[.int .i64 0, .int .i64 0, .string ⟨#[]⟩] 138 (0, 0)) := by
    rw [hb.block w.heap.size (by show w.heap.size < (w.heap.push _).size; simp)]
    exact Deep.blk_alloc_new w _
  refine ⟨Lib.frozen_of_heap h1 0, Lib.frozen_of_heap h1 1, Lib.frozen_of_heap h1 2, ?_, ?_, ?_⟩ <;> (rw [Lib.cell_of_heap h1]; rfl)

set_option maxRecDepth 20000 in
set_option maxHeartbeats 4000000 in
theorem readPart_ok (s : ByteArray) (p : Pt) (r : List UInt8) (w : World) (hs : s.size ≤ 9223372036854775807) (hr : readP s.data.toList = some (p, r)) :
    Calls Try.prog 150 #[.string s] w fun e w' => ∃ rs : ByteArray, e = .returned (.tuple #[.agg #[.int .i64 p.k, .int .i64 p.n, .string p.t], .string rs, .int .i64 0]) ∧ rs.data.toList = r ∧ Below w.heap.size w w' := by
  have hsl : s.data.toList.length = s.size := Array.length_toList
  by_cases h0 : getE s.data.toList = 0
  · have hg := get_le h0
    rw [readP, if_pos h0] at hr
    have HG : Hid _ := fun w => Get_any s w (by omega)
    have HDT : Hid _ := drop_text s (getK s.data.toList)
    rw [hsl] at hg
    obtain ⟨l, hl⟩ : ∃ l, s.data.toList = l := ⟨_, rfl⟩
    rw [hl] at hr HG hg h0 HDT hsl
    obtain ⟨n, hn⟩ : ∃ n, getN l = n := ⟨_, rfl⟩
    obtain ⟨k, hk⟩ : ∃ k, getK l = k := ⟨_, rfl⟩
    rw [h0, hn, hk] at HG
    rw [hn, hk] at hg hr
    rw [hk] at HDT
    clear hl hn hk h0
    obtain ⟨g1, g2, g3⟩ := hg
    have hxl : (s.extract k s.size).size = s.size - k := by rw [ByteArray.size_extract]; omega
    split at hr
    · rename_i h2
      split at hr
      · rename_i h4
        rw [List.length_drop, hsl] at h4
        simp only [Option.some.injEq, Prod.mk.injEq] at hr
        obtain ⟨rfl, rfl⟩ := hr
        have hm : (n : Int) % 4 = 2 := by omega
        obtain ⟨m, hmn⟩ : ∃ m, n / 4 = m := ⟨_, rfl⟩
        have hq : (n : Int) / 4 = (m : Int) := by omega
        rw [hmn] at h4
        have m0 : (0 : Int) ≤ (m : Int) := by omega
        have m1 : (m : Int) ≤ ((s.size - k : Nat) : Int) := by omega
        have HX : Hid ((s.extract k s.size).extract 0 m = ⟨((l.drop k).take (n / 4)).toArray⟩) := by
          show _ = _
          rw [← str_eq ((s.extract k s.size).extract 0 m), Lib.extract_data, HDT.out, hmn]; simp
        have HY : Hid (((s.extract k s.size).extract m (s.extract k s.size).size).data.toList = (l.drop k).drop (n / 4)) := by
          show _ = _
          rw [drop_text, HDT.out, hmn]
        rw [hxl] at HY
        have HZ : Hid (((s.extract k s.size).extract 0 m).size ≤ 281474976710656) := by
          show _ ≤ _
          rw [ByteArray.size_extract, hxl]
          have : m ≤ 2147483647 := by omega
          omega
        clear h2 hsl hxl hmn HDT
        go_enter Try.func150, Try.ntmps150
        go_wp2_with fail
        refine (HG.out _).mono ?_
        rintro e w1 ⟨rfl, e1⟩
        subst e1
        go_wp2_with fail
        go_region_held3 (fun _ => True) (trivial) (first | (go_at_call 66; refine (Clone_any _ _ HZ.out).mono ?_; rintro e w2 ⟨rfl, hb2⟩; obtain ⟨f0, f1, f2, d0, d1, d2⟩ := cell_kept hb2))
        all_goals
          have hz2 := hb2.size
          have HB2 : Hid (Below w.heap.size w w2) := (((Below.refl _ w).alloc (Nat.le_refl _) _).drew).trans (hb2.mono (by show w.heap.size ≤ (w.heap.push _).size; simp))
          clear hb2
          go_wp2_with fail
          refine bodyPost_ret (v := .tuple #[.agg #[.int .i64 2, .int .i64 0, .string ((s.extract k s.size).extract 0 m)], .string ((s.extract k s.size).extract m (s.size - k)), .int .i64 0]) (by simp [results, Try.results150, go_sem, *]) rfl ⟨_, by rw [HX.out], HY.out, ?_⟩
          exact ((HB2.out.setCell (p := ⟨w.heap.size, 0, none⟩) (Nat.le_refl _) _).setCell (p := ⟨w.heap.size, 1, none⟩) (Nat.le_refl _) _).setCell (p := ⟨w.heap.size, 2, none⟩) (Nat.le_refl _) _
      · simp at hr
    · rename_i h2
      simp only [Option.some.injEq, Prod.mk.injEq] at hr
      obtain ⟨rfl, rfl⟩ := hr
      have hm : ((n : Int) % 4 != 2) = true := by rw [bne_iff_ne]; omega
      have e1 : ((n % 4 : Nat) : Int) = (n : Int) % 4 := by omega
      have e2 : ((n / 4 : Nat) : Int) = (n : Int) / 4 := by omega
      have HE : Hid _ := e1
      have HE2 : Hid _ := e2
      clear h2 e1 e2 hsl hxl
      go_enter Try.func150, Try.ntmps150
      go_wp2_with fail
      refine (HG.out _).mono ?_
      rintro e w1 ⟨rfl, e1⟩
      subst e1
      go_wp2_with fail
      exact bodyPost_ret (v := .tuple #[.agg #[.int .i64 ((n : Int) % 4), .int .i64 ((n : Int) / 4), .string ⟨#[]⟩], .string (s.extract k s.size), .int .i64 0]) (by simp [results, Try.results150, go_sem]) rfl ⟨s.extract k s.size, by rw [HE.out, HE2.out], HDT.out, (Below.refl _ _).alloc (Nat.le_refl _) _⟩
  · rw [readP, if_neg h0] at hr
    simp at hr
end Go.Proofs.Ytgffippimmokiaa

/- What code.readParts answers. -/
namespace Go.Proofs.Ytgffippimmokiaa
open Go.RowKit
set_option linter.unusedSimpArgs false
set_option linter.unusedVariables false

theorem parse_map (out : List Pt) (p : Pt) (o : Option (List Pt × List UInt8)) : (o.map (fun y => (p :: y.1, y.2))).map (fun y => (out ++ y.1, y.2)) = o.map (fun y => ((out ++ [p]) ++ y.1, y.2)) := by
  cases o <;> simp
theorem bound_snoc {out : List Pt} {p : Pt} (h : Bound out) (hl : out.length ≤ 1000000000000) (hp : p.t.size ≤ 9223372036854775807 ∧ -9223372036854775808 ≤ p.n ∧ p.n ≤ 9223372036854775807 ∧ -9223372036854775808 ≤ p.k ∧ p.k ≤ 9223372036854775807) : Bound (out ++ [p]) := by
  refine ⟨by rw [List.length_append, List.length_singleton]; omega, fun q hq => ?_⟩
  rcases List.mem_append.1 hq with hq | hq
  · exact h.2 q hq
  · rw [List.mem_singleton] at hq; subst hq; exact hp

/-- what readParts answers -/
def ReadsTo (n : Nat) (l : List UInt8) (w : World) (e : Ending) (w' : World) : Prop :=
  (∃ d r v, ∃ rs : ByteArray, parseN n l = some (d, r) ∧ e = .returned (.tuple #[v, .string rs, .int .i64 0]) ∧ w'.ownsRow w.heap.size 138 3 v d.length (allCells d) ∧ rs.data.toList = r ∧ Bound d ∧ d.length = n ∧ Below w.heap.size w w') ∨
  (parseN n l = none ∧ ∃ q : Int, e = .returned (.tuple #[.slice none 0 0, .string ⟨#[]⟩, .int .i64 q]) ∧ q ≠ 0 ∧ Below w.heap.size w w')

set_option maxRecDepth 20000 in
set_option maxHeartbeats 4000000 in
theorem readParts_any (s : ByteArray) (n : Nat) (w : World) (hs : s.size ≤ 9223372036854775807) (hn : n ≤ 1600) :
    Calls Try.prog 149 #[.string s, .int .i64 n] w fun e w' => ReadsTo n s.data.toList w e w' := by
  obtain ⟨ip, hip, hp0, hp1, hp2⟩ := info_parts infoPart
  go_enter Try.func149, Try.ntmps149
  go_wp2_with fail
  go_loopw [0, 7, 12] (fun x v i wr => ∃ (k : Nat) (s' : ByteArray) (out : List Pt) (ao : Option Addr) (co : Nat), k ≤ n ∧ i = .int .i64 k ∧ x = .string s' ∧ v = .slice ao out.length co ∧ s'.size ≤ 9223372036854775807 ∧ out.length = k ∧ Bound out ∧ wr.ownsRow w.heap.size 138 3 (.slice ao out.length co) out.length (allCells out) ∧
    parseN n s.data.toList = (parseN (n - k) s'.data.toList).map (fun y => (out ++ y.1, y.2)) ∧ Below w.heap.size w wr) (fun _ _ i _ => n - (intOf i).toNat)
  case atStart =>
    refine ⟨0, s, [], none, 0, Nat.zero_le _, rfl, rfl, rfl, hs, rfl, ⟨by simp, by simp⟩, World.ownsRow_nil _ _ _ _, ?_, Below.refl _ _⟩
    simp
  case round =>
    rename World => wr
    obtain ⟨k, s', out, ao, co, hk, rfl, rfl, rfl, hs', hol, hbd, hown, hx, hb⟩ := hrel
    have hz := hb.size
    have HO : Hid (wr.ownsRow w.heap.size 138 3 (.slice ao out.length co) out.length (allCells out)) := hown
    have HB : Hid (Below w.heap.size w wr) := hb
    have HX : Hid _ := hx
    have HBD : Hid (Bound out) := hbd
    have HOL : Hid (out.length = k) := hol
    have hok : out.length ≤ 1600 := by omega
    clear hown hb hx hbd hol
    by_cases hlt : k < n
    · have HST : Hid _ := parse_step (n - (k + 1)) s'.data.toList
      rw [show n - (k + 1) + 1 = n - k by omega] at HST
      cases hr : readP s'.data.toList with
      | none =>
        rw [hr] at HST
        have HN : Hid (parseN n s.data.toList = none) := by show _ = _; rw [HX.out, HST.out]; rfl
        have HRP : Hid _ := fun w => readPart_no s' w hs' hr
        clear hr HX HST
        go_wp2_with fail
        refine (HRP.out _).mono ?_
        rintro e w1 ⟨q, rfl, hq, hb1⟩
        have hq' : (q != 0) = true := by simp [hq]
        have HQ : Hid (q ≠ 0) := hq
        have HB1 : Hid (Below w.heap.size w w1) := HB.out.trans (hb1.mono hz)
        have hz1 := HB1.out.size
        clear hq hb1
        go_wp2_with fail
        go_ret3
        exact Or.inr ⟨HN.out, q, rfl, HQ.out, HB1.out.alloc hz1 _⟩
      | some y =>
        obtain ⟨p, r⟩ := y
        rw [hr] at HST
        obtain ⟨q1, q2, q3, q4, q5, q6⟩ := readP_len hr
        rw [show s'.data.toList.length = s'.size from Array.length_toList] at q1 q4
        have HPB : Hid (p.t.size ≤ 9223372036854775807 ∧ -9223372036854775808 ≤ p.n ∧ p.n ≤ 9223372036854775807 ∧ -9223372036854775808 ≤ p.k ∧ p.k ≤ 9223372036854775807) := ⟨by omega, by omega, by omega, by omega, by omega⟩
        have HRL : Hid (r.length < s'.size) := q1
        have HRP : Hid _ := fun w => readPart_ok s' p r w hs' hr
        clear hr q1 q2 q3 q4 q5 q6
        go_wp2_with fail
        refine (HRP.out _).mono ?_
        rintro e w1 ⟨rs, rfl, hrs, hb1⟩
        have HRS : Hid (rs.data.toList = r) := hrs
        have HB1 : Hid (Below w.heap.size w w1) := HB.out.trans (hb1.mono hz)
        have HO1 : Hid (w1.ownsRow w.heap.size 138 3 (.slice ao out.length co) out.length (allCells out)) := own_stay HO.out hb1
        have hz1 := HB1.out.size
        clear hrs hb1
        have hAs := own_alloc (own_alloc HO1.out (.cells #[.int .i64 p.k, .int .i64 p.n, .string p.t] 138)) (.cells #[.int .i64 p.k, .int .i64 p.n, .string p.t] 138)
        go_wp2_with (at_builtin; refine wpList_append_own _ rfl _ _ 38 rfl w.heap.size 138 ip _ 3 32 Try.underlying38 hip hp0 hp1 hp2 rfl (by decide) _ _ _ rfl hAs ⟨w1.heap.size + 1, 0, none⟩ 1 1 [.int .i64 p.k, .int .i64 p.n, .string p.t] rfl rfl ?c2 (by simp [Value.oneCell']) ?c3 ?c4 ?c5 ?_)
        case c2 => exact World.news_of_block (cs := #[.int .i64 p.k, .int .i64 p.n, .string p.t]) (t := 138) (fr := (0, 0)) (by have h := heap_alloc_new (w1.alloc (.cells #[.int .i64 p.k, .int .i64 p.n, .string p.t] 138)) (.cells #[.int .i64 p.k, .int .i64 p.n, .string p.t] 138); rw [show (w1.alloc (.cells #[.int .i64 p.k, .int .i64 p.n, .string p.t] 138)).heap.size = w1.heap.size + 1 from Deep.nblk_alloc _ _] at h; exact h)
        case c3 => unfold maxLen; omega
        case c4 => omega
        case c5 => first | omega | (simp; omega)
        intro v' w2 hown2 hgrow _
        obtain ⟨bo, cb2, rfl⟩ := slice_form' hown2
        have HB2 : Hid (Below w.heap.size w w2) := below_own' ((HB1.out.alloc hz1 _).alloc (by simp; omega) _) hAs hgrow (by simp; omega)
        have HO2 : Hid (w2.ownsRow w.heap.size 138 3 (.slice bo (out.length + 1) cb2) (out ++ [p]).length (allCells (out ++ [p]))) := own_snoc hown2
        clear hown2 hgrow hAs
        go_wp2_with fail
        go_roundw
        case rel =>
          refine ⟨k + 1, rs, out ++ [p], bo, cb2, by omega, by go_num, rfl, by simp, ?_, by rw [List.length_append, HOL.out]; rfl, bound_snoc HBD.out (by omega) HPB.out, by have h := HO2.out; rw [List.length_append] at h ⊢; exact h, ?_, HB2.out⟩
          · have h1 := HRL.out
            rw [← HRS.out, show rs.data.toList.length = rs.size from Array.length_toList] at h1
            omega
          · rw [HX.out, HST.out, HRS.out, ← parse_map]; rfl
        case measure => simp [intOf]; omega
    · have hkn : k = n := by omega
      have HXN : Hid (parseN n s.data.toList = some (out, s'.data.toList)) := by
        show _ = _
        rw [HX.out, show n - k = 0 by omega]; simp [parseN]
      have HKN : Hid _ := hkn
      clear hkn HX
      go_wp2_with fail
      go_ret3
      exact Or.inl ⟨out, s'.data.toList, _, s', HXN.out, rfl, HO.out, rfl, HBD.out, HOL.out.trans HKN.out, HB.out⟩
end Go.Proofs.Ytgffippimmokiaa

/- What code.Read answers. -/
namespace Go.Proofs.Ytgffippimmokiaa
open Go.RowKit
set_option linter.unusedSimpArgs false
set_option linter.unusedVariables false

theorem text_nil {rs : ByteArray} (h : rs.data.toList = []) : rs = ⟨#[]⟩ := by
  rw [← str_eq rs, h]
theorem toList_ne {rs : ByteArray} (h : rs.data.toList ≠ []) : (rs.toList == []) = false := by
  rw [ByteArray.toList_eq]; exact beq_eq_false_iff_ne.2 h

set_option maxRecDepth 20000 in
set_option maxHeartbeats 4000000 in
theorem Read_ok (s : ByteArray) (d : List Pt) (w : World) (hs : s.size ≤ 9223372036854775807) (hd : IsCode s.data.toList d) :
    Calls Try.prog 147 #[.string s] w fun e w' => ∃ a cap, e = .returned (.tuple #[.slice a d.length cap, .int .i64 0]) ∧ PartsAt w' w'.heap.size a d ∧ w'.ownsRow w.heap.size 138 3 (.slice a d.length cap) d.length (allCells d) ∧ Below w.heap.size w w' := by
  obtain ⟨h0, h1, h2, h3⟩ := code_parse hd
  have HZ : Hid (sizesE d = 0) := hd.1
  have hg := get_le h0
  have HG : Hid _ := fun w => Get_any s w (by omega)
  rw [show s.data.toList.length = s.size from Array.length_toList] at hg
  have HRP : Hid _ := fun w => readParts_any (s.extract (getK s.data.toList) s.size) (getN s.data.toList) w (by rw [ByteArray.size_extract]; omega) (by omega)
  rw [drop_text] at HRP
  have HPA : Hid _ := h2
  obtain ⟨l, hl⟩ : ∃ l, s.data.toList = l := ⟨_, rfl⟩
  rw [hl] at HG HRP HPA hg h0 h1
  rw [h0, h1] at HG
  rw [h1] at HRP HPA
  obtain ⟨k, hk⟩ : ∃ k, getK l = k := ⟨_, rfl⟩
  rw [hk] at HG HRP HPA hg
  obtain ⟨g1, g2, _⟩ := hg
  clear hd h0 h1 h2 hl hk
  go_enter Try.func147, Try.ntmps147
  go_wp2_with fail
  refine (HG.out _).mono ?_
  rintro e w1 ⟨rfl, e1⟩
  subst e1
  go_wp2_with fail
  refine (HRP.out _).mono ?_
  rintro e w2 h
  rcases h with ⟨d2, r2, v, rs, hp, rfl, hown, hrs, hbd, hdl, hb⟩ | ⟨hp, _⟩
  · have he : d2 = d ∧ r2 = [] := by
      have h := hp.symm.trans HPA.out
      simpa using h
    obtain ⟨rfl, rfl⟩ := he
    have hrs2 := text_nil hrs
    subst hrs2
    obtain ⟨a, cap, rfl, hpa⟩ := parts_own hown hbd
    have HB : Hid (Below w1.heap.size w1 w2) := hb
    have HO : Hid _ := hown
    have HP2 : Hid (PartsAt w2 w2.heap.size a d2) := hpa
    clear hp hown hrs hbd hdl hb hpa
    go_wp2_with fail
    refine (Check_any a d2 cap _ HP2.out).mono ?_
    rintro e w3 ⟨rfl, hb3⟩
    rw [HZ.out]
    have HB3 : Hid (Below w1.heap.size w1 w3) := HB.out.trans (hb3.mono HB.out.size)
    have HO3 : Hid _ := own_stay HO.out hb3
    have HP3 : Hid (PartsAt w3 w3.heap.size a d2) := HP2.out.here hb3 (Nat.le_refl _)
    clear hb3
    go_wp2_with fail
    go_ret2
    exact ⟨a, cap, rfl, HP3.out, HO3.out, HB3.out⟩
  · exact absurd (hp.symm.trans HPA.out) (by simp)

set_option maxRecDepth 20000 in
set_option maxHeartbeats 4000000 in
theorem Read_no (s : ByteArray) (w : World) (hs : s.size ≤ 9223372036854775807) (hd : ∀ d, ¬ IsCode s.data.toList d) :
    Calls Try.prog 147 #[.string s] w fun e w' => e = .returned (.tuple #[.slice none 0 0, .int .i64 3]) ∧ Below w.heap.size w w' := by
  have HG : Hid _ := fun w => Get_any s w (by omega)
  by_cases h0 : getE s.data.toList = 0
  · have hg := get_le h0
    rw [show s.data.toList.length = s.size from Array.length_toList] at hg
    have HD : Hid _ := fun d hp hz => hd d (parse_code_of h0 hp hz)
    have HRP : Hid _ := fun hn w => readParts_any (s.extract (getK s.data.toList) s.size) (getN s.data.toList) w (by rw [ByteArray.size_extract]; omega) hn
    rw [drop_text] at HRP
    obtain ⟨l, hl⟩ : ∃ l, s.data.toList = l := ⟨_, rfl⟩
    rw [hl] at HG HRP hg h0 HD
    rw [h0] at HG
    obtain ⟨k, hk⟩ : ∃ k, getK l = k := ⟨_, rfl⟩
    obtain ⟨n, hn⟩ : ∃ n, getN l = n := ⟨_, rfl⟩
    rw [hk, hn] at HG HRP hg HD
    obtain ⟨g1, g2, g3⟩ := hg
    clear hd h0 hl hk hn
    by_cases hgt : n ≤ 1600
    · have HRP2 : Hid _ := HRP.out hgt
      clear HRP
      go_enter Try.func147, Try.ntmps147
      go_wp2_with fail
      refine (HG.out _).mono ?_
      rintro e w1 ⟨rfl, e1⟩
      subst e1
      go_wp2_with fail
      refine (HRP2.out _).mono ?_
      rintro e w2 h
      rcases h with ⟨d2, r2, v, rs, hp, rfl, hown, hrs, hbd, hdl, hb⟩ | ⟨hp, q, rfl, hq, hb⟩
      · have HB : Hid (Below w1.heap.size w1 w2) := hb
        by_cases hr2 : r2 = []
        · subst hr2
          have hrs2 := text_nil hrs
          subst hrs2
          obtain ⟨a, cap, rfl, hpa⟩ := parts_own hown hbd
          have HZ : Hid (sizesE d2 ≠ 0) := fun hz => HD.out d2 hp hz
          have hz2 : (sizesE d2 != 0) = true := by simpa using HZ.out
          have HP2 : Hid (PartsAt w2 w2.heap.size a d2) := hpa
          clear hp hown hrs hbd hdl hb hpa
          go_wp2_with fail
          refine (Check_any a d2 cap _ HP2.out).mono ?_
          rintro e w3 ⟨rfl, hb3⟩
          have HB3 : Hid (Below w1.heap.size w1 w3) := HB.out.trans (hb3.mono HB.out.size)
          clear hb3
          go_wp2_with fail
          go_ret2
          exact ⟨rfl, HB3.out⟩
        · have hrt : (rs.toList == []) = false := toList_ne (by rw [hrs]; exact hr2)
          have hrt2 : (!(rs.toList == [])) = true := by rw [hrt]; rfl
          clear hp hown hrs hbd hdl hb
          go_wp2_with fail
          go_ret2
          exact ⟨rfl, HB.out⟩
      · have hq2 : (q != 0) = true := by simpa using hq
        have HB : Hid (Below w1.heap.size w1 w2) := hb
        clear hq hb hp
        go_wp2_with fail
        go_ret2
        exact ⟨rfl, HB.out⟩
    · clear HRP HD
      go_enter Try.func147, Try.ntmps147
      go_wp2_with fail
      refine (HG.out _).mono ?_
      rintro e w1 ⟨rfl, e1⟩
      subst e1
      go_wp2_with fail
      go_ret2
      exact ⟨rfl, Below.refl _ _⟩
  · obtain ⟨g1, g2⟩ := get_bad h0
    rw [g1, g2] at HG
    obtain ⟨q, hq⟩ : ∃ q, getE s.data.toList = q := ⟨_, rfl⟩
    rw [hq] at HG h0
    have hq' : (q != 0) = true := by simp [h0]
    clear g1 g2 hq h0 hd
    go_enter Try.func147, Try.ntmps147
    go_wp2_with fail
    refine (HG.out _).mono ?_
    rintro e w1 ⟨rfl, e1⟩
    subst e1
    go_wp2_with fail
    go_ret2
    exact ⟨rfl, Below.refl _ _⟩
end Go.Proofs.Ytgffippimmokiaa
