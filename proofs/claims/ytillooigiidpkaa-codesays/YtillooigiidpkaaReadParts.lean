/- What code.readParts answers. -/
import Derived.Test.YtillooigiidpkaaReadPart
import Derived.Test.YtillooigiidpkaaPtKit
import Derived.Deep.AppendLies
namespace Go.Proofs.Ytillooigiidpkaa
open Go.RowKit
set_option linter.unusedSimpArgs false
set_option linter.unusedVariables false

theorem parse_map (out : List Pt) (p : Pt) (o : Option (List Pt × List UInt8)) : (o.map (fun y => (p :: y.1, y.2))).map (fun y => (out ++ y.1, y.2)) = o.map (fun y => ((out ++ [p]) ++ y.1, y.2)) := by
  cases o <;> simp
theorem bound_snoc {out : List Pt} {p : Pt} (h : Bound out) (hl : out.length ≤ 1000000000000) (hp : p.t.size ≤ 9223372036854775807 ∧ -9223372036854775808 ≤ p.n ∧ p.n ≤ 9223372036854775807 ∧ -9223372036854775808 ≤ p.k ∧ p.k ≤ 9223372036854775807) : Bound (out ++ [p]) := by
  refine ⟨by rw [List.length_append, List.length_singleton]; omega, fun q hq => ?_⟩
  rcases List.mem_append.1 hq with hq | hq
  · exact h.2 q hq
  · rw [List.mem_singleton] at hq; subst hq; exact hp

/-- what readParts answers -/
def ReadsTo (n : Nat) (l : List UInt8) (w : World) (e : Ending) (w' : World) : Prop :=
  (∃ d r v, ∃ rs : ByteArray, parseN n l = some (d, r) ∧ e = .returned (.tuple #[v, .string rs, .int .i64 0]) ∧ w'.ownsRow w.heap.size 51 3 v d.length (allCells d) ∧ rs.data.toList = r ∧ Bound d ∧ d.length = n ∧ Below w.heap.size w w') ∨
  (parseN n l = none ∧ ∃ q : Int, e = .returned (.tuple #[.slice none 0 0, .string ⟨#[]⟩, .int .i64 q]) ∧ q ≠ 0 ∧ Below w.heap.size w w')

set_option maxRecDepth 20000 in
set_option maxHeartbeats 4000000 in
theorem readParts_any (s : ByteArray) (n : Nat) (w : World) (hs : s.size ≤ 9223372036854775807) (hn : n ≤ 1600) :
    Calls Try.prog 29 #[.string s, .int .i64 n] w fun e w' => ReadsTo n s.data.toList w e w' := by
  obtain ⟨ip, hip, hp0, hp1, hp2⟩ := info_parts infoPart
  go_enter Try.func29, Try.ntmps29
  go_wp2_with fail
  go_loopw [0, 7, 12] (fun x v i wr => ∃ (k : Nat) (s' : ByteArray) (out : List Pt) (ao : Option Addr) (co : Nat), k ≤ n ∧ i = .int .i64 k ∧ x = .string s' ∧ v = .slice ao out.length co ∧ s'.size ≤ 9223372036854775807 ∧ out.length = k ∧ Bound out ∧ wr.ownsRow w.heap.size 51 3 (.slice ao out.length co) out.length (allCells out) ∧
    parseN n s.data.toList = (parseN (n - k) s'.data.toList).map (fun y => (out ++ y.1, y.2)) ∧ Below w.heap.size w wr) (fun _ _ i _ => n - (intOf i).toNat)
  case atStart =>
    refine ⟨0, s, [], none, 0, Nat.zero_le _, rfl, rfl, rfl, hs, rfl, ⟨by simp, by simp⟩, World.ownsRow_nil _ _ _ _, ?_, Below.refl _ _⟩
    simp
  case round =>
    rename World => wr
    obtain ⟨k, s', out, ao, co, hk, rfl, rfl, rfl, hs', hol, hbd, hown, hx, hb⟩ := hrel
    have hz := hb.size
    have HO : Hid (wr.ownsRow w.heap.size 51 3 (.slice ao out.length co) out.length (allCells out)) := hown
    have HB : Hid (Below w.heap.size w wr) := hb
    have HX : Hid _ := hx
    have HBD : Hid (Bound out) := hbd
    have HOL : Hid (out.length = k) := hol
    have hok : out.length ≤ 1600 := by omega
    clear hown hb hx hbd hol
    by_cases hlt : k < n
    · have HST : Hid _ := parse_step (n - (k + 1)) s'.data.toList
      rw [show n - (k + 1) + 1 = n - k by omega] at HST
      cases hr : readP s'.data.toList with
      | none =>
        rw [hr] at HST
        have HN : Hid (parseN n s.data.toList = none) := by show _ = _; rw [HX.out, HST.out]; rfl
        have HRP : Hid _ := fun w => readPart_no s' w hs' hr
        clear hr HX HST
        go_wp2_with fail
        refine (HRP.out _).mono ?_
        rintro e w1 ⟨q, rfl, hq, hb1⟩
        have hq' : (q != 0) = true := by simp [hq]
        have HQ : Hid (q ≠ 0) := hq
        have HB1 : Hid (Below w.heap.size w w1) := HB.out.trans (hb1.mono hz)
        have hz1 := HB1.out.size
        clear hq hb1
        go_wp2_with fail
        go_ret3
        exact Or.inr ⟨HN.out, q, rfl, HQ.out, HB1.out.alloc hz1 _⟩
      | some y =>
        obtain ⟨p, r⟩ := y
        rw [hr] at HST
        obtain ⟨q1, q2, q3, q4, q5, q6⟩ := readP_len hr
        rw [show s'.data.toList.length = s'.size from Array.length_toList] at q1 q4
        have HPB : Hid (p.t.size ≤ 9223372036854775807 ∧ -9223372036854775808 ≤ p.n ∧ p.n ≤ 9223372036854775807 ∧ -9223372036854775808 ≤ p.k ∧ p.k ≤ 9223372036854775807) := ⟨by omega, by omega, by omega, by omega, by omega⟩
        have HRL : Hid (r.length < s'.size) := q1
        have HRP : Hid _ := fun w => readPart_ok s' p r w hs' hr
        clear hr q1 q2 q3 q4 q5 q6
        go_wp2_with fail
        refine (HRP.out _).mono ?_
        rintro e w1 ⟨rs, rfl, hrs, hb1⟩
        have HRS : Hid (rs.data.toList = r) := hrs
        have HB1 : Hid (Below w.heap.size w w1) := HB.out.trans (hb1.mono hz)
        have HO1 : Hid (w1.ownsRow w.heap.size 51 3 (.slice ao out.length co) out.length (allCells out)) := own_stay HO.out hb1
        have hz1 := HB1.out.size
        clear hrs hb1
        have hAs := own_alloc (own_alloc HO1.out (.cells #[.int .i64 p.k, .int .i64 p.n, .string p.t] 51)) (.cells #[.int .i64 p.k, .int .i64 p.n, .string p.t] 51)
        go_wp2_with (at_builtin; refine wpList_append_own _ rfl _ _ 29 rfl w.heap.size 51 ip _ 3 32 Try.underlying29 hip hp0 hp1 hp2 rfl (by decide) _ _ _ rfl hAs ⟨w1.heap.size + 1, 0, none⟩ 1 1 [.int .i64 p.k, .int .i64 p.n, .string p.t] rfl rfl ?c2 (by simp [Value.oneCell']) ?c3 ?c4 ?c5 ?_)
        case c2 => exact World.news_of_block (cs := #[.int .i64 p.k, .int .i64 p.n, .string p.t]) (t := 51) (fr := (0, 0)) (by have h := heap_alloc_new (w1.alloc (.cells #[.int .i64 p.k, .int .i64 p.n, .string p.t] 51)) (.cells #[.int .i64 p.k, .int .i64 p.n, .string p.t] 51); rw [show (w1.alloc (.cells #[.int .i64 p.k, .int .i64 p.n, .string p.t] 51)).heap.size = w1.heap.size + 1 from Deep.nblk_alloc _ _] at h; exact h)
        case c3 => unfold maxLen; omega
        case c4 => omega
        case c5 => first | omega | (simp; omega)
        intro v' w2 hown2 hgrow _
        obtain ⟨bo, cb2, rfl⟩ := slice_form' hown2
        have HB2 : Hid (Below w.heap.size w w2) := below_own' ((HB1.out.alloc hz1 _).alloc (by simp; omega) _) hAs hgrow (by simp; omega)
        have HO2 : Hid (w2.ownsRow w.heap.size 51 3 (.slice bo (out.length + 1) cb2) (out ++ [p]).length (allCells (out ++ [p]))) := own_snoc hown2
        clear hown2 hgrow hAs
        go_wp2_with fail
        go_roundw
        case rel =>
          refine ⟨k + 1, rs, out ++ [p], bo, cb2, by omega, by go_num, rfl, by simp, ?_, by rw [List.length_append, HOL.out]; rfl, bound_snoc HBD.out (by omega) HPB.out, by have h := HO2.out; rw [List.length_append] at h ⊢; exact h, ?_, HB2.out⟩
          · have h1 := HRL.out
            rw [← HRS.out, show rs.data.toList.length = rs.size from Array.length_toList] at h1
            omega
          · rw [HX.out, HST.out, HRS.out, ← parse_map]; rfl
        case measure => simp [intOf]; omega
    · have hkn : k = n := by omega
      have HXN : Hid (parseN n s.data.toList = some (out, s'.data.toList)) := by
        show _ = _
        rw [HX.out, show n - k = 0 by omega]; simp [parseN]
      have HKN : Hid _ := hkn
      clear hkn HX
      go_wp2_with fail
      go_ret3
      exact Or.inl ⟨out, s'.data.toList, _, s', HXN.out, rfl, HO.out, rfl, HBD.out, HOL.out.trans HKN.out, HB.out⟩
end Go.Proofs.Ytillooigiidpkaa
