/- What the document's own Decode answers. -/
import Derived.Test.YtgffippimmokiaaRUnnum
import Derived.Test.YtgffippimmokiaaHotHead
import Derived.Test.YtgffippimmokiaaCodeRead
import Derived.Test.YtgffippimmokiaaCodeFinds
namespace Go.Proofs.Ytgffippimmokiaa
open Go.RowKit
set_option linter.unusedSimpArgs false
set_option linter.unusedVariables false

/-- what Decode answers -/
def DecodesTo (l : List UInt8) (w : World) (e : Ending) (w' : World) : Prop :=
  ((∃ d a cap, IsCode l d ∧ e = .returned (.tuple #[.slice a d.length cap, .int .i64 0]) ∧ PartsAt w' w'.heap.size a d) ∨ ((∀ d, ¬ IsCode l d) ∧ e = .returned (.tuple #[.slice none 0 0, .int .i64 3]))) ∧ Below w.heap.size w w'

/-- and it is the call's own -/
def DecodesOwn (l : List UInt8) (w : World) (e : Ending) (w' : World) : Prop :=
  ((∃ d a cap, IsCode l d ∧ e = .returned (.tuple #[.slice a d.length cap, .int .i64 0]) ∧ PartsAt w' w'.heap.size a d ∧ w'.ownsRow w.heap.size 138 3 (.slice a d.length cap) d.length (allCells d)) ∨ ((∀ d, ¬ IsCode l d) ∧ e = .returned (.tuple #[.slice none 0 0, .int .i64 3]))) ∧ Below w.heap.size w w'

theorem drop_more (l : List UInt8) (a b : Nat) : (l.drop a).drop b = l.drop (a + b) := by rw [List.drop_drop]
theorem read_at {l : List UInt8} {k : Nat} (he : getE (l.drop k) = 0) : readP (l.drop k) = if getN (l.drop k) % 4 = 2 then
      if getN (l.drop k) / 4 ≤ l.length - (k + getK (l.drop k)) then some (⟨2, 0, ⟨((l.drop (k + getK (l.drop k))).take (getN (l.drop k) / 4)).toArray⟩⟩, l.drop (k + getK (l.drop k) + getN (l.drop k) / 4)) else none
    else some (⟨(getN (l.drop k) % 4 : Nat), (getN (l.drop k) / 4 : Nat), ⟨#[]⟩⟩, l.drop (k + getK (l.drop k))) := by
  rw [readP, if_pos he]
  simp only [drop_more, List.length_drop]

set_option maxRecDepth 20000 in
set_option maxHeartbeats 8000000 in
theorem RDecodeO_any (s : ByteArray) (w : World) (hs : s.size ≤ 9223372036854775807) :
    Calls Try.prog 85 #[.string s] w fun e w' => DecodesOwn s.data.toList w e w' := by
  obtain ⟨ip, hip, hp0, hp1, hp2⟩ := info_parts infoPart
  have HU : Hid _ := fun w => RUnnum_any s w hs
  have HUD : Hid (∀ k w, Calls Try.prog 110 #[.string (s.extract k s.size)] w fun e w' => e = .returned (.tuple #[.int .i64 (getN (s.data.toList.drop k)), .int .i64 (getK (s.data.toList.drop k)), .int .i64 (getE (s.data.toList.drop k))]) ∧ Below w.heap.size w w') := fun k w => by
    have h := RUnnum_any (s.extract k s.size) w (by rw [ByteArray.size_extract]; omega)
    rw [drop_text] at h
    exact h
  obtain ⟨l, hl⟩ : ∃ l, s.data.toList = l := ⟨_, rfl⟩
  have HLN : Hid (l.length = s.size) := by show _ = _; rw [← hl]; exact Array.length_toList
  have HLS : Hid (s.data.toList = l) := hl
  rw [hl] at HU HUD
  rw [hl]
  clear hl
  by_cases h0 : getE l = 0
  · have hg := get_le h0
    have HCP : Hid (∀ d, IsCode l d → parseN (getN l) (l.drop (getK l)) = some (d, [])) := fun d h => (code_parse h).2.2.1
    rw [h0] at HU
    obtain ⟨K, hK⟩ : ∃ k, getK l = k := ⟨_, rfl⟩
    obtain ⟨n, hn⟩ : ∃ n, getN l = n := ⟨_, rfl⟩
    rw [hK, hn] at HU hg HCP
    rw [HLN.out] at hg
    obtain ⟨g1, g2, g3⟩ := hg
    clear h0 hK hn
    go_enter Try.func85, Try.ntmps85
    go_wp2_with fail
    refine (HU.out _).mono ?_
    rintro e w1 ⟨rfl, hb1⟩
    have HB1 : Hid (Below w.heap.size w w1) := hb1
    have hzw1 := hb1.size
    clear hb1
    go_wp2_with fail
    go_loopw [5, 7, 21] (fun x v i wr => ∃ (j k : Nat) (out : List Pt) (ao : Option Addr) (co : Nat), j ≤ n ∧ k ≤ s.size ∧ i = .int .i64 j ∧ x = .int .i64 k ∧ v = .slice ao out.length co ∧ out.length = j ∧ Bound out ∧ wr.ownsRow w.heap.size 138 3 (.slice ao out.length co) out.length (allCells out) ∧
      parseN n (l.drop K) = (parseN (n - j) (l.drop k)).map (fun y => (out ++ y.1, y.2)) ∧ Below w.heap.size w wr) (fun _ _ i _ => n - (intOf i).toNat)
    case atStart =>
      refine ⟨0, K, [], none, 0, Nat.zero_le _, g2, rfl, rfl, rfl, rfl, ⟨by simp, by simp⟩, World.ownsRow_nil _ _ _ _, ?_, HB1.out⟩
      simp
    case round =>
      rename World => wr
      obtain ⟨j, k, out, ao, co, hj, hk, rfl, rfl, rfl, hol, hbd, hown, hx, hb⟩ := hrel
      have hz := hb.size
      have HO : Hid (wr.ownsRow w.heap.size 138 3 (.slice ao out.length co) out.length (allCells out)) := hown
      have HB : Hid (Below w.heap.size w wr) := hb
      have HX : Hid _ := hx
      have HBD : Hid (Bound out) := hbd
      have HOL : Hid (out.length = j) := hol
      have hok : out.length ≤ 2147483647 := by omega
      clear hown hb hx hbd hol
      by_cases hlt : j < n
      · have HST : Hid _ := parse_step (n - (j + 1)) (l.drop k)
        rw [show n - (j + 1) + 1 = n - j by omega] at HST
        have HDL : Hid ((l.drop k).length = s.size - k) := by show _ = _; rw [List.length_drop, HLN.out]
        by_cases he : getE (l.drop k) = 0
        · have hg2 := get_le he
          rw [HDL.out] at hg2
          have HU2 : Hid _ := HUD.out k
          have HRP : Hid _ := read_at he
          rw [he] at HU2
          obtain ⟨x, hx⟩ : ∃ x, getN (l.drop k) = x := ⟨_, rfl⟩
          obtain ⟨m, hm⟩ : ∃ m, getK (l.drop k) = m := ⟨_, rfl⟩
          rw [hx, hm] at HU2 hg2 HRP
          obtain ⟨q1, q2, q3⟩ := hg2
          clear he hx hm
          by_cases hx2 : x % 4 = 2
          · have hxm : (x : Int) % 4 = 2 := by omega
            rw [if_pos hx2] at HRP
            obtain ⟨y, hy⟩ : ∃ y, x / 4 = y := ⟨_, rfl⟩
            have hyq : (x : Int) / 4 = (y : Int) := by omega
            rw [hy] at HRP
            by_cases hle : y ≤ s.size - (k + m)
            · rw [if_pos (by rw [HLN.out]; exact hle)] at HRP
              have HTX : Hid ((⟨((l.drop (k + m)).take y).toArray⟩ : ByteArray) = s.extract (k + m) (k + m + y)) := by
                show _ = _
                rw [← str_eq (s.extract (k + m) (k + m + y)), Lib.extract_data, HLS.out, Nat.add_sub_cancel_left]
              rw [HTX.out] at HRP
              have HTS : Hid ((s.extract (k + m) (k + m + y)).size = y) := by show _ = _; rw [ByteArray.size_extract]; omega
              have HPB : Hid ((⟨2, 0, s.extract (k + m) (k + m + y)⟩ : Pt).t.size ≤ 9223372036854775807 ∧ -9223372036854775808 ≤ (⟨2, 0, s.extract (k + m) (k + m + y)⟩ : Pt).n ∧ (⟨2, 0, s.extract (k + m) (k + m + y)⟩ : Pt).n ≤ 9223372036854775807 ∧ -9223372036854775808 ≤ (⟨2, 0, s.extract (k + m) (k + m + y)⟩ : Pt).k ∧ (⟨2, 0, s.extract (k + m) (k + m + y)⟩ : Pt).k ≤ 9223372036854775807) := ⟨by show (s.extract (k + m) (k + m + y)).size ≤ _; rw [HTS.out]; omega, by show (-9223372036854775808 : Int) ≤ 0; decide, by show (0 : Int) ≤ 9223372036854775807; decide, by show (-9223372036854775808 : Int) ≤ 2; decide, by show (2 : Int) ≤ 9223372036854775807; decide⟩
              have hts := HTS.out
              clear hx2 hy
              have HU3 : Hid _ := HU2.out
              go_wp2_with fail
              refine (HU3.out _).mono ?_
              rintro e w2 ⟨rfl, hb2⟩
              have HB2 : Hid (Below w.heap.size w w2) := HB.out.trans (hb2.mono hz)
              have HO2 : Hid (w2.ownsRow w.heap.size 138 3 (.slice ao out.length co) out.length (allCells out)) := own_stay HO.out hb2
              have hz2 := HB2.out.size
              clear hb2
              have hAs := own_alloc (own_alloc HO2.out (.cells #[.int .i64 2, .int .i64 0, .string (s.extract (k + m) (k + m + y))] 138)) (.cells #[.int .i64 2, .int .i64 0, .string (s.extract (k + m) (k + m + y))] 138)
              go_wp2_with (at_builtin; refine wpList_append_own _ rfl _ _ 38 rfl w.heap.size 138 ip _ 3 32 Try.underlying38 hip hp0 hp1 hp2 rfl (by decide) _ _ _ rfl hAs ⟨w2.heap.size + 1, 0, none⟩ 1 1 [.int .i64 2, .int .i64 0, .string (s.extract (k + m) (k + m + y))] rfl rfl ?c2 (by simp [Value.oneCell']) ?c3 ?c4 ?c5 ?_)
              case c2 => exact World.news_of_block (cs := #[.int .i64 2, .int .i64 0, .string (s.extract (k + m) (k + m + y))]) (t := 138) (fr := (0, 0)) (by have h := heap_alloc_new (w2.alloc (.cells #[.int .i64 2, .int .i64 0, .string (s.extract (k + m) (k + m + y))] 138)) (.cells #[.int .i64 2, .int .i64 0, .string (s.extract (k + m) (k + m + y))] 138); rw [show (w2.alloc (.cells #[.int .i64 2, .int .i64 0, .string (s.extract (k + m) (k + m + y))] 138)).heap.size = w2.heap.size + 1 from Deep.nblk_alloc _ _] at h; exact h)
              case c3 => unfold maxLen; omega
              case c4 => omega
              case c5 => first | omega | (simp; omega)
              intro v' w3 hown3 hgrow _
              obtain ⟨bo, cb3, rfl⟩ := slice_form' hown3
              have HB3 : Hid (Below w.heap.size w w3) := below_own' ((HB2.out.alloc hz2 _).alloc (by simp; omega) _) hAs hgrow (by simp; omega)
              have HO3 : Hid (w3.ownsRow w.heap.size 138 3 (.slice bo (out.length + 1) cb3) (out ++ [(⟨2, 0, s.extract (k + m) (k + m + y)⟩ : Pt)]).length (allCells (out ++ [(⟨2, 0, s.extract (k + m) (k + m + y)⟩ : Pt)]))) := own_snoc hown3
              clear hown3 hgrow hAs
              go_wp2_with fail
              go_roundw
              case rel =>
                refine ⟨j + 1, k + m + y, out ++ [(⟨2, 0, s.extract (k + m) (k + m + y)⟩ : Pt)], bo, cb3, by omega, by omega, by go_num, by first | rfl | go_num, by simp, by rw [List.length_append, HOL.out]; rfl, bound_snoc HBD.out (by omega) HPB.out, by have h := HO3.out; rw [List.length_append] at h ⊢; exact h, ?_, HB3.out⟩
                rw [HX.out, HST.out, HRP.out, ← parse_map]; rfl
              case measure => simp [intOf]; omega
            · rw [if_neg (by rw [HLN.out]; exact hle)] at HRP
              have HNO : Hid (∀ d, ¬ IsCode l d) := by
                intro d hd
                have h := HCP.out d hd
                rw [HX.out, HST.out, HRP.out] at h
                simp at h
              clear HX HST HRP hx2 hy
              go_wp2_with fail
              refine (HU2.out _).mono ?_
              rintro e w2 ⟨rfl, hb2⟩
              have HB2 : Hid (Below w.heap.size w w2) := HB.out.trans (hb2.mono hz)
              have hz2 := HB2.out.size
              clear hb2
              go_wp2_with fail
              go_ret2
              exact ⟨Or.inr ⟨HNO.out, rfl⟩, HB2.out.alloc hz2 _⟩
          · rw [if_neg hx2] at HRP
            obtain ⟨y, hy⟩ : ∃ y, x / 4 = y := ⟨_, rfl⟩
            obtain ⟨r, hr⟩ : ∃ r, x % 4 = r := ⟨_, rfl⟩
            rw [hy, hr] at HRP
            have hyq : (x : Int) / 4 = (y : Int) := by omega
            have hxr : (x : Int) % 4 = (r : Int) := by omega
            have hr2 : ((r : Int) == 2) = false := by rw [beq_eq_false_iff_ne]; omega
            have HPB : Hid ((⟨(r : Nat), (y : Nat), ⟨#[]⟩⟩ : Pt).t.size ≤ 9223372036854775807 ∧ -9223372036854775808 ≤ (⟨(r : Nat), (y : Nat), ⟨#[]⟩⟩ : Pt).n ∧ (⟨(r : Nat), (y : Nat), ⟨#[]⟩⟩ : Pt).n ≤ 9223372036854775807 ∧ -9223372036854775808 ≤ (⟨(r : Nat), (y : Nat), ⟨#[]⟩⟩ : Pt).k ∧ (⟨(r : Nat), (y : Nat), ⟨#[]⟩⟩ : Pt).k ≤ 9223372036854775807) := ⟨by show (0 : Nat) ≤ _; omega, by show _ ≤ (y : Int); omega, by show (y : Int) ≤ _; omega, by show _ ≤ (r : Int); omega, by show (r : Int) ≤ _; omega⟩
            clear hx2 hy hr
            have HU3 : Hid _ := HU2.out
            go_wp2_with fail
            refine (HU3.out _).mono ?_
            rintro e w2 ⟨rfl, hb2⟩
            have HB2 : Hid (Below w.heap.size w w2) := HB.out.trans (hb2.mono hz)
            have HO2 : Hid (w2.ownsRow w.heap.size 138 3 (.slice ao out.length co) out.length (allCells out)) := own_stay HO.out hb2
            have hz2 := HB2.out.size
            clear hb2
            have hAs := own_alloc (own_alloc HO2.out (.cells #[.int .i64 (r : Int), .int .i64 (y : Int), .string ⟨#[]⟩] 138)) (.cells #[.int .i64 (r : Int), .int .i64 (y : Int), .string ⟨#[]⟩] 138)
            go_wp2_with (at_builtin; refine wpList_append_own _ rfl _ _ 38 rfl w.heap.size 138 ip _ 3 32 Try.underlying38 hip hp0 hp1 hp2 rfl (by decide) _ _ _ rfl hAs ⟨w2.heap.size + 1, 0, none⟩ 1 1 [.int .i64 (r : Int), .int .i64 (y : Int), .string ⟨#[]⟩] rfl rfl ?c2 (by simp [Value.oneCell']) ?c3 ?c4 ?c5 ?_)
            case c2 => exact World.news_of_block (cs := #[.int .i64 (r : Int), .int .i64 (y : Int), .string ⟨#[]⟩]) (t := 138) (fr := (0, 0)) (by have h := heap_alloc_new (w2.alloc (.cells #[.int .i64 (r : Int), .int .i64 (y : Int), .string ⟨#[]⟩] 138)) (.cells #[.int .i64 (r : Int), .int .i64 (y : Int), .string ⟨#[]⟩] 138); rw [show (w2.alloc (.cells #[.int .i64 (r : Int), .int .i64 (y : Int), .string ⟨#[]⟩] 138)).heap.size = w2.heap.size + 1 from Deep.nblk_alloc _ _] at h; exact h)
            case c3 => unfold maxLen; omega
            case c4 => omega
            case c5 => first | omega | (simp; omega)
            intro v' w3 hown3 hgrow _
            obtain ⟨bo, cb3, rfl⟩ := slice_form' hown3
            have HB3 : Hid (Below w.heap.size w w3) := below_own' ((HB2.out.alloc hz2 _).alloc (by simp; omega) _) hAs hgrow (by simp; omega)
            have HO3 : Hid (w3.ownsRow w.heap.size 138 3 (.slice bo (out.length + 1) cb3) (out ++ [(⟨(r : Nat), (y : Nat), ⟨#[]⟩⟩ : Pt)]).length (allCells (out ++ [(⟨(r : Nat), (y : Nat), ⟨#[]⟩⟩ : Pt)]))) := own_snoc hown3
            clear hown3 hgrow hAs
            go_wp2_with fail
            go_roundw
            case rel =>
              refine ⟨j + 1, k + m, out ++ [(⟨(r : Nat), (y : Nat), ⟨#[]⟩⟩ : Pt)], bo, cb3, by omega, by omega, by go_num, by first | rfl | go_num, by simp, by rw [List.length_append, HOL.out]; rfl, bound_snoc HBD.out (by omega) HPB.out, by have h := HO3.out; rw [List.length_append] at h ⊢; exact h, ?_, HB3.out⟩
              rw [HX.out, HST.out, HRP.out, ← parse_map]; rfl
            case measure => simp [intOf]; omega
        · have HNO : Hid (∀ d, ¬ IsCode l d) := by
            intro d hd
            have h := HCP.out d hd
            have hr : readP (l.drop k) = none := by rw [readP, if_neg he]
            rw [HX.out, HST.out, hr] at h
            simp at h
          have HU2 : Hid _ := HUD.out k
          obtain ⟨b1, b2⟩ := get_bad he
          rw [b1, b2] at HU2
          obtain ⟨q, hq⟩ : ∃ q, getE (l.drop k) = q := ⟨_, rfl⟩
          rw [hq] at HU2 he
          have hq' : (q != 0) = true := by simp [he]
          clear b1 b2 hq he HX HST
          go_wp2_with fail
          refine (HU2.out _).mono ?_
          rintro e w2 ⟨rfl, hb2⟩
          have HB2 : Hid (Below w.heap.size w w2) := HB.out.trans (hb2.mono hz)
          clear hb2
          go_wp2_with fail
          go_ret2
          exact ⟨Or.inr ⟨HNO.out, rfl⟩, HB2.out⟩
      · have HXN : Hid (∀ d, IsCode l d → d = out) := by
          intro d hd
          have h := HCP.out d hd
          rw [HX.out, show n - j = 0 by omega] at h
          simp only [parseN, Option.map_some, List.append_nil, Option.some.injEq, Prod.mk.injEq] at h
          exact h.1.symm
        obtain ⟨a, cap, hv, hpa⟩ := parts_own HO.out HBD.out
        simp only [Value.slice.injEq, true_and] at hv
        obtain ⟨rfl, rfl⟩ := hv
        have HPA : Hid (PartsAt wr wr.heap.size ao out) := hpa
        clear hpa HX
        go_wp2_with fail
        refine (Delta_any ao out co _ HPA.out).mono ?_
        rintro e w2 ⟨rfl, hb2⟩
        have HB2 : Hid (Below w.heap.size w w2) := HB.out.trans (hb2.mono hz)
        have HP2 : Hid (PartsAt w2 w2.heap.size ao out) := HPA.out.here hb2 (Nat.le_refl _)
        have HO2 : Hid (w2.ownsRow w.heap.size 138 3 (.slice ao out.length co) out.length (allCells out)) := own_stay HO.out hb2
        clear hb2
        by_cases hz0 : sizesE out = 0
        · have HRC : Hid _ := fun w hp => RCode_any ao out co w hp hz0
          have HZ0 : Hid (sizesE out = 0) := hz0
          obtain ⟨t, ht⟩ : ∃ t, codeL out = t := ⟨_, rfl⟩
          have HTC : Hid (codeL out = t) := ht
          rw [ht] at HRC
          rw [hz0]
          clear ht hz0
          go_wp2_with fail
          refine (HRC.out _ HP2.out).mono ?_
          rintro e w3 ⟨rfl, hb3⟩
          have HB3 : Hid (Below w.heap.size w w3) := HB2.out.trans (hb3.mono HB2.out.size)
          have HP3 : Hid (PartsAt w3 w3.heap.size ao out) := HP2.out.here hb3 (Nat.le_refl _)
          have HO3 : Hid (w3.ownsRow w.heap.size 138 3 (.slice ao out.length co) out.length (allCells out)) := own_stay HO2.out hb3
          clear hb3
          by_cases heq : t = l
          · have hx : (t == s.toList) = true := by rw [ByteArray.toList_eq, HLS.out, heq]; exact beq_self_eq_true _
            have HIC : Hid (IsCode l out) := ⟨HZ0.out, HTC.out.trans heq⟩
            clear heq
            have hx2 : (!(t == s.toList)) = false := by rw [hx]; rfl
            clear hx
            go_wp2_with fail
            go_ret2
            exact ⟨Or.inl ⟨out, ao, co, HIC.out, rfl, HP3.out, HO3.out⟩, HB3.out⟩
          · have hx : (t == s.toList) = false := by rw [ByteArray.toList_eq, HLS.out]; exact beq_eq_false_iff_ne.2 heq
            have HNO : Hid (∀ d, ¬ IsCode l d) := fun d hd => heq (by have h1 := HXN.out d hd; subst h1; exact HTC.out.symm.trans hd.2)
            have hx2 : (!(t == s.toList)) = true := by rw [hx]; rfl
            clear heq hx
            go_wp2_with fail
            go_ret2
            exact ⟨Or.inr ⟨HNO.out, rfl⟩, HB3.out⟩
        · have hz1 : (sizesE out != 0) = true := by simpa using hz0
          have HNO : Hid (∀ d, ¬ IsCode l d) := fun d hd => hz0 (by have h1 := HXN.out d hd; subst h1; exact hd.1)
          clear hz0
          go_wp2_with fail
          go_ret2
          exact ⟨Or.inr ⟨HNO.out, rfl⟩, HB2.out⟩
  · have HNO : Hid (∀ d, ¬ IsCode l d) := fun d hd => h0 (code_parse hd).1
    obtain ⟨g1, g2⟩ := get_bad h0
    rw [g1, g2] at HU
    obtain ⟨q, hq⟩ : ∃ q, getE l = q := ⟨_, rfl⟩
    rw [hq] at HU h0
    have hq' : (q != 0) = true := by simp [h0]
    clear g1 g2 hq h0
    go_enter Try.func85, Try.ntmps85
    go_wp2_with fail
    refine (HU.out _).mono ?_
    rintro e w1 ⟨rfl, hb1⟩
    go_wp2_with fail
    go_ret2
    exact ⟨Or.inr ⟨HNO.out, rfl⟩, hb1⟩
theorem RDecode_any (s : ByteArray) (w : World) (hs : s.size ≤ 9223372036854775807) :
    Calls Try.prog 85 #[.string s] w fun e w' => DecodesTo s.data.toList w e w' :=
  (RDecodeO_any s w hs).mono fun e w' h => by
    obtain ⟨h | h, hb⟩ := h
    · obtain ⟨d, a, cap, h1, h2, h3, _⟩ := h
      exact ⟨.inl ⟨d, a, cap, h1, h2, h3⟩, hb⟩
    · exact ⟨.inr h, hb⟩
end Go.Proofs.Ytgffippimmokiaa
