/- What comp.joined and comp.Of answer. -/
import Derived.Test.YtcghojnmnmmpoaaPass
import Derived.Test.YtcghojnmnmmpoaaCaps
namespace Go.Proofs.Ytcghojnmnmmpoaa
open Go.RowKit
set_option linter.unusedSimpArgs false
set_option linter.unusedVariables false

theorem cells_one (l : List Pt) : ∀ u ∈ allCells l, u.oneCell' = true := by
  intro u hu
  simp only [allCells, List.mem_flatMap] at hu
  obtain ⟨p, _, hp⟩ := hu
  simp only [ptCells, List.mem_cons, List.mem_nil_iff, or_false] at hp
  rcases hp with rfl | rfl | rfl <;> rfl
theorem cells_at {w : World} {B : Nat} {ad : Addr} {l : List Pt} (h : PartsAt w B (some ad) l) : ∀ j u, (allCells l)[j]? = some u → w.cell? (ad.add j) = some u := by
  intro j u hj
  have hjl := (List.getElem?_eq_some_iff.1 hj).1
  rw [allCells_length] at hjl
  obtain ⟨b, off, e, hb, hc⟩ := h.2.2.2 (fun e => by subst e; simp at hjl)
  simp only [Option.some.injEq] at e
  subst e
  obtain ⟨p, hp⟩ : ∃ p, l[j / 3]? = some p := ⟨l[j / 3]'(by omega), List.getElem?_eq_getElem _⟩
  obtain ⟨a1, a2, a3⟩ := allCells_at hp
  obtain ⟨c1, c2, c3⟩ := hc _ _ hp
  have h1 : ((⟨b, off, none⟩ : Addr).add j) = ⟨b, off + j, none⟩ := by unfold Addr.add; split <;> simp_all
  rw [h1]
  rcases (by omega : j % 3 = 0 ∨ j % 3 = 1 ∨ j % 3 = 2) with e | e | e
  · have : j = j / 3 * 3 := by omega
    rw [this] at hj; rw [a1] at hj; rw [this, c1]; exact hj
  · have : j = j / 3 * 3 + 1 := by omega
    rw [this] at hj; rw [a2] at hj; rw [this, ← Nat.add_assoc, c2]; exact hj
  · have : j = j / 3 * 3 + 2 := by omega
    rw [this] at hj; rw [a3] at hj; rw [this, ← Nat.add_assoc, c3]; exact hj

set_option maxRecDepth 20000 in
set_option maxHeartbeats 8000000 in
theorem joined_any (a b : Option Addr) (la lb : List Pt) (ca cb : Nat) (w : World) (ha : PartsAt w w.heap.size a la) (hb : PartsAt w w.heap.size b lb) (hca : la.length ≤ ca) (h0 : compE la lb = 0) :
    Calls Try.prog 84 #[.slice a la.length ca, .slice b lb.length cb] w fun e w' => ∃ J ao co, e = .returned (.slice ao (List.length J) co) ∧ w'.ownsRow w.heap.size 45 3 (.slice ao J.length co) J.length (allCells J) ∧ Right J ∧ Cmp (wordL la) (wordL lb) (wordL J) ∧ J.length ≤ 100000 ∧ Below w.heap.size w w' := by
  obtain ⟨ip, hip, hp0, hp1, hp2⟩ := info_parts infoPart
  obtain ⟨z1, z2, z3⟩ := comp_zero h0
  obtain ⟨sa, _⟩ := sizes_zero z1
  obtain ⟨sb, _⟩ := sizes_zero z2
  obtain ⟨gb, cb', ib, ob, lb5, mb5⟩ := delta_facts z2
  have hla := sa.1
  have hlb := sb.1
  have HA : Hid (PartsAt w w.heap.size a la) := ha
  have HB : Hid (PartsAt w w.heap.size b lb) := hb
  have HSA : Hid (∀ p ∈ la, 0 ≤ p.n ∧ p.n ≤ 500 ∧ p.t.size ≤ 500) := sa.2
  have HSB : Hid (Small lb) := sb
  have HRB : Hid (Right lb) := sizes_right z2
  have HJ0 : Hid (JInv la lb 0 [] la 0) := JInv.start h0
  have HIB : Hid (inI lb ≤ 500) := by show _ ≤ _; omega
  have HWK : Hid (WkAt (w.alloc (.cells #[.slice a la.length ca, .int .i64 0] 176)) w.heap.size w.heap.size la 0 a ca) := ⟨Nat.le_refl _, Deep.blk_alloc_new _ _, ha.below ((Below.refl _ _).alloc (Nat.le_refl _) _) (Nat.le_refl _), hca⟩
  clear ha hb z1 z2 z3 sa sb gb cb' ib ob h0 lb5 mb5
  go_enter Try.func84, Try.ntmps84
  go_wp2_with fail
  go_loopw [5, 13] (fun v i wr => ∃ (k : Nat) (l ah : List Pt) (d : Nat) (ao : Option Addr) (co : Nat) (a' : Option Addr) (c' : Nat), k ≤ lb.length ∧ i = .int .i64 k ∧ v = .slice ao l.length co ∧ WkAt wr w.heap.size w.heap.size ah d a' c' ∧ wr.ownsRow w.heap.size 45 3 (.slice ao l.length co) l.length (allCells l) ∧ JInv la lb k l ah d ∧ Below w.heap.size w wr) (fun _ i _ => lb.length - (intOf i).toNat)
  case atStart => exact ⟨0, [], la, 0, none, 0, a, ca, Nat.zero_le _, rfl, rfl, HWK.out, World.ownsRow_nil _ _ _ _, HJ0.out, (Below.refl _ _).alloc (Nat.le_refl _) _⟩
  case round =>
    obtain ⟨k, l, ah, d, ao, co, a', c', hk, rfl, rfl, hW, hown, hJ, hbe⟩ := hrel
    have hz := hbe.size
    have hll := hJ.len
    have hbt : 0 ≤ inI (lb.take k) := (inI_bd (HSB.out.take k).2).1
    have hbd : 0 ≤ inI (lb.drop k) := (inI_bd (fun q hq => HSB.out.2 q (List.mem_of_mem_drop hq))).1
    have hsum : inI (lb.take k) + inI (lb.drop k) = inI lb := by rw [← inI_app, List.take_append_drop]
    have hib := HIB.out
    have hl5 : l.length + ah.length ≤ 10000 := by omega
    by_cases hlt : k < lb.length
    · obtain ⟨p, hpk⟩ : ∃ p, lb[k]? = some p := ⟨lb[k], List.getElem?_eq_getElem hlt⟩
      have hpm := List.mem_of_getElem? hpk
      obtain ⟨pb1, pb2, pb3⟩ := HSB.out.2 p hpm
      obtain ⟨pk, p2, p3, p4⟩ := HRB.out p hpm
      obtain ⟨b', off, rfl, hblt, c1, c2, c3⟩ := (HB.out.below hbe (Nat.le_refl _)).mem hpk
      have hbw : b' < wr.heap.size := by omega
      have HBE : Hid (Below w.heap.size w wr) := hbe
      have HW : Hid (WkAt wr w.heap.size w.heap.size ah d a' c') := hW
      have HO : Hid (wr.ownsRow w.heap.size 45 3 (.slice ao l.length co) l.length (allCells l)) := hown
      have HJ : Hid (JInv la lb k l ah d) := hJ
      have HPK : Hid (lb[k]? = some p) := hpk
      by_cases hk2 : p.k = 2
      · have q2 : (p.k == 2) = true := by simp [hk2]
        have HJ2 : Hid (JInv la lb (k + 1) (l ++ [p]) ah d) := hJ.put hpk HRB.out hk2
        have hAs := own_alloc (own_alloc hown (.cells #[.int .i64 p.k, .int .i64 p.n, .string p.t] 45)) (.cells #[.int .i64 p.k, .int .i64 p.n, .string p.t] 45)
        have hne : (Value.slice ao l.length co).ownBlock ≠ some w.heap.size := own_ne' hown hW.cell (by decide)
        clear hW hown hJ hbe hpk hpm hk2 pk p2 p3 p4 hll hbt hbd hsum
        go_wp2_with (at_builtin; refine wpList_append_own _ rfl _ _ 25 rfl w.heap.size 45 ip _ 3 32 Try.underlying25 hip hp0 hp1 hp2 rfl (by decide) _ _ _ rfl hAs ⟨wr.heap.size + 1, 0, none⟩ 1 1 [.int .i64 p.k, .int .i64 p.n, .string p.t] rfl rfl ?c2 (by simp [Value.oneCell']) ?c3 ?c4 ?c5 ?_)
        case c2 => exact World.news_of_block (cs := #[.int .i64 p.k, .int .i64 p.n, .string p.t]) (t := 45) (fr := (0, 0)) (by have h := heap_alloc_new (wr.alloc (.cells #[.int .i64 p.k, .int .i64 p.n, .string p.t] 45)) (.cells #[.int .i64 p.k, .int .i64 p.n, .string p.t] 45); rw [show (wr.alloc (.cells #[.int .i64 p.k, .int .i64 p.n, .string p.t] 45)).heap.size = wr.heap.size + 1 from Deep.nblk_alloc _ _] at h; exact h)
        case c3 => unfold maxLen; omega
        case c4 => omega
        case c5 => first | omega | (simp; omega)
        intro v' w2 hown2 hgrow _
        have HW2 : Hid (WkAt w2 w.heap.size w.heap.size ah d a' c') := ((HW.out.alloc _).alloc _).grow hgrow hne (fun k hk => (hAs.lt k hk).1)
        obtain ⟨bo, cb2, rfl⟩ := slice_form' hown2
        have HB2 : Hid (Below w.heap.size w w2) := below_own' ((HBE.out.alloc hz _).alloc (by simp; omega) _) hAs hgrow (by simp; omega)
        have HO2 : Hid (w2.ownsRow w.heap.size 45 3 (.slice bo (l.length + 1) cb2) (l ++ [p]).length (allCells (l ++ [p]))) := own_snoc hown2
        clear hown2 hgrow hAs hne
        go_wp2_with fail
        go_roundw
        case rel => exact ⟨k + 1, l ++ [p], ah, d, bo, cb2, a', c', by omega, by go_num, by simp, HW2.out, by have h := HO2.out; rw [List.length_append] at h ⊢; exact h, HJ2.out, HB2.out⟩
        case measure => simp [intOf]; omega
      · have q2 : (p.k == 2) = false := by simp [hk2]
        obtain ⟨n, hn⟩ : ∃ n : Nat, p.n = n := ⟨p.n.toNat, by omega⟩
        obtain ⟨T, hT⟩ : ∃ T, (p.k = 1 ∧ T = Tok.K) ∨ (p.k = 3 ∧ T = Tok.X) := by
          rcases pk with h | h | h
          · exact ⟨.K, .inl ⟨h, rfl⟩⟩
          · contradiction
          · exact ⟨.X, .inr ⟨h, rfl⟩⟩
        have HT : Hid ((p.k = 1 ∧ T = Tok.K) ∨ (p.k = 3 ∧ T = Tok.X)) := hT
        have HWP : Hid (wordP p = List.replicate n T) := by
          show _ = _
          rcases hT with ⟨h, rfl⟩ | ⟨h, rfl⟩ <;> simp [wordP, h, hn]
        have hout : n ≤ outW (restW ah d) := by
          have h1 := hJ.out
          rw [drop_cons hpk, inI, hn] at h1
          have h2 : 0 ≤ inI (lb.drop (k + 1)) := (inI_bd (fun q hq => HSB.out.2 q (List.mem_of_mem_drop hq))).1
          omega
        have HOUT : Hid (n ≤ outW (restW ah d)) := hout
        have HN : Hid (p.n = (n : Int)) := hn
        have hn5 : n ≤ 500 := by omega
        have HSM : Hid (∀ q ∈ ah, 0 ≤ q.n ∧ q.n ≤ 500 ∧ q.t.size ≤ 500) := fun q hq => HSA.out q (hJ.sub q hq)
        clear hW hown hJ hbe hpk hpm hk2 pk p2 p3 p4 hT hout hll hbt hbd hsum
        go_wp2_with fail
        first
          | refine (pass_any w.heap.size w.heap.size l ah d ao co a' c' p.k n p.t T _ (HW.out.alloc _) (own_alloc HO.out _) HT.out hn5 HJ.out.rl HJ.out.ra HJ.out.hd HOUT.out (by omega) HSM.out).mono ?_
          | (rw [HN.out]; refine (pass_any w.heap.size w.heap.size l ah d ao co a' c' p.k n p.t T _ (HW.out.alloc _) (own_alloc HO.out _) HT.out hn5 HJ.out.rl HJ.out.ra HJ.out.hd HOUT.out (by omega) HSM.out).mono ?_)
        rintro e w2 ⟨ao2, co2, l2, ah2, d2, a2, c2', rfl, hW2, hown2, hP2, hb2⟩
        have HW2 : Hid (WkAt w2 w.heap.size w.heap.size ah2 d2 a2 c2') := hW2
        have HO2 : Hid (w2.ownsRow w.heap.size 45 3 (.slice ao2 l2.length co2) l2.length (allCells l2)) := hown2
        have HB2 : Hid (Below w.heap.size w w2) := (HBE.out.alloc hz _).trans hb2
        have HJ2 : Hid (JInv la lb (k + 1) l2 ah2 d2) := HJ.out.pass HPK.out HWP.out HN.out hP2
        clear hW2 hown2 hP2 hb2
        go_wp2_with fail
        go_roundw
        case rel => exact ⟨k + 1, l2, ah2, d2, ao2, co2, a2, c2', by omega, by go_num, rfl, HW2.out, HO2.out, HJ2.out, HB2.out⟩
        case measure => simp [intOf]; omega
    · have hkk : k = lb.length := by omega
      subst hkk
      have x0 : wr.cell? ⟨w.heap.size, 0, none⟩ = some (.slice a' ah.length c') := by rw [cell_of_row _ _ _ _ _ _ hW.cell]; rfl
      have HD : Hid (Right (l ++ ah) ∧ Cmp (wordL la) (wordL lb) (wordL (l ++ ah))) := hJ.done
      have HBE : Hid (Below w.heap.size w wr) := hbe
      have hlo : (l ++ ah).length ≤ 100000 := by rw [List.length_append]; omega
      have HO : Hid (wr.ownsRow w.heap.size 45 3 (.slice ao l.length co) l.length (allCells l)) := hown
      cases a' with
      | none =>
        have hah : ah = [] := by
          cases ah with
          | nil => rfl
          | cons p r =>
            obtain ⟨b0, o0, e, _⟩ := hW.parts.2.2.2 (by simp)
            cases e
        subst hah
        simp only [List.length_nil] at x0
        clear hW hown hJ hbe hll hbt hbd hsum
        rcases HO.out.2 with ⟨hv, hv0⟩ | ⟨g, cap, cur, hv, _, _, hlc, _⟩
        · simp only [Value.slice.injEq] at hv
          obtain ⟨rfl, hl0, rfl⟩ := hv
          have hnil : l = [] := List.length_eq_zero_iff.1 hv0
          subst hnil
          clear hl0 hv0
          go_wp2_with fail
          go_ret
          exact ⟨[], none, 0, rfl, HO.out, HD.out.1, HD.out.2, hlo, HBE.out⟩
        · simp only [Value.slice.injEq, true_and] at hv
          obtain ⟨rfl, rfl⟩ := hv
          go_wp2_with fail
          go_ret
          refine ⟨l ++ [], _, co, by rw [List.append_nil]; rfl, ?_, HD.out.1, HD.out.2, hlo, HBE.out⟩
          rw [List.append_nil]
          exact HO.out
      | some ad =>
        have hca2 := cells_at hW.parts
        have hcl := allCells_length ah
        have hc1 := cells_one ah
        clear hW hown hJ hbe hll hbt hbd hsum
        go_wp2_with (at_builtin; refine wpList_append_own _ rfl _ _ 25 rfl w.heap.size 45 ip _ 3 32 Try.underlying25 hip hp0 hp1 hp2 rfl (by decide) _ _ _ rfl HO.out ad ah.length c' (allCells ah) rfl hcl hca2 hc1 ?c6 ?c7 ?c8 ?_)
        case c6 => unfold maxLen; omega
        case c7 => omega
        case c8 => first | omega | (simp; omega)
        intro v' w2 hown2 hgrow _
        have HB2 : Hid (Below w.heap.size w w2) := below_own' HBE.out HO.out hgrow (by omega)
        obtain ⟨bo, cb2, rfl⟩ := slice_form' hown2
        have HO2 : Hid (w2.ownsRow w.heap.size 45 3 (.slice bo (l.length + ah.length) cb2) (l.length + ah.length) (allCells l ++ allCells ah)) := hown2
        clear hown2 hgrow
        go_wp2_with fail
        go_ret
        refine ⟨l ++ ah, bo, cb2, by rw [List.length_append]; rfl, ?_, HD.out.1, HD.out.2, hlo, HB2.out⟩
        rw [List.length_append, allCells_append]
        exact HO2.out

theorem right_bound {J : List Pt} (hR : Right J) (h1 : inI J ≤ 500) (h2 : outI J ≤ 500) : Bound J := by
  obtain ⟨r0, r1, r2, r3⟩ := right_len hR
  refine ⟨by omega, fun p hp => ?_⟩
  have hk := (hR p hp).1
  have := r3 p hp
  exact ⟨by omega, by omega, by omega, by omega, by omega⟩
theorem cmp_bound {a b J : List Pt} (h : compE a b = 0) (hJ : Cmp (wordL a) (wordL b) (wordL J)) (hR : Right J) : Bound J := by
  obtain ⟨h1, h2, h3⟩ := comp_zero h
  obtain ⟨ga, ca, ia, oa, la, ma⟩ := delta_facts h1
  obtain ⟨gb, cb, ib, ob, lb, mb⟩ := delta_facts h2
  have hG : Good J := fun p hp => ⟨(hR p hp).1, ((right_len hR).2.2.2 p hp).1, (hR p hp).2.1, fun e => ((hR p hp).2.2.1 e).1⟩
  exact right_bound hR (by rw [inI_word hG, hJ.ins]; omega) (by rw [outI_word hG, hJ.outs]; omega)

set_option maxRecDepth 20000 in
set_option maxHeartbeats 4000000 in
theorem CompOf_any (a b : Option Addr) (la lb : List Pt) (ca cb : Nat) (w : World) (ha : PartsAt w w.heap.size a la) (hb : PartsAt w w.heap.size b lb) (hca : la.length ≤ ca) :
    Calls Try.prog 42 #[.slice a la.length ca, .slice b lb.length cb] w fun e w' => ∃ a' c', e = .returned (.tuple #[.slice a' (compR la lb).length c', .int .i64 (compE la lb)]) ∧ PartsAt w' w'.heap.size a' (compR la lb) ∧ Room a' (compR la lb) c' ∧ Below w.heap.size w w' := by
  have HA : Hid (PartsAt w w.heap.size a la) := ha
  have HB : Hid (PartsAt w w.heap.size b lb) := hb
  clear ha hb
  go_enter Try.func42, Try.ntmps42
  go_wp2_with fail
  refine (Sizes_any a la ca _ HA.out).mono ?_
  rintro e w1 ⟨rfl, hb1⟩
  have HE1 : Hid (Below w.heap.size w w1) := hb1
  have HB1 : Hid (PartsAt w1 w1.heap.size b lb) := HB.out.here hb1 (Nat.le_refl _)
  clear hb1
  by_cases z1 : sizesE la = 0
  · have g1 : (sizesE la != 0) = false := by simp [z1]
    have HO1 : Hid (sizesOut la = outI la) := (sizes_zero z1).2.2
    have HZ1 : Hid (sizesE la = 0) := z1
    clear z1
    go_wp2_with fail
    refine (Sizes_any b lb cb _ HB1.out).mono ?_
    rintro e w2 ⟨rfl, hb2⟩
    have HE2 : Hid (Below w.heap.size w w2) := HE1.out.trans (hb2.mono HE1.out.size)
    have HA2 : Hid (PartsAt w2 w2.heap.size a la) := HA.out.here HE2.out (Nat.le_refl _)
    have HB2 : Hid (PartsAt w2 w2.heap.size b lb) := HB.out.here HE2.out (Nat.le_refl _)
    clear hb2
    by_cases z2 : sizesE lb = 0
    · have g2 : (sizesE lb != 0) = false := by simp [z2]
      have e2 := (sizes_zero z2).2.1
      by_cases z3 : outI la = inI lb
      · have g3 : (sizesOut la != sizesIn lb) = false := by simp [HO1.out, e2, z3]
        have hz : compE la lb = 0 := comp_is HZ1.out z2 z3
        have HZ : Hid (compE la lb = 0) := hz
        have HR : Hid (compR la lb = compL la lb) := by show _ = _; rw [compR, if_pos hz]
        clear z2 z3 e2 hz
        go_wp2_with fail
        refine (joined_any a b la lb ca cb _ HA2.out HB2.out hca HZ.out).mono ?_
        rintro e w3 ⟨J, ao, co, rfl, hown, hRJ, hC, hJl, hb3⟩
        obtain ⟨a3, c3, h3, hp3⟩ := parts_own hown (cmp_bound HZ.out hC hRJ)
        simp only [Value.slice.injEq, true_and] at h3
        obtain ⟨rfl, rfl⟩ := h3
        have HP3 : Hid (PartsAt w3 w3.heap.size ao J) := hp3
        have HE3 : Hid (Below w.heap.size w w3) := HE2.out.trans (hb3.mono HE2.out.size)
        have HN : Hid (normE J = 0 ∧ normL J = compL la lb) := norm_comp HZ.out hC hRJ
        clear hown hRJ hC hb3 hp3
        go_wp2_with fail
        refine (NormC_any ao J co _ HP3.out).mono ?_
        rintro e w4 ⟨a4, c4, rfl, hp4, hc4, hb4⟩
        rw [HN.out.2] at hp4 hc4
        rw [HN.out.1, HN.out.2]
        have HP4 : Hid (PartsAt w4 w4.heap.size a4 (compL la lb)) := hp4
        have HC4 : Hid (Room a4 (compL la lb) c4) := hc4
        have HE4 : Hid (Below w.heap.size w w4) := HE3.out.trans (hb4.mono HE3.out.size)
        clear hp4 hc4 hb4
        go_wp2_with fail
        go_ret2
        rw [HR.out, HZ.out]
        exact ⟨a4, c4, rfl, HP4.out, HC4.out, HE4.out⟩
      · have g3 : (sizesOut la != sizesIn lb) = true := by simp [HO1.out, e2, z3]
        have HZ : Hid (compE la lb = 4 ∧ compR la lb = []) := by
          have h : compE la lb = 4 := by rw [compE, if_pos HZ1.out, if_pos z2, if_neg z3]
          exact ⟨h, by rw [compR, if_neg (by omega)]⟩
        clear z2 z3 e2
        go_wp2_with fail
        go_ret2
        rw [HZ.out.1, HZ.out.2]
        exact ⟨none, 0, rfl, parts_none (Nat.le_refl _), room_nil, HE2.out⟩
    · have g2 : (sizesE lb != 0) = true := by simp [z2]
      have HZ : Hid (compE la lb = sizesE lb ∧ compR la lb = []) := by
        have h : compE la lb = sizesE lb := by rw [compE, if_pos HZ1.out, if_neg z2]
        exact ⟨h, by rw [compR, if_neg (by rw [h]; exact z2)]⟩
      clear z2
      go_wp2_with fail
      go_ret2
      rw [HZ.out.1, HZ.out.2]
      exact ⟨none, 0, rfl, parts_none (Nat.le_refl _), room_nil, HE2.out⟩
  · have g1 : (sizesE la != 0) = true := by simp [z1]
    have HZ : Hid (compE la lb = sizesE la ∧ compR la lb = []) := by
      have h : compE la lb = sizesE la := by rw [compE, if_neg z1]
      exact ⟨h, by rw [compR, if_neg (by rw [h]; exact z1)]⟩
    clear z1
    go_wp2_with fail
    go_ret2
    rw [HZ.out.1, HZ.out.2]
    exact ⟨none, 0, rfl, parts_none (Nat.le_refl _), room_nil, HE1.out⟩

end Go.Proofs.Ytcghojnmnmmpoaa
