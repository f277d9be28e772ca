/- What the document's own Comp answers: the same as package comp's Of. -/
import Derived.Test.YtinhidddfpjjkabRTurn
import Derived.Test.YtinhidddfpjjkabRepeatQ
import Derived.Test.YtinhidddfpjjkabCompOf
import Derived.LoopN
namespace Go.Proofs.Ytinhidddfpjjkab
open Go.RowKit
set_option linter.unusedSimpArgs false
set_option linter.unusedVariables false

theorem join_take {A B : List (Nat × Nat)} {k : Nat} {p : Nat × Nat} (h : A[k]? = some p) : joinP (A.take (k + 1)) B = joinP (A.take k) B ++ oneP p B := by
  obtain ⟨hi, e⟩ := List.getElem?_eq_some_iff.1 h
  rw [List.take_succ_eq_append_getElem hi, e]; simp [joinP]
theorem one_take {p : Nat × Nat} {B : List (Nat × Nat)} {j : Nat} {q : Nat × Nat} (h : B[j]? = some q) : oneP p (B.take (j + 1)) = oneP p (B.take j) ++ (if p.2 = q.1 then [(p.1, q.2)] else []) := by
  obtain ⟨hi, e⟩ := List.getElem?_eq_some_iff.1 h
  rw [List.take_succ_eq_append_getElem hi, e]
  by_cases hq : p.2 = q.1 <;> simp [oneP, hq]
theorem one_len (p : Nat × Nat) (B : List (Nat × Nat)) : (oneP p B).length ≤ B.length := by
  unfold oneP
  rw [List.length_map]
  exact List.length_filter_le _ _

/-- the list that grows: its row lies apart of what was laid from lo to hi -/
structure GrAt (w5 w : World) (B lo hi : Nat) (eo : Option Addr) (ce : Nat) (out : List (Nat × Nat)) : Prop where
  own : w.ownsRow B 83 2 (.slice eo out.length ce) out.length (prCells out)
  out : ∀ g, (Value.slice eo out.length ce).ownBlock = some g → g < lo ∨ hi ≤ g
  mid : ∀ b, lo ≤ b → b < hi → w.heap[b]? = w5.heap[b]?
  sz : hi ≤ w.heap.size
section
variable {w5 w : World} {B lo hi ce : Nat} {eo : Option Addr} {out : List (Nat × Nat)}
theorem GrAt.alloc (h : GrAt w5 w B lo hi eo ce out) (o : Obj) : GrAt w5 (w.alloc o) B lo hi eo ce out :=
  ⟨own_alloc h.own o, h.out, fun b h1 h2 => (Deep.blk_alloc_lt _ _ _ (by have := h.sz; omega)).trans (h.mid b h1 h2), by have := h.sz; simp; omega⟩
theorem GrAt.cell (h : GrAt w5 w B lo hi eo ce out) {b : Nat} (h1 : lo ≤ b) (h2 : b < hi) (o : Nat) : w.cell? ⟨b, o, none⟩ = w5.cell? ⟨b, o, none⟩ := World.cell?_of_block (a := ⟨b, o, none⟩) (h.mid b h1 h2)
theorem GrAt.append {w' : World} {i k g cap : Nat} (h : GrAt w5 w B lo hi eo ce out) (hg : w.grownBy w' (Value.slice eo out.length ce).ownBlock)
    (ho : w'.ownsRow B 83 2 (.slice (some ⟨g, 0, none⟩) (out.length + 1) cap) (out.length + 1) (prCells out ++ [.int .i64 (i : Int), .int .i64 (k : Int)])) (hat : (Value.slice eo out.length ce).ownBlock = some g ∨ g = w.heap.size) :
    GrAt w5 w' B lo hi (some ⟨g, 0, none⟩) cap (out ++ [(i, k)]) := by
  have hl : (out ++ [(i, k)]).length = out.length + 1 := by simp
  have hsz := h.sz
  refine ⟨?_, ?_, fun b h1 h2 => ?_, Nat.le_trans h.sz hg.size⟩
  · rw [hl, prCells_app]; exact ho
  · intro g' e
    rw [hl] at e
    have e' : some g = some g' := e
    simp only [Option.some.injEq] at e'
    subst e'
    rcases hat with h3 | h3
    · exact h.out g h3
    · right; omega
  · refine (hg.block b (by omega) (fun e => ?_)).trans (h.mid b h1 h2)
    rcases h.out b e.symm with h3 | h3 <;> omega
end

theorem own_lower {w : World} {B B' n size : Nat} {e : TypeId} {v : Value} {xs : List Value} (h : w.ownsRow B e size v n xs) (hB : B' ≤ B) : w.ownsRow B' e size v n xs := by
  rcases h.2 with ⟨h1, h2⟩ | ⟨g, cap', cur, h1, h2, h3⟩
  · exact ⟨h.1, .inl ⟨h1, h2⟩⟩
  · exact ⟨h.1, .inr ⟨g, cap', cur, h1, Nat.le_trans hB h2, h3⟩⟩
theorem do_len {l : List Pt} (hz : sizesE l = 0) {x : List UInt8} (hx : (x.length : Int) = inI l) : ((doL l x).length : Int) = outI l := by
  obtain ⟨g, c, i, o, b1, b2⟩ := delta_facts hz
  rw [doL_word, doW_len _ _ (by omega)]; omega

set_option maxHeartbeats 8000000 in
set_option maxRecDepth 100000 in
theorem RCompO_any (a b : Option Addr) (la lb : List Pt) (ca cb : Nat) (w : World) (ha : PartsAt w w.heap.size a la) (hb : PartsAt w w.heap.size b lb) :
    Calls Try.prog 15 #[.slice a la.length ca, .slice b lb.length cb] w fun e w' => ∃ a' c', e = .returned (.tuple #[.slice a' (compR la lb).length c', .int .i64 (compE la lb)]) ∧ PartsAt w' w'.heap.size a' (compR la lb) ∧ w'.ownsRow w.heap.size 58 3 (.slice a' (compR la lb).length c') (compR la lb).length (allCells (compR la lb)) ∧ Below w.heap.size w w' := by
  obtain ⟨ip, hip, hp0, hp1, hp2⟩ := info_parts infoPair
  have HA : Hid (PartsAt w w.heap.size a la) := ha
  have HB : Hid (PartsAt w w.heap.size b lb) := hb
  have HE0 : Hid (Below w.heap.size w (w.alloc (.cells #[.slice a la.length ca, .slice b lb.length cb] 33))) := (Below.refl _ _).alloc (Nat.le_refl _) _
  have HA0 : Hid (PartsAt (w.alloc (.cells #[.slice a la.length ca, .slice b lb.length cb] 33)) (w.alloc (.cells #[.slice a la.length ca, .slice b lb.length cb] 33)).heap.size a la) := ha.here HE0.out (Nat.le_refl _)
  clear ha hb
  go_enter Try.func15, Try.ntmps15
  go_wp2_with fail
  refine wp_loop_rounds 3 ?_
  rw [rounds_succ]
  go_wp2_with fail
  refine (Delta_any a la ca _ HA0.out).mono ?_
  rintro e w1 ⟨rfl, hb1⟩
  have HE1 : Hid (Below w.heap.size w w1) := HE0.out.trans (hb1.mono HE0.out.size)
  have s1 : w1.cell? ⟨w.heap.size, 1, none⟩ = some (.slice b lb.length cb) := by
    rw [hb1.cell (p := ⟨w.heap.size, 1, none⟩) (by simp), cell_of_row _ _ _ _ _ _ (Deep.blk_alloc_new w _)]; rfl
  have HB1 : Hid (PartsAt w1 w1.heap.size b lb) := HB.out.here HE1.out (Nat.le_refl _)
  clear hb1
  by_cases z1 : sizesE la = 0
  · have g1 : (sizesE la != 0) = false := by simp [z1]
    have HZ1 : Hid (sizesE la = 0) := z1
    clear z1
    go_wp2_with fail
    rw [rounds_succ]
    go_wp2_with fail
    refine (Delta_any b lb cb _ HB1.out).mono ?_
    rintro e w2 ⟨rfl, hb2⟩
    have HE2 : Hid (Below w.heap.size w w2) := HE1.out.trans (hb2.mono HE1.out.size)
    have HA2 : Hid (PartsAt w2 w2.heap.size a la) := HA.out.here HE2.out (Nat.le_refl _)
    clear hb2 s1
    by_cases z2 : sizesE lb = 0
    · have g2 : (sizesE lb != 0) = false := by simp [z2]
      have HZ2 : Hid (sizesE lb = 0) := z2
      have HSA : Hid (Small la) := (sizes_zero HZ1.out).1
      have HSB : Hid (Small lb) := (sizes_zero z2).1
      clear z2
      go_wp2_with fail
      rw [rounds_succ]
      go_wp2_with fail
      refine (Out_any a la ca _ HA2.out HSA.out).mono ?_
      rintro e w3 ⟨rfl, hb3⟩
      have HE3 : Hid (Below w.heap.size w w3) := HE2.out.trans (hb3.mono HE2.out.size)
      have HB3 : Hid (PartsAt w3 w3.heap.size b lb) := HB.out.here HE3.out (Nat.le_refl _)
      clear hb3
      go_wp2_with fail
      refine (In_any b lb cb _ HB3.out HSB.out).mono ?_
      rintro e w4 ⟨rfl, hb4⟩
      have HE4 : Hid (Below w.heap.size w w4) := HE3.out.trans (hb4.mono HE3.out.size)
      have HA4 : Hid (PartsAt w4 w4.heap.size a la) := HA.out.here HE4.out (Nat.le_refl _)
      clear hb4
      by_cases z3 : outI la = inI lb
      · have g3 : (outI la != inI lb) = false := by simp [z3]
        have hz : compE la lb = 0 := comp_is HZ1.out HZ2.out z3
        have HZ : Hid (compE la lb = 0) := hz
        have HZ3 : Hid (outI la = inI lb) := z3
        obtain ⟨ga, cna, ia, oa, ba1, ba2⟩ := delta_facts HZ1.out
        obtain ⟨gb, cnb, ib, ob, bb1, bb2⟩ := delta_facts HZ2.out
        have HIA : Hid (inI la = ((inW (wordL la) : Nat) : Int)) := ia
        have HR : Hid (compR la lb = compL la lb) := by show _ = _; rw [compR, if_pos hz]
        have HPA : Hid (pairsP (ofAll la).1 (ofAll la).2 0 0 = pairsL la) := pairsP_of ga.kinds
        have HPB : Hid (pairsP (ofAll lb).1 (ofAll lb).2 0 0 = pairsL lb) := pairsP_of gb.kinds
        have HOA : Hid ((ofAll la).1.length = (ofAll la).2.length + 1 ∧ (ofAll la).2.length ≤ 800000 ∧ (∀ q ∈ (ofAll la).1, q.size ≤ 800000) ∧ (ofAll la).2.length = inW (wordL la)) := by
          have h1 := HSA.out
          refine ⟨ofAll_len la, ?_, fun q hq => ?_, ?_⟩
          · have := ofAll_kept h1.2; have := h1.1; omega
          · have := ofAll_size h1.2 q hq; have := h1.1; omega
          · have := ofAll_keptlen (l := la) (fun p hp => ⟨(ga p hp).2.1, (ga p hp).2.2.1⟩); omega
        have HOB : Hid ((ofAll lb).1.length = (ofAll lb).2.length + 1 ∧ (ofAll lb).2.length ≤ 800000 ∧ (∀ q ∈ (ofAll lb).1, q.size ≤ 800000) ∧ (ofAll lb).2.length = inW (wordL lb)) := by
          have h1 := HSB.out
          refine ⟨ofAll_len lb, ?_, fun q hq => ?_, ?_⟩
          · have := ofAll_kept h1.2; have := h1.1; omega
          · have := ofAll_size h1.2 q hq; have := h1.1; omega
          · have := ofAll_keptlen (l := lb) (fun p hp => ⟨(gb p hp).2.1, (gb p hp).2.2.1⟩); omega
        have hpal : (pairsL la).length ≤ 500 := Nat.le_trans (pairs_len _ _ _) ba1
        have hpbl : (pairsL lb).length ≤ 500 := Nat.le_trans (pairs_len _ _ _) bb1
        have HDA : Hid (plDo (ofAll la).1 (ofAll la).2 (qs63 (inW (wordL la))) = doL la (qs63 (inW (wordL la))) ∧ (doL la (qs63 (inW (wordL la)))).length = inW (wordL lb)) := by
          have hq : ((qs63 (inW (wordL la))).length : Int) = inI la := by simp [qs63]; omega
          refine ⟨plDo_all (fun p hp => ⟨(ga p hp).2.1, (ga p hp).2.2.1⟩) hq, ?_⟩
          have := do_len HZ1.out hq
          omega
        have HDB : Hid (plDo (ofAll lb).1 (ofAll lb).2 (doL la (qs63 (inW (wordL la)))) = doL lb (doL la (qs63 (inW (wordL la)))) ∧ (doL lb (doL la (qs63 (inW (wordL la))))).length = outW (wordL lb)) := by
          have hq : ((doL la (qs63 (inW (wordL la)))).length : Int) = inI lb := by rw [HDA.out.2]; omega
          refine ⟨plDo_all (fun p hp => ⟨(gb p hp).2.1, (gb p hp).2.2.1⟩) hq, ?_⟩
          have := do_len HZ2.out hq
          omega
        have HCL : Hid (madeL (inW (wordL la)) (joinP (pairsL la) (pairsL lb)) (doL lb (doL la (qs63 (inW (wordL la))))) = compL la lb) := by
          show _ = _
          rw [compL, show (inI la).toNat = inW (wordL la) by omega]; rfl
        obtain ⟨r, hr, er, f1, f2, f3, f4, f5⟩ := comp_facts hz
        have HCZ : Hid (sizesE (compL la lb) = 0) := f1
        have HKO : Hid (KeptOK (inW (wordL la)) (outW (wordL lb)) (joinP (pairsL la) (pairsL lb)) 0 0 ∧ (joinP (pairsL la) (pairsL lb)).length ≤ 500) := by
          have h := kept_pairs r 0 0 0 0 (Nat.le_refl _) (Nat.le_refl _)
          have e : pairsW r 0 0 = joinP (pairsL la) (pairsL lb) := hr.prs 0 0 0
          have h2 := pairs_len r 0 0
          simp only [Nat.zero_add] at h
          rw [hr.ins, hr.outs, e] at h
          rw [e, hr.ins] at h2
          exact ⟨h, by omega⟩
        clear z3 hz ga cna ia oa gb cnb ib ob hr er f1 f2 f3 f4 f5
        go_wp2_with fail
        refine (In_any a la ca _ HA4.out HSA.out).mono ?_
        rintro e w5 ⟨rfl, hb5⟩
        have HE5 : Hid (Below w.heap.size w w5) := HE4.out.trans (hb5.mono HE4.out.size)
        clear hb5
        rw [HIA.out]
        go_wp2_with fail
        refine (Repeat_any (inW (wordL la)) _ ba1).mono ?_
        rintro e w6 ⟨rfl, hb6⟩
        have HE6 : Hid (Below w.heap.size w w6) := HE5.out.trans (hb6.mono HE5.out.size)
        have HA6 : Hid (PartsAt w6 w6.heap.size a la) := HA.out.here HE6.out (Nat.le_refl _)
        obtain ⟨S, HS⟩ : ∃ S, Hid ((⟨(qs63 (inW (wordL la))).toArray⟩ : ByteArray) = S) := ⟨_, rfl⟩
        rw [HS.out]
        clear hb6
        go_wp2_with fail
        refine (Of_any a la ca _ HA6.out HSA.out).mono ?_
        rintro e w7 ⟨pv, kv, rfl, hq, hk, hb7⟩
        have HE7 : Hid (Below w.heap.size w w7) := HE6.out.trans (hb7.mono HE6.out.size)
        have HQ7 : Hid (w7.ownsRow w6.heap.size 9 1 pv (ofAll la).1.length ((ofAll la).1.map Value.string)) := hq
        have HK7 : Hid (w7.ownsRow w6.heap.size 4 1 kv (ofAll la).2.length ((ofAll la).2.map Value.bool)) := hk
        clear hq hk hb7
        go_wp2_with fail
        refine (pairs_any w6.heap.size pv kv (ofAll la).1 (ofAll la).2 _ HQ7.out HK7.out HOA.out.1 HOA.out.2.1 HOA.out.2.2.1).mono ?_
        rintro e w8 ⟨ov, rfl, hown8, hb8⟩
        rw [HPA.out] at hown8
        obtain ⟨po, pc, rfl⟩ := slice_form' hown8
        have HE8 : Hid (Below w.heap.size w w8) := HE7.out.trans (hb8.mono HE7.out.size)
        obtain ⟨pa, HPSA⟩ : ∃ pa, Hid (pairsL la = pa) := ⟨_, rfl⟩
        obtain ⟨pb, HPSB⟩ : ∃ pb, Hid (pairsL lb = pb) := ⟨_, rfl⟩
        rw [HPSA.out] at hown8 hpal HCL HKO ⊢
        rw [HPSB.out] at HPB hpbl HCL HKO
        have HO8 : Hid (w8.ownsRow w7.heap.size 83 2 (.slice po pa.length pc) pa.length (prCells pa)) := hown8
        clear hown8 hb8
        go_wp2_with fail
        go_loopw [10, 41] (fun v i wr => ∃ (k : Nat) (eo : Option Addr) (ce : Nat), k ≤ pa.length ∧ i = .int .i64 k ∧ v = .slice eo (joinP (pa.take k) pb).length ce ∧ (joinP (pa.take k) pb).length ≤ 500 * k ∧ wr.ownsRow w8.heap.size 83 2 (.slice eo (joinP (pa.take k) pb).length ce) (joinP (pa.take k) pb).length (prCells (joinP (pa.take k) pb)) ∧ Below w8.heap.size w8 wr) (fun _ i _ => pa.length - (intOf i).toNat)
        case atStart => exact ⟨0, none, 0, Nat.zero_le _, rfl, rfl, by simp [joinP], World.ownsRow_nil _ _ _ _, Below.refl _ _⟩
        case round =>
          rename World => wo
          obtain ⟨k, eo, ce, hk, rfl, rfl, hjl, hown, hbr⟩ := hrel
          have hz8 := hbr.size
          have HER : Hid (Below w.heap.size w wo) := HE8.out.trans (hbr.mono HE8.out.size)
          have HBR : Hid (Below w8.heap.size w8 wo) := hbr
          by_cases hlt : k < pa.length
          · obtain ⟨p, hpk⟩ : ∃ p, pa[k]? = some p := ⟨pa[k], List.getElem?_eq_getElem hlt⟩
            have HJT : Hid _ := join_take (B := pb) hpk
            obtain ⟨p1, p2⟩ := p
            obtain ⟨gk, ck, hgk, y0, y1, hgkw⟩ := pr_at HO8.out hpk
            simp only [Value.slice.injEq, true_and] at hgk
            obtain ⟨rfl, rfl⟩ := hgk
            have z0 : wo.cell? ⟨gk, k * 2, none⟩ = some (.int .i64 (p1 : Int)) := (hbr.cell (p := ⟨gk, k * 2, none⟩) hgkw).trans y0
            have z1 : wo.cell? ⟨gk, k * 2 + 1, none⟩ = some (.int .i64 (p2 : Int)) := (hbr.cell (p := ⟨gk, k * 2 + 1, none⟩) hgkw).trans y1
            obtain ⟨jo, HJO⟩ : ∃ jo, Hid (joinP (pa.take k) pb = jo) := ⟨_, rfl⟩
            rw [HJO.out] at hown hjl ⊢
            have HO : Hid (wo.ownsRow w8.heap.size 83 2 (.slice eo jo.length ce) jo.length (prCells jo)) := hown
            have HXE : Hid (Below w.heap.size w (wo.alloc (.cells #[.int .i64 (p1 : Int), .int .i64 (p2 : Int)] 83))) := HER.out.alloc HER.out.size _
            have HXB : Hid (PartsAt (wo.alloc (.cells #[.int .i64 (p1 : Int), .int .i64 (p2 : Int)] 83)) (wo.alloc (.cells #[.int .i64 (p1 : Int), .int .i64 (p2 : Int)] 83)).heap.size b lb) := HB.out.here HXE.out (Nat.le_refl _)
            clear hbr hpk y0 y1 hown
            go_wp2_with fail
            refine (Of_any b lb cb _ HXB.out HSB.out).mono ?_
            rintro e w9 ⟨pv9, kv9, rfl, hq9, hk9, hb9⟩
            rw [show (wo.alloc (.cells #[.int .i64 (p1 : Int), .int .i64 (p2 : Int)] 83)).heap.size = wo.heap.size + 1 from Deep.nblk_alloc _ _] at hq9 hk9 hb9
            have HQ9 : Hid (w9.ownsRow (wo.heap.size + 1) 9 1 pv9 (ofAll lb).1.length ((ofAll lb).1.map Value.string)) := hq9
            have HK9 : Hid (w9.ownsRow (wo.heap.size + 1) 4 1 kv9 (ofAll lb).2.length ((ofAll lb).2.map Value.bool)) := hk9
            have HB9 : Hid (Below (wo.heap.size + 1) (wo.alloc (.cells #[.int .i64 (p1 : Int), .int .i64 (p2 : Int)] 83)) w9) := hb9
            have hz9 : wo.heap.size + 1 ≤ w9.heap.size := by have := hb9.size; simpa using this
            clear hq9 hk9 hb9
            go_wp2_with fail
            refine (pairs_any (wo.heap.size + 1) pv9 kv9 (ofAll lb).1 (ofAll lb).2 _ HQ9.out HK9.out HOB.out.1 HOB.out.2.1 HOB.out.2.2.1).mono ?_
            rintro e wi ⟨ov9, rfl, hown9, hbi⟩
            rw [HPB.out] at hown9
            obtain ⟨qo, qc, rfl⟩ := slice_form' hown9
            have HO9 : Hid (wi.ownsRow w9.heap.size 83 2 (.slice qo pb.length qc) pb.length (prCells pb)) := hown9
            have hbw : Below (wo.heap.size + 1) (wo.alloc (.cells #[.int .i64 (p1 : Int), .int .i64 (p2 : Int)] 83)) wi := HB9.out.trans (hbi.mono hz9)
            have hzi : wo.heap.size + 1 ≤ wi.heap.size := Nat.le_trans hz9 hbi.size
            have hxb : wi.heap[wo.heap.size]? = some (.cells #[.int .i64 (p1 : Int), .int .i64 (p2 : Int)] 83 (0, 0)) := (hbw.block wo.heap.size (by omega)).trans (Deep.blk_alloc_new _ _)
            have x0 : wi.cell? ⟨wo.heap.size, 0, none⟩ = some (.int .i64 (p1 : Int)) := by rw [cell_of_row _ _ _ _ _ _ hxb]; rfl
            have x1 : wi.cell? ⟨wo.heap.size, 1, none⟩ = some (.int .i64 (p2 : Int)) := by rw [cell_of_row _ _ _ _ _ _ hxb]; rfl
            have HGR : Hid (GrAt wi wi w8.heap.size wo.heap.size wi.heap.size eo ce jo) := by
              have hlt' := HO.out.lt
              refine ⟨?_, fun g e => .inl (hlt' g e).2, fun _ _ _ => rfl, Nat.le_refl _⟩
              rcases HO.out.2 with ⟨h1, h2⟩ | ⟨g, cap', cur, h1, h2, h3, h4⟩
              · exact ⟨HO.out.1, .inl ⟨h1, h2⟩⟩
              · refine ⟨HO.out.1, .inr ⟨g, cap', cur, h1, h2, ?_, h4⟩⟩
                rw [hbw.block g (by have := lt_of_heap h3; omega), Deep.blk_alloc_lt _ _ _ (lt_of_heap h3)]
                exact h3
            have HB8 : Hid (Below w8.heap.size w8 wi) := (HBR.out.alloc hz8 _).trans (hbw.mono (by omega))
            have HZI : Hid (wo.heap.size + 1 ≤ wi.heap.size) := hzi
            clear hown9 hbi hbw hxb
            go_wp2_with fail
            go_loopw [10, 49] (fun v i wr => ∃ (j : Nat) (fo : Option Addr) (cf : Nat), j ≤ pb.length ∧ i = .int .i64 j ∧ v = .slice fo (jo ++ oneP (p1, p2) (pb.take j)).length cf ∧ GrAt wi wr w8.heap.size wo.heap.size wi.heap.size fo cf (jo ++ oneP (p1, p2) (pb.take j)) ∧ Below w8.heap.size w8 wr) (fun _ i _ => pb.length - (intOf i).toNat)
            case atStart => exact ⟨0, eo, ce, Nat.zero_le _, rfl, by simp [oneP], by simpa [oneP] using HGR.out, HB8.out⟩
            case round =>
              obtain ⟨j, fo, cf, hj, rfl, rfl, hG, hbv⟩ := hrel
              have hzi := HZI.out
              have v0 : wr.cell? ⟨wo.heap.size, 0, none⟩ = some (.int .i64 (p1 : Int)) := (hG.cell (Nat.le_refl _) (by omega) 0).trans x0
              have v1 : wr.cell? ⟨wo.heap.size, 1, none⟩ = some (.int .i64 (p2 : Int)) := (hG.cell (Nat.le_refl _) (by omega) 1).trans x1
              have hsv := hG.sz
              have hrv : wo.heap.size < wr.heap.size := by omega
              have h8v : w8.heap.size ≤ wr.heap.size := hbv.size
              have HBV : Hid (Below w8.heap.size w8 wr) := hbv
              have hol : (jo ++ oneP (p1, p2) (pb.take j)).length ≤ 251000 := by
                have h1 := one_len (p1, p2) (pb.take j)
                rw [List.length_take] at h1
                rw [List.length_append]
                omega
              by_cases hltj : j < pb.length
              · obtain ⟨q, hqk⟩ : ∃ q, pb[j]? = some q := ⟨pb[j], List.getElem?_eq_getElem hltj⟩
                have HOT : Hid _ := one_take (p := (p1, p2)) hqk
                obtain ⟨q1, q2⟩ := q
                obtain ⟨gq, cq, hgq, y0, y1, hgqw⟩ := pr_at HO9.out hqk
                have hgqb : w9.heap.size ≤ gq := (HO9.out.lt gq (by rw [hgq]; rfl)).1
                simp only [Value.slice.injEq, true_and] at hgq
                obtain ⟨rfl, rfl⟩ := hgq
                have z2 : wr.cell? ⟨gq, j * 2, none⟩ = some (.int .i64 (q1 : Int)) := (hG.cell (by omega) hgqw _).trans y0
                have z3 : wr.cell? ⟨gq, j * 2 + 1, none⟩ = some (.int .i64 (q2 : Int)) := (hG.cell (by omega) hgqw _).trans y1
                obtain ⟨out, HOUT⟩ : ∃ out, Hid (jo ++ oneP (p1, p2) (pb.take j) = out) := ⟨_, rfl⟩
                rw [HOUT.out] at hG hol ⊢
                clear hbv hqk y0 y1
                by_cases hpq : p2 = q1
                · have r1 : ((p2 : Int) == (q1 : Int)) = true := by simp [hpq]
                  have HNX : Hid (jo ++ oneP (p1, p2) (pb.take (j + 1)) = out ++ [(p1, q2)]) := by show _ = _; rw [HOT.out, ← List.append_assoc, HOUT.out]; simp [hpq]
                  have HG3 : Hid (GrAt wi ((wr.alloc (.cells #[.int .i64 (q1 : Int), .int .i64 (q2 : Int)] 83)).alloc (.cells #[.int .i64 (p1 : Int), .int .i64 (q2 : Int)] 83)) w8.heap.size wo.heap.size wi.heap.size fo cf out) := (hG.alloc _).alloc _
                  have hAs := HG3.out.own
                  clear hG hpq
                  go_wp2_with (at_builtin; refine wpList_append_lies _ rfl _ _ 77 rfl w8.heap.size 83 ip _ 2 16 Try.underlying77 hip hp0 hp1 hp2 rfl (by decide) _ _ _ rfl hAs ⟨wr.heap.size + 1, 0, none⟩ 1 1 [.int .i64 (p1 : Int), .int .i64 (q2 : Int)] rfl rfl ?c2 (by simp [Value.oneCell']) (by decide) ?c3 ?c4 ?c5 _ rfl ?_)
                  try case c2 => exact World.news_of_block (cs := #[.int .i64 (p1 : Int), .int .i64 (q2 : Int)]) (t := 83) (fr := (0, 0)) (by have h := heap_alloc_new (wr.alloc (.cells #[.int .i64 (q1 : Int), .int .i64 (q2 : Int)] 83)) (.cells #[.int .i64 (p1 : Int), .int .i64 (q2 : Int)] 83); rw [show (wr.alloc (.cells #[.int .i64 (q1 : Int), .int .i64 (q2 : Int)] 83)).heap.size = wr.heap.size + 1 from Deep.nblk_alloc _ _] at h; exact h)
                  case c3 => unfold maxLen; omega
                  case c4 => omega
                  case c5 => first | omega | (simp; omega)
                  intro g cap1 wn hown3 hgrow hat hlt3
                  have HG4 : Hid (GrAt wi wn w8.heap.size wo.heap.size wi.heap.size (some ⟨g, 0, none⟩) cap1 (out ++ [(p1, q2)])) := HG3.out.append hgrow hown3 (or_at hat (by simp))
                  have HBN : Hid (Below w8.heap.size w8 wn) := below_own' ((HBV.out.alloc h8v _).alloc (by simp; omega) _) hAs hgrow (by simp; omega)
                  clear hown3 hgrow hat hlt3 hAs HG3
                  go_wp2_with fail
                  go_roundw
                  case rel => exact ⟨j + 1, some ⟨g, 0, none⟩, cap1, by omega, by go_num, by rw [HNX.out]; simp, by rw [HNX.out]; exact HG4.out, HBN.out⟩
                  case measure => simp [intOf]; omega
                · have r1 : ((p2 : Int) == (q1 : Int)) = false := by simp; omega
                  have HNX : Hid (jo ++ oneP (p1, p2) (pb.take (j + 1)) = out) := by show _ = _; rw [HOT.out, ← List.append_assoc, HOUT.out]; simp [hpq]
                  have HG : Hid (GrAt wi wr w8.heap.size wo.heap.size wi.heap.size fo cf out) := hG
                  clear hG hpq
                  go_wp2_with fail
                  go_roundw
                  case rel => exact ⟨j + 1, fo, cf, by omega, by go_num, by rw [HNX.out], by rw [HNX.out]; exact HG.out.alloc _, HBV.out.alloc h8v _⟩
                  case measure => simp [intOf]; omega
              · have hjj : pb.take j = pb := List.take_of_length_le (by omega)
                rw [hjj] at hG ⊢
                have HNX : Hid (joinP (pa.take (k + 1)) pb = jo ++ oneP (p1, p2) pb) := by show _ = _; rw [HJT.out, HJO.out]
                have HON : Hid (wr.ownsRow w8.heap.size 83 2 (.slice fo (jo ++ oneP (p1, p2) pb).length cf) (jo ++ oneP (p1, p2) pb).length (prCells (jo ++ oneP (p1, p2) pb))) := hG.own
                have hnl : (jo ++ oneP (p1, p2) pb).length ≤ 500 * (k + 1) := by
                  have h1 := one_len (p1, p2) pb
                  rw [List.length_append]
                  omega
                clear hG hbv
                go_wp2_with fail
                go_roundw
                case rel => exact ⟨k + 1, fo, cf, by omega, by go_num, by rw [HNX.out], by rw [HNX.out]; exact hnl, by rw [HNX.out]; exact HON.out, HBV.out⟩
                case measure => simp [intOf]; omega
          · have hkk : pa.take k = pa := List.take_of_length_le (by omega)
            rw [hkk] at hown ⊢
            have HO : Hid (wo.ownsRow w8.heap.size 83 2 (.slice eo (joinP pa pb).length ce) (joinP pa pb).length (prCells (joinP pa pb))) := hown
            have HAR : Hid (PartsAt wo wo.heap.size a la) := HA.out.here HER.out (Nat.le_refl _)
            have hss : S.size = inW (wordL la) := by rw [← HS.out]; show (List.toArray (qs63 _)).size = _; simp [qs63]
            clear hown hbr hjl
            go_wp2_with fail
            refine (In_any a la ca _ HAR.out HSA.out).mono ?_
            rintro e u1 ⟨rfl, hu1⟩
            have HU1 : Hid (Below w.heap.size w u1) := HER.out.trans (hu1.mono HER.out.size)
            have HO1 : Hid (u1.ownsRow w8.heap.size 83 2 (.slice eo (joinP pa pb).length ce) (joinP pa pb).length (prCells (joinP pa pb))) := own_below HO.out hu1
            have HPB1 : Hid (PartsAt u1 u1.heap.size b lb) := HB.out.here HU1.out (Nat.le_refl _)
            rw [HIA.out]
            clear hu1
            go_wp2_with fail
            refine (Of_any b lb cb _ HPB1.out HSB.out).mono ?_
            rintro e u2 ⟨pvb, kvb, rfl, hqb, hkb, hu2⟩
            have HU2 : Hid (Below w.heap.size w u2) := HU1.out.trans (hu2.mono HU1.out.size)
            have HO2 : Hid (u2.ownsRow w8.heap.size 83 2 (.slice eo (joinP pa pb).length ce) (joinP pa pb).length (prCells (joinP pa pb))) := own_below HO1.out hu2
            have HQ2 : Hid (u2.ownsRow u1.heap.size 9 1 pvb (ofAll lb).1.length ((ofAll lb).1.map Value.string)) := hqb
            have HK2 : Hid (u2.ownsRow u1.heap.size 4 1 kvb (ofAll lb).2.length ((ofAll lb).2.map Value.bool)) := hkb
            have HPA2 : Hid (PartsAt u2 u2.heap.size a la) := HA.out.here HU2.out (Nat.le_refl _)
            have HZU : Hid (u1.heap.size ≤ u2.heap.size) := hu2.size
            clear hqb hkb hu2
            go_wp2_with fail
            refine (Of_any a la ca _ HPA2.out HSA.out).mono ?_
            rintro e u3 ⟨pva, kva, rfl, hqa, hka, hu3⟩
            have HU3 : Hid (Below w.heap.size w u3) := HU2.out.trans (hu3.mono HU2.out.size)
            have HO3 : Hid (u3.ownsRow w8.heap.size 83 2 (.slice eo (joinP pa pb).length ce) (joinP pa pb).length (prCells (joinP pa pb))) := own_below HO2.out hu3
            have HQ3 : Hid (u3.ownsRow u1.heap.size 9 1 pvb (ofAll lb).1.length ((ofAll lb).1.map Value.string)) := own_below HQ2.out hu3
            have HK3 : Hid (u3.ownsRow u1.heap.size 4 1 kvb (ofAll lb).2.length ((ofAll lb).2.map Value.bool)) := own_below HK2.out hu3
            have HQA3 : Hid (u3.ownsRow u2.heap.size 9 1 pva (ofAll la).1.length ((ofAll la).1.map Value.string)) := hqa
            have HKA3 : Hid (u3.ownsRow u2.heap.size 4 1 kva (ofAll la).2.length ((ofAll la).2.map Value.bool)) := hka
            have HZ3' : Hid (u2.heap.size ≤ u3.heap.size ∧ u1.heap.size ≤ u3.heap.size) := ⟨hu3.size, Nat.le_trans HZU.out hu3.size⟩
            clear hqa hka hu3
            have HSD : Hid (S.data.toList = qs63 (inW (wordL la))) := by show _ = _; rw [← HS.out]
            have HSS : Hid (S.size = (ofAll la).2.length) := by show _ = _; rw [hss, HOA.out.2.2.2]
            go_wp2_with fail
            refine (PlDo_any u2.heap.size pva kva (ofAll la).1 (ofAll la).2 S _ HZ3'.out.1 HQA3.out HKA3.out HOA.out.1 HSS.out HOA.out.2.1 HOA.out.2.2.1).mono ?_
            rintro e u4 ⟨rfl, hu4⟩
            rw [HSD.out, HDA.out.1]
            obtain ⟨T1, HT1⟩ : ∃ T1, Hid ((⟨(doL la (qs63 (inW (wordL la)))).toArray⟩ : ByteArray) = T1) := ⟨_, rfl⟩
            rw [HT1.out]
            have HT1D : Hid (T1.data.toList = doL la (qs63 (inW (wordL la)))) := by show _ = _; rw [← HT1.out]
            have HT1S : Hid (T1.size = (ofAll lb).2.length) := by
              show _ = _
              rw [HOB.out.2.2.2, ← HDA.out.2, ← HT1D.out]
              exact Array.length_toList.symm
            have HU4 : Hid (Below w.heap.size w u4) := HU3.out.trans (hu4.mono HU3.out.size)
            have HO4 : Hid (u4.ownsRow w8.heap.size 83 2 (.slice eo (joinP pa pb).length ce) (joinP pa pb).length (prCells (joinP pa pb))) := own_below HO3.out hu4
            have HQ4 : Hid (u4.ownsRow u1.heap.size 9 1 pvb (ofAll lb).1.length ((ofAll lb).1.map Value.string)) := own_below HQ3.out hu4
            have HK4 : Hid (u4.ownsRow u1.heap.size 4 1 kvb (ofAll lb).2.length ((ofAll lb).2.map Value.bool)) := own_below HK3.out hu4
            have HZ4 : Hid (u1.heap.size ≤ u4.heap.size) := Nat.le_trans HZ3'.out.2 hu4.size
            clear hu4
            go_wp2_with fail
            refine (PlDo_any u1.heap.size pvb kvb (ofAll lb).1 (ofAll lb).2 T1 _ HZ4.out HQ4.out HK4.out HOB.out.1 HT1S.out HOB.out.2.1 HOB.out.2.2.1).mono ?_
            rintro e u5 ⟨rfl, hu5⟩
            rw [HT1D.out, HDB.out.1]
            obtain ⟨T2, HT2⟩ : ∃ T2, Hid ((⟨(doL lb (doL la (qs63 (inW (wordL la))))).toArray⟩ : ByteArray) = T2) := ⟨_, rfl⟩
            rw [HT2.out]
            have HT2D : Hid (T2.data.toList = doL lb (doL la (qs63 (inW (wordL la))))) := by show _ = _; rw [← HT2.out]
            have HT2S : Hid (T2.size ≤ 1000) := by
              have h : T2.data.toList.length = T2.size := Array.length_toList
              rw [HT2D.out, HDB.out.2] at h
              show _ ≤ _
              omega
            have HK5 : Hid (KeptOK (inW (wordL la)) T2.data.toList.length (joinP pa pb) 0 0) := by
              show KeptOK _ _ _ _ _
              rw [HT2D.out, HDB.out.2]
              exact HKO.out.1
            have HM5 : Hid (madeL (inW (wordL la)) (joinP pa pb) T2.data.toList = compL la lb) := by show _ = _; rw [HT2D.out]; exact HCL.out
            have HU5 : Hid (Below w.heap.size w u5) := HU4.out.trans (hu5.mono HU4.out.size)
            have HO5 : Hid (u5.ownsRow w8.heap.size 83 2 (.slice eo (joinP pa pb).length ce) (joinP pa pb).length (prCells (joinP pa pb))) := own_below HO4.out hu5
            clear hu5
            go_wp2_with fail
            refine (made_any w8.heap.size (inW (wordL la)) (joinP pa pb) _ T2 _ HO5.out ba1 HT2S.out HKO.out.2 HK5.out).mono ?_
            rintro e u6 ⟨v6, rfl, hown6, hu6⟩
            obtain ⟨a6, c6, rfl, hp6⟩ := parts_own hown6 (made_bound HM5.out HCZ.out)
            rw [HM5.out] at hp6
            rw [HM5.out] at hown6
            have HP6 : Hid (PartsAt u6 u6.heap.size a6 (compL la lb) ∧ u6.ownsRow w.heap.size 58 3 (.slice a6 (compL la lb).length c6) (compL la lb).length (allCells (compL la lb))) := ⟨hp6, own_lower hown6 HU5.out.size⟩
            have HU6 : Hid (Below w.heap.size w u6) := HU5.out.trans (hu6.mono HU5.out.size)
            clear hown6 hu6 hp6
            rw [HM5.out]
            go_wp2_with fail
            go_ret2
            rw [HR.out, HZ.out]
            exact ⟨a6, c6, rfl, HP6.out.1, HP6.out.2, HU6.out⟩
      · have g3 : (outI la != inI lb) = true := by simp [z3]
        have HZ : Hid (compE la lb = 4 ∧ compR la lb = []) := by
          have h : compE la lb = 4 := by rw [compE, if_pos HZ1.out, if_pos HZ2.out, if_neg z3]
          exact ⟨h, by rw [compR, if_neg (by omega)]⟩
        clear z3
        go_wp2_with fail
        go_ret2
        rw [HZ.out.1, HZ.out.2]
        exact ⟨none, 0, rfl, parts_none (Nat.le_refl _), World.ownsRow_nil _ _ _ _, HE4.out⟩
    · have g2 : (sizesE lb != 0) = true := by simp [z2]
      have HZ : Hid (compE la lb = sizesE lb ∧ compR la lb = []) := by
        have h : compE la lb = sizesE lb := by rw [compE, if_pos HZ1.out, if_neg z2]
        exact ⟨h, by rw [compR, if_neg (by rw [h]; exact z2)]⟩
      clear z2
      go_wp2_with fail
      go_ret2
      rw [HZ.out.1, HZ.out.2]
      exact ⟨none, 0, rfl, parts_none (Nat.le_refl _), World.ownsRow_nil _ _ _ _, HE2.out⟩
  · have g1 : (sizesE la != 0) = true := by simp [z1]
    have HZ : Hid (compE la lb = sizesE la ∧ compR la lb = []) := by
      have h : compE la lb = sizesE la := by rw [compE, if_neg z1]
      exact ⟨h, by rw [compR, if_neg (by rw [h]; exact z1)]⟩
    clear z1
    go_wp2_with fail
    go_ret2
    rw [HZ.out.1, HZ.out.2]
    exact ⟨none, 0, rfl, parts_none (Nat.le_refl _), World.ownsRow_nil _ _ _ _, HE1.out⟩

theorem RComp_any (a b : Option Addr) (la lb : List Pt) (ca cb : Nat) (w : World) (ha : PartsAt w w.heap.size a la) (hb : PartsAt w w.heap.size b lb) :
    Calls Try.prog 15 #[.slice a la.length ca, .slice b lb.length cb] w fun e w' => ∃ a' c', e = .returned (.tuple #[.slice a' (compR la lb).length c', .int .i64 (compE la lb)]) ∧ PartsAt w' w'.heap.size a' (compR la lb) ∧ Below w.heap.size w w' :=
  (RCompO_any a b la lb ca cb w ha hb).mono fun e w' ⟨a', c', h1, h2, _, h3⟩ => ⟨a', c', h1, h2, h3⟩
end Go.Proofs.Ytinhidddfpjjkab
