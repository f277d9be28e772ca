/- The places at which a delta puts, as the law MeetApart reckons them; and whether two have one in common. -/
import Derived.Test.YtilcmbophfjjbabMeetKit
import Derived.Test.YtilcmbophfjjbabPlMem
namespace Go.Proofs.Ytilcmbophfjjbab
open Go.RowKit
set_option linter.unusedSimpArgs false
set_option linter.unusedVariables false

theorem own_at1 {w : World} {B n : Nat} {e : TypeId} {v u : Value} {xs : List Value} {j : Nat} (h : w.ownsRow B e 1 v n xs) (hj : xs[j]? = some u) : ∃ g cap, v = .slice (some ⟨g, 0, none⟩) n cap ∧ w.cell? ⟨g, j, none⟩ = some u ∧ g < w.heap.size := by
  have hjl : j < n := by
    have h1 := h.1
    obtain ⟨h2, _⟩ := List.getElem?_eq_some_iff.1 hj
    omega
  rcases h.2 with ⟨_, h0⟩ | ⟨g, cap, cur, rfl, _, hc, _⟩
  · omega
  · exact ⟨g, cap, rfl, by rw [h.cellAt j (by omega)]; exact hj, lt_of_heap hc⟩

def plS : List Pt → Int → List Int
  | [], _ => []
  | p :: r, i => (if p.k = 2 then [i] else []) ++ plS r (wrap64 (i + p.n))
theorem plS_len (l : List Pt) (i : Int) : (plS l i).length ≤ l.length := by
  induction l generalizing i with
  | nil => simp [plS]
  | cons p r ih =>
    have := ih (wrap64 (i + p.n))
    by_cases h : p.k = 2 <;> simp [plS, h] <;> omega
theorem infoInt : (Try.prog.info? 3).map (fun i => (i.zero, i.size, i.bytes)) = some (some (.int .i64 0), 1, 8) := by kernel_rfl
abbrev intC (x : Int) : Value := .int .i64 x

set_option maxHeartbeats 2000000 in
theorem splaces_any (a : Option Addr) (l : List Pt) (cap : Nat) (w : World) (hp : PartsAt w w.heap.size a l) (hl : l.length * 32 ≤ 140737488351232) :
    Calls Try.prog 16 #[.slice a l.length cap] w fun e w' => ∃ v, e = .returned v ∧ w'.ownsRow w.heap.size 3 1 v (plS l 0).length ((plS l 0).map intC) ∧ Below w.heap.size w w' := by
  obtain ⟨ip, hip, hp0, hp1, hp2⟩ := info_parts infoInt
  have HP : Hid (PartsAt w w.heap.size a l) := hp
  clear hp
  go_enter Try.func16, Try.ntmps16
  go_wp2_with fail
  go_loopw [3, 4, 9] (fun v t i wr => ∃ (k : Nat) (at_ : Int) (out : List Int), k ≤ l.length ∧ i = .int .i64 k ∧ t = .int .i64 at_ ∧ out.length ≤ k ∧ wr.ownsRow w.heap.size 3 1 v out.length (out.map intC) ∧ out ++ plS (l.drop k) at_ = plS l 0 ∧ Below w.heap.size w wr) (fun _ _ i _ => l.length - (intOf i).toNat)
  case atStart => exact ⟨0, 0, [], Nat.zero_le _, rfl, rfl, by simp, World.ownsRow_nil _ _ _ _, by simp, Below.refl _ _⟩
  case round =>
    obtain ⟨k, at_, out, hk, rfl, rfl, hol, hown, htot, hb⟩ := hrel
    have hz := hb.size
    obtain ⟨ao, ca, rfl⟩ := slice_form' hown
    by_cases hlt : k < l.length
    · obtain ⟨p, hpk⟩ : ∃ p, l[k]? = some p := ⟨l[k], List.getElem?_eq_getElem hlt⟩
      obtain ⟨b, off, rfl, hblt, c1, c2, c3⟩ := (HP.out.below hb (Nat.le_refl _)).mem hpk
      rw [drop_cons hpk, plS] at htot
      have HT : Hid (out ++ ((if p.k = 2 then [at_] else []) ++ plS (l.drop (k + 1)) (wrap64 (at_ + p.n))) = plS l 0) := htot
      have HB : Hid (Below w.heap.size w wr) := hb
      by_cases q2 : p.k = 2
      · have e2 : (p.k == 2) = true := by simp [q2]
        have HQ : Hid (p.k = 2) := q2
        have hAs := own_alloc (own_alloc hown (.cells #[.int .i64 p.k, .int .i64 p.n, .string p.t] 27)) (.cells #[.int .i64 at_] 3)
        have hNew : ((wr.alloc (.cells #[.int .i64 p.k, .int .i64 p.n, .string p.t] 27)).alloc (.cells #[.int .i64 at_] 3)).heap[wr.heap.size + 1]? = some (.cells #[.int .i64 at_] 3 (0, 0)) := by
          have h := heap_alloc_new (wr.alloc (.cells #[.int .i64 p.k, .int .i64 p.n, .string p.t] 27)) (.cells #[.int .i64 at_] 3)
          rw [Deep.nblk_alloc] at h
          exact h
        have HO : Hid (wr.ownsRow w.heap.size 3 1 (.slice ao out.length ca) out.length (out.map intC)) := hown
        clear q2 hpk hb htot hown
        go_wp2_with (at_builtin; refine wpList_append_own _ rfl _ _ 38 rfl w.heap.size 3 ip _ 1 8 Try.underlying38 hip hp0 hp1 hp2 rfl (by decide) _ _ _ rfl hAs ⟨wr.heap.size + 1, 0, none⟩ 1 1 [.int .i64 at_] rfl rfl (World.news_of_block (cs := #[.int .i64 at_]) (t := 3) (fr := (0, 0)) hNew) (by simp [Value.oneCell']) ?c3 ?c4 ?c5 ?_)
        case c3 => unfold maxLen; omega
        case c4 => omega
        case c5 => first | omega | (simp; omega)
        intro v' w2 hown2 hgrow _
        have hbox : w2.heap[wr.heap.size]? = some (.cells #[.int .i64 p.k, .int .i64 p.n, .string p.t] 27 (0, 0)) := by
          have h1 := hgrow.block wr.heap.size (by simp only [Deep.nblk_alloc]; omega) (fun e => by have := (HO.out.lt _ e.symm).2; omega)
          rw [h1, Deep.blk_alloc_lt _ _ _ (by simp only [Deep.nblk_alloc]; omega)]
          exact Deep.blk_alloc_new _ _
        have d1 : w2.cell? ⟨wr.heap.size, 1, none⟩ = some (.int .i64 p.n) := by rw [cell_of_row _ _ _ _ _ _ hbox]; rfl
        have hbz : wr.heap.size < w2.heap.size := lt_of_heap hbox
        obtain ⟨bo, cb, rfl⟩ := slice_form' hown2
        have HB2 : Hid (Below w.heap.size w w2) := below_own' ((HB.out.alloc hz _).alloc (by simp; omega) _) hAs hgrow (by simp; omega)
        have HO2 : Hid (w2.ownsRow w.heap.size 3 1 (.slice bo (out.length + 1) cb) (out ++ [at_]).length ((out ++ [at_]).map intC)) := by
          show World.ownsRow _ _ _ _ _ _ _
          rw [List.length_append, List.map_append]; exact hown2
        clear hown2 hgrow hbox hAs hNew HO
        go_wp2_with fail
        go_roundw
        case rel =>
          refine ⟨k + 1, wrap64 (at_ + p.n), out ++ [at_], by omega, by go_num, rfl, by simp; omega, HO2.out, ?_, HB2.out⟩
          have h := HT.out
          rw [if_pos HQ.out] at h
          rw [← h]; simp
        case measure => simp [intOf]; omega
      · have e2 : (p.k == 2) = false := by simp [q2]
        have HQ : Hid (¬ p.k = 2) := q2
        have HO : Hid (wr.ownsRow w.heap.size 3 1 (.slice ao out.length ca) out.length (out.map intC)) := hown
        clear q2 hpk hb htot hown
        go_wp2_with fail
        go_roundw
        case rel =>
          refine ⟨k + 1, wrap64 (at_ + p.n), out, by omega, by go_num, rfl, by omega, own_alloc HO.out _, ?_, HB.out.alloc hz _⟩
          have h := HT.out
          rw [if_neg HQ.out] at h
          simpa using h
        case measure => simp [intOf]; omega
    · have hdr : l.drop k = [] := List.drop_eq_nil_of_le (by omega)
      rw [hdr, plS, List.append_nil] at htot
      rw [htot] at hown
      have HO : Hid (wr.ownsRow w.heap.size 3 1 (.slice ao out.length ca) (plS l 0).length ((plS l 0).map intC)) := by rw [htot]; exact hown
      have HB : Hid (Below w.heap.size w wr) := hb
      clear hown hb htot
      go_wp2_with fail
      go_ret
      exact ⟨_, rfl, HO.out, HB.out⟩

theorem mem_take_succ {xs : List Int} {k : Nat} {y x : Int} (h : xs[k]? = some y) : x ∈ xs.take (k + 1) ↔ x ∈ xs.take k ∨ x = y := by
  obtain ⟨hi, e⟩ := List.getElem?_eq_some_iff.1 h
  rw [List.take_succ_eq_append_getElem hi, e]; simp
set_option maxHeartbeats 1000000 in
theorem ixInt_any (B : Nat) (v : Value) (xs : List Int) (x : Int) (w : World) (hv : w.ownsRow B 3 1 v xs.length (xs.map intC)) (hl : xs.length ≤ 9223372036854775806) :
    Calls Try.prog 39 #[v, .int .i64 x] w fun e w' => ∃ r : Int, e = .returned (.int .i64 r) ∧ (0 ≤ r ↔ x ∈ xs) ∧ w' = w := by
  obtain ⟨ao, ca, rfl⟩ := slice_form' hv
  have HV : Hid (w.ownsRow B 3 1 (.slice ao xs.length ca) xs.length (xs.map intC)) := hv
  clear hv
  go_enter Try.func39, Try.ntmps39
  go_wp2_with fail
  go_loopw [8] (fun i wr => ∃ k : Nat, k ≤ xs.length ∧ i = .int .i64 k ∧ x ∉ xs.take k ∧ wr = w) (fun i _ => xs.length - (intOf i).toNat)
  case atStart => exact ⟨0, Nat.zero_le _, rfl, by simp, rfl⟩
  case round =>
    obtain ⟨k, hk, rfl, hn, rfl⟩ := hrel
    by_cases hlt : k < xs.length
    · obtain ⟨y, hy⟩ : ∃ y, xs[k]? = some y := ⟨xs[k], List.getElem?_eq_getElem hlt⟩
      obtain ⟨g, cg, hg, y1, hgw⟩ := own_at1 HV.out (show (xs.map intC)[k]? = some (intC y) by simp [hy])
      simp only [Value.slice.injEq, true_and] at hg
      obtain ⟨rfl, rfl⟩ := hg
      have HY : Hid (xs[k]? = some y ∧ x ∉ xs.take k) := ⟨hy, hn⟩
      clear hy hn
      by_cases hx : x = y
      · have e1 : (x == y) = true := by simp [hx]
        have HX : Hid (x = y) := hx
        clear hx
        go_wp2_with fail
        go_ret
        exact ⟨k, rfl, ⟨fun _ => by rw [HX.out]; exact List.mem_of_getElem? HY.out.1, fun _ => by omega⟩, rfl⟩
      · have e1 : (x == y) = false := by simp [hx]
        have HX : Hid (¬ x = y) := hx
        clear hx
        go_wp2_with fail
        go_roundw
        case rel =>
          refine ⟨k + 1, by omega, by go_num, ?_, by first | rfl | trivial⟩
          rw [mem_take_succ HY.out.1]
          rintro (h | h)
          · exact HY.out.2 h
          · exact HX.out h
        case measure => simp [intOf]; omega
    · have HN : Hid (x ∉ xs) := by
        have h := hn
        rw [List.take_of_length_le (by omega)] at h
        exact h
      clear hn
      go_wp2_with fail
      go_ret
      exact ⟨-1, rfl, ⟨fun h => by omega, fun h => absurd h HN.out⟩, rfl⟩
set_option maxHeartbeats 400000 in
theorem coInt_any (B : Nat) (v : Value) (xs : List Int) (x : Int) (w : World) (hv : w.ownsRow B 3 1 v xs.length (xs.map intC)) (hl : xs.length ≤ 9223372036854775806) :
    Calls Try.prog 18 #[v, .int .i64 x] w fun e w' => e = .returned (.bool (decide (x ∈ xs))) ∧ w' = w := by
  have HV : Hid (w.ownsRow B 3 1 v xs.length (xs.map intC)) := hv
  clear hv
  go_enter Try.func18, Try.ntmps18
  go_wp2_with fail
  refine (ixInt_any B v xs x _ HV.out hl).mono ?_
  rintro e w1 ⟨r, rfl, hr, hw⟩
  have HR : Hid (decide (0 ≤ r) = decide (x ∈ xs)) := by show _ = _; rw [decide_eq_decide]; exact hr
  subst w1
  clear hr
  go_wp2_with fail
  go_ret
  exact ⟨ret_bool HR.out, by first | rfl | trivial⟩
set_option maxHeartbeats 1000000 in
theorem apart1_any (X : Nat) (b : Option Addr) (lb : List Pt) (cb : Nat) (x : Int) (w : World) (hb : PartsAt w w.heap.size b lb) (hX : w.heap[X]? = some (.cells #[.slice b lb.length cb] 22 (0, 0))) (hl : lb.length * 32 ≤ 140737488351232) :
    Calls Try.prog 17 #[.int .i64 x, .pointer (some ⟨X, 0, none⟩)] w fun e w' => e = .returned (.bool (decide (x ∈ plS lb 0))) ∧ Below w.heap.size w w' := by
  have HB : Hid (PartsAt w w.heap.size b lb) := hb
  have c0 : w.cell? ⟨X, 0, none⟩ = some (.slice b lb.length cb) := by rw [cell_of_row _ _ _ _ _ _ hX]; rfl
  clear hb hX
  go_enter Try.func17, Try.ntmps17
  go_wp2_with fail
  refine (splaces_any b lb cb _ HB.out hl).mono ?_
  rintro e w1 ⟨v, rfl, hown, hb1⟩
  have HO : Hid (w1.ownsRow w.heap.size 3 1 v (plS lb 0).length ((plS lb 0).map intC)) := hown
  have HB1 : Hid (Below w.heap.size w w1) := hb1
  have hpl := plS_len lb 0
  clear hown hb1
  go_wp2_with fail
  refine (coInt_any w.heap.size v (plS lb 0) x _ HO.out (by omega)).mono ?_
  rintro e w2 ⟨rfl, hw⟩
  subst w2
  go_wp2_with fail
  go_ret
  exact ⟨rfl, HB1.out⟩
def shareB (xs ys : List Int) : Bool := xs.any (fun x => decide (x ∈ ys))
set_option maxHeartbeats 1000000 in
theorem ixShare_any (B : Nat) (v : Value) (xs : List Int) (X : Nat) (b : Option Addr) (lb : List Pt) (cb : Nat) (w : World) (hv : w.ownsRow B 3 1 v xs.length (xs.map intC)) (hxl : xs.length ≤ 9223372036854775806) (hb : PartsAt w w.heap.size b lb) (hX : w.heap[X]? = some (.cells #[.slice b lb.length cb] 22 (0, 0))) (hl : lb.length * 32 ≤ 140737488351232) :
    Calls Try.prog 38 #[v, .func (.func 17) #[] #[.pointer (some ⟨X, 0, none⟩)]] w fun e w' => ∃ r : Int, e = .returned (.int .i64 r) ∧ (0 ≤ r ↔ shareB xs (plS lb 0) = true) ∧ Below w.heap.size w w' := by
  obtain ⟨ao, ca, rfl⟩ := slice_form' hv
  have HV : Hid (w.ownsRow B 3 1 (.slice ao xs.length ca) xs.length (xs.map intC)) := hv
  have HP : Hid (PartsAt w w.heap.size b lb) := hb
  have HX : Hid (w.heap[X]? = some (.cells #[.slice b lb.length cb] 22 (0, 0))) := hX
  clear hv hb hX
  go_enter Try.func38, Try.ntmps38
  go_wp2_with fail
  go_loopw [8] (fun i wr => ∃ k : Nat, k ≤ xs.length ∧ i = .int .i64 k ∧ shareB (xs.take k) (plS lb 0) = false ∧ Below w.heap.size w wr) (fun i _ => xs.length - (intOf i).toNat)
  case atStart => exact ⟨0, Nat.zero_le _, rfl, rfl, Below.refl _ _⟩
  case round =>
    obtain ⟨k, hk, rfl, hc, hbw⟩ := hrel
    have hz := hbw.size
    by_cases hlt : k < xs.length
    · obtain ⟨y, hy⟩ : ∃ y, xs[k]? = some y := ⟨xs[k], List.getElem?_eq_getElem hlt⟩
      obtain ⟨g, cg, hg, y1, hgw⟩ := own_at1 HV.out (show (xs.map intC)[k]? = some (intC y) by simp [hy])
      simp only [Value.slice.injEq, true_and] at hg
      obtain ⟨rfl, rfl⟩ := hg
      have y2 : wr.cell? ⟨g, k, none⟩ = some (.int .i64 y) := (hbw.cell (p := ⟨g, k, none⟩) hgw).trans y1
      have HB : Hid (Below w.heap.size w wr) := hbw
      have HPW : Hid (PartsAt wr wr.heap.size b lb) := HP.out.here hbw (Nat.le_refl _)
      have HXW : Hid (wr.heap[X]? = some (.cells #[.slice b lb.length cb] 22 (0, 0))) := (hbw.block X (lt_of_heap HX.out)).trans HX.out
      have HS : Hid (shareB (xs.take (k + 1)) (plS lb 0) = (shareB (xs.take k) (plS lb 0) || decide (y ∈ plS lb 0))) := by
        show _ = _
        obtain ⟨hi, e⟩ := List.getElem?_eq_some_iff.1 hy
        rw [List.take_succ_eq_append_getElem hi, e]; simp [shareB]
      have HC : Hid (shareB (xs.take k) (plS lb 0) = false) := hc
      have HM : Hid (y ∈ xs) := List.mem_of_getElem? hy
      clear hbw hy hc y1
      go_wp2_with fail
      refine (apart1_any X b lb cb y _ HPW.out HXW.out hl).mono ?_
      rintro e w1 ⟨rfl, hb1⟩
      have HB1 : Hid (Below w.heap.size w w1) := HB.out.trans (hb1.mono HB.out.size)
      clear hb1
      by_cases h3 : y ∈ plS lb 0
      · have e3 : decide (y ∈ plS lb 0) = true := by simp [h3]
        have HT : Hid (shareB xs (plS lb 0) = true) := by show _ = _; rw [shareB, List.any_eq_true]; exact ⟨y, HM.out, by simp [h3]⟩
        clear h3
        go_wp2_with fail
        go_ret
        exact ⟨k, rfl, ⟨fun _ => HT.out, fun _ => by omega⟩, HB1.out⟩
      · have e3 : decide (y ∈ plS lb 0) = false := by simp [h3]
        clear h3
        go_wp2_with fail
        go_roundw
        case rel => exact ⟨k + 1, by omega, by go_num, by rw [HS.out, HC.out, e3]; rfl, HB1.out⟩
        case measure => simp [intOf]; omega
    · have HC : Hid (shareB xs (plS lb 0) = false) := by
        have h := hc
        rw [List.take_of_length_le (by omega)] at h
        exact h
      clear hc
      go_wp2_with fail
      go_ret
      exact ⟨-1, rfl, ⟨fun h => by omega, fun h => by rw [HC.out] at h; cases h⟩, hbw⟩
set_option maxHeartbeats 400000 in
theorem coShare_any (B : Nat) (v : Value) (xs : List Int) (X : Nat) (b : Option Addr) (lb : List Pt) (cb : Nat) (w : World) (hv : w.ownsRow B 3 1 v xs.length (xs.map intC)) (hxl : xs.length ≤ 9223372036854775806) (hb : PartsAt w w.heap.size b lb) (hX : w.heap[X]? = some (.cells #[.slice b lb.length cb] 22 (0, 0))) (hl : lb.length * 32 ≤ 140737488351232) :
    Calls Try.prog 15 #[v, .func (.func 17) #[] #[.pointer (some ⟨X, 0, none⟩)]] w fun e w' => e = .returned (.bool (shareB xs (plS lb 0))) ∧ Below w.heap.size w w' := by
  have HV : Hid (w.ownsRow B 3 1 v xs.length (xs.map intC)) := hv
  have HP : Hid (PartsAt w w.heap.size b lb) := hb
  have HX : Hid (w.heap[X]? = some (.cells #[.slice b lb.length cb] 22 (0, 0))) := hX
  clear hv hb hX
  go_enter Try.func15, Try.ntmps15
  go_wp2_with fail
  refine (ixShare_any B v xs X b lb cb _ HV.out hxl HP.out HX.out hl).mono ?_
  rintro e w1 ⟨r, rfl, hr, hb⟩
  have HR : Hid (decide (0 ≤ r) = shareB xs (plS lb 0)) := by
    show _ = _
    cases hc : shareB xs (plS lb 0)
    · simp only [decide_eq_false_iff_not]; intro h; rw [hr.1 h] at hc; cases hc
    · simp only [decide_eq_true_eq]; exact hr.2 hc
  have HB : Hid (Below w.heap.size w w1) := hb
  clear hr hb
  go_wp2_with fail
  go_ret
  exact ⟨ret_bool HR.out, HB.out⟩

theorem putsW_app (a b : List Tok) (i : Nat) : putsW (a ++ b) i = putsW a i ++ putsW b (i + inW a) := by
  induction a generalizing i with
  | nil => simp [putsW, inW]
  | cons t a ih =>
    cases t using Tok.by3 with
    | K => simp only [List.cons_append, putsW, inW, ih]; congr 2; omega
    | X => simp only [List.cons_append, putsW, inW, ih]; congr 2; omega
    | P c => simp only [List.cons_append, putsW, inW, ih]
theorem putsW_rep (n i : Nat) (b : Bool) : putsW (List.replicate n (⟨.inl b⟩ : Tok)) i = [] := by
  induction n generalizing i with
  | zero => rfl
  | succ n ih => simpa [List.replicate_succ, putsW] using ih (i + 1)
theorem putsW_map (t : List UInt8) (i : Nat) : ∀ j ∈ putsW (t.map .P) i, j = i := by
  induction t with
  | nil => intro j hj; simp [putsW] at hj
  | cons c t ih =>
    intro j hj
    simp only [List.map_cons, putsW, List.mem_cons] at hj
    rcases hj with h | h
    · exact h
    · exact ih j h
theorem plS_has {l : List Pt} (h : Right l) (i : Nat) (hi : (i : Int) + inI l ≤ 1000) : ∀ j ∈ putsW (wordL l) i, (j : Int) ∈ plS l i := by
  induction l generalizing i with
  | nil => intro j hj; simp [wordL, putsW] at hj
  | cons p r ih =>
    have hr : Right r := fun q hq => h q (List.mem_cons_of_mem _ hq)
    obtain ⟨r0, r1, r2, r3⟩ := right_len hr
    obtain ⟨hk, h2, h3, h4⟩ := h p (by simp)
    have hp0 := ((right_len h).2.2.2 p (by simp)).1
    simp only [inI] at hi
    have hw : wrap64 ((i : Int) + p.n) = ((i + p.n.toNat : Nat) : Int) := by
      rw [IntWalk.wrap64_in _ ⟨by omega, by omega⟩]; omega
    have ih := ih hr (i + p.n.toNat) (by omega)
    intro j hj
    rw [wordL_cons, putsW_app, List.mem_append] at hj
    rw [plS, hw, List.mem_append]
    have hin : inW (wordP p) = p.n.toNat := by
      unfold wordP
      rcases hk with k | k | k
      · rw [if_pos k]; have := (inW_rep p.n.toNat []).1; simpa [inW] using this
      · rw [if_neg (by omega), if_pos k, h2 k]; have := inW_map p.t.data.toList []; simpa [inW] using this
      · rw [if_neg (by omega), if_neg (by omega)]; have := (inW_rep p.n.toNat []).2; simpa [inW] using this
    rw [hin] at hj
    rcases hj with hj | hj
    · rcases hk with k | k | k
      · rw [wordP, if_pos k, putsW_rep] at hj; simp at hj
      · rw [wordP, if_neg (by omega), if_pos k] at hj
        left; rw [if_pos k, putsW_map _ _ j hj]; simp
      · rw [wordP, if_neg (by omega), if_neg (by omega), putsW_rep] at hj; simp at hj
    · right; exact ih j hj
theorem share_none {a b : List Pt} (ha : sizesE a = 0) (hb : sizesE b = 0) (h : shareB (plS a 0) (plS b 0) = false) : ∀ j ∈ putsW (wordL a) 0, j ∉ putsW (wordL b) 0 := by
  intro j hj hj2
  obtain ⟨ga, ca, ia, oa, la, ma⟩ := delta_facts ha
  obtain ⟨gb, cb, ib, ob, lb, mb⟩ := delta_facts hb
  have h1 := plS_has (sizes_right ha) 0 (by simp; omega) j hj
  have h2 := plS_has (sizes_right hb) 0 (by simp; omega) j hj2
  have : shareB (plS a 0) (plS b 0) = true := by rw [shareB, List.any_eq_true]; exact ⟨_, h1, by simpa using h2⟩
  rw [h] at this; cases this

end Go.Proofs.Ytilcmbophfjjbab
