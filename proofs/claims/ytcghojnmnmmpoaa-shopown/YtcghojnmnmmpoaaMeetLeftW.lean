/- Places as package meet keeps them, in one list: no program in it. -/
import Derived.Test.YtcghojnmnmmpoaaMeetL
import Derived.Test.YtcghojnmnmmpoaaGMem
import Derived.OwnWalk
import Derived.Deep.RegionLaw
import Derived.Deep.AppendLies
import Derived.Deep.DeepCutAuto
import Derived.Deep.LoopGhost
namespace Go.Proofs.Ytcghojnmnmmpoaa
set_option linter.unusedSimpArgs false
set_option linter.unusedVariables false

def zipPl : List ByteArray → List Bool → List (ByteArray × Bool)
  | q :: qs, b :: ks => (q, !b) :: zipPl qs ks
  | q :: _, [] => [(q, false)]
  | [], _ => []
def cutN : Nat → List (ByteArray × Bool) → List (ByteArray × Bool)
  | 0, R => R
  | _ + 1, [] => []
  | n + 1, x :: R => (x.1, true) :: cutN n R
abbrev noPl : ByteArray × Bool := (ByteArray.empty, false)
theorem zipPl_app (qs : List ByteArray) (ks : List Bool) (h : qs.length = ks.length) : ∃ A : List (ByteArray × Bool), A.length = ks.length ∧ ∀ qs' ks', zipPl (qs ++ qs') (ks ++ ks') = A ++ zipPl qs' ks' := by
  induction ks generalizing qs with
  | nil =>
    have h3 : qs = [] := List.length_eq_zero_iff.1 (by simpa using h)
    subst h3
    exact ⟨[], rfl, fun _ _ => by simp⟩
  | cons b ks ih =>
    cases qs with
    | nil => simp at h
    | cons q qs =>
      obtain ⟨A, hA, hz⟩ := ih qs (by simpa using h)
      exact ⟨(q, !b) :: A, by simp [hA], fun qs' ks' => by simp [zipPl, hz]⟩
theorem zipPl_keep (m : Nat) (q : ByteArray) : zipPl (q :: List.replicate m ByteArray.empty) (List.replicate m true) = (q, false) :: List.replicate m noPl := by
  induction m generalizing q with
  | zero => rfl
  | succ m ih => simp only [List.replicate_succ, zipPl, ih]; rfl
theorem zipPl_cut (m : Nat) (q : ByteArray) : zipPl (q :: List.replicate m ByteArray.empty) (List.replicate m false) = cutN m ((q, false) :: List.replicate m noPl) := by
  induction m generalizing q with
  | zero => rfl
  | succ m ih => simp only [List.replicate_succ, zipPl, ih, cutN]; rfl
theorem cutN_len (m : Nat) (R : List (ByteArray × Bool)) : (cutN m R).length = R.length := by
  induction R generalizing m with
  | nil => cases m <;> rfl
  | cons x R ih => cases m <;> simp [cutN, ih]
theorem cutN_app (m : Nat) (R S : List (ByteArray × Bool)) (h : m ≤ R.length) : cutN m (R ++ S) = cutN m R ++ S := by
  induction R generalizing m with
  | nil =>
    have : m = 0 := by simpa using h
    subst this; rfl
  | cons x R ih =>
    cases m with
    | zero => rfl
    | succ m => simp only [List.cons_append, cutN, ih m (by simpa using h)]
theorem cutN_at {m : Nat} {R : List (ByteArray × Bool)} {x : ByteArray × Bool} (h : R[m]? = some x) : (cutN m R)[m]? = some x ∧ (cutN m R).set m (x.1, true) = cutN (m + 1) R := by
  induction R generalizing m with
  | nil => simp at h
  | cons y R ih =>
    cases m with
    | zero =>
      simp only [List.getElem?_cons_zero, Option.some.injEq] at h
      subst h
      exact ⟨rfl, rfl⟩
    | succ m =>
      obtain ⟨h1, h2⟩ := ih (m := m) (by simpa using h)
      exact ⟨by simpa [cutN] using h1, by simp [cutN, h2]⟩
/-- the list while it is filled: n bytes -/
def fillL (n : Nat) (l : List Pt) : List (ByteArray × Bool) := zipPl (ofAll l).1 (ofAll l).2 ++ List.replicate (n - (ofAll l).2.length) noPl
theorem last_empty {l : List Pt} (hR : Right l) (h : endK 0 l ≠ 2) : ∃ qs, (ofAll l).1 = qs ++ [ByteArray.empty] := by
  rcases List.eq_nil_or_concat l with rfl | ⟨m, p, rfl⟩
  · exact ⟨[], rfl⟩
  · have hk : p.k ≠ 2 := by
      rw [List.concat_eq_append, endK_app] at h; exact h
    have hn := ((hR p (by simp)).2.2.1 hk).2
    have e : ofAll (m.concat p) = ofStep (ofAll m) p := by rw [List.concat_eq_append, ofAll, List.foldl_append]; rfl
    obtain ⟨j, hj⟩ : ∃ j, p.n.toNat = j + 1 := ⟨p.n.toNat - 1, by omega⟩
    rw [e, ofStep, if_neg hk, hj]
    exact ⟨(ofAll m).1 ++ List.replicate j ByteArray.empty, by simp [rep_split]⟩
theorem empty_app (t : ByteArray) : ByteArray.empty ++ t = t := by simp
theorem fill_form {l : List Pt} {k n : Nat} (hz : sizesE l = 0) (hn : (n : Int) = inI l) (hk : k ≤ l.length) : ∃ (A : List (ByteArray × Bool)) (q : ByteArray), fillL n (l.take k) = A ++ (q, false) :: List.replicate (n - A.length) noPl ∧ (A.length : Int) = inI (l.take k) ∧
    ∀ p, l[k]? = some p → (p.k = 2 → fillL n (l.take (k + 1)) = A ++ (p.t, false) :: List.replicate (n - A.length) noPl) ∧ (p.k = 1 → fillL n (l.take (k + 1)) = fillL n (l.take k)) ∧
      (p.k = 3 → fillL n (l.take (k + 1)) = A ++ cutN p.n.toNat ((q, false) :: List.replicate (n - A.length) noPl)) ∧ (A.length : Int) + p.n ≤ n := by
  have hR := sizes_right hz
  have hRk : Right (l.take k) := fun p hp => hR p (List.mem_of_mem_take hp)
  have hlen := ofAll_len (l.take k)
  have hkept := ofAll_keptlen (l := l.take k) (fun p hp => ⟨((right_len hRk).2.2.2 p hp).1, (hRk p hp).2.1⟩)
  obtain ⟨qs, q, hqs⟩ : ∃ qs q, (ofAll (l.take k)).1 = qs ++ [q] := by
    rcases List.eq_nil_or_concat (ofAll (l.take k)).1 with h | ⟨qs, q, h⟩
    · rw [h] at hlen; simp at hlen
    · exact ⟨qs, q, by rw [h, List.concat_eq_append]⟩
  obtain ⟨ks, hks⟩ : ∃ ks, (ofAll (l.take k)).2 = ks := ⟨_, rfl⟩
  have hst : ofAll (l.take k) = (qs ++ [q], ks) := by rw [← hqs, ← hks]
  rw [hst] at hlen hkept
  have hl : qs.length = ks.length := by simpa using hlen
  obtain ⟨A, hA, hzip⟩ := zipPl_app qs ks hl
  have e0 : zipPl (qs ++ [q]) ks = A ++ [(q, false)] := by have := hzip [q] []; simpa [zipPl] using this
  have efill : fillL n (l.take k) = A ++ (q, false) :: List.replicate (n - A.length) noPl := by
    rw [fillL, hst]; simp only [e0, hA]; simp
  refine ⟨A, q, efill, by simp only at hkept; omega, fun p hp => ?_⟩
  have hsn := ofAll_snoc hp
  rw [hst] at hsn
  have hpm := List.mem_of_getElem? hp
  have hpR := hR p hpm
  have hpn := ((right_len hR).2.2.2 p hpm).1
  have hle : (A.length : Int) + p.n ≤ n := by
    have h1 : inI l = inI (l.take k ++ l.drop k) := by rw [List.take_append_drop]
    rw [inI_app, drop_cons hp] at h1
    have hd : Right (l.drop (k + 1)) := fun p hp => hR p (List.mem_of_mem_drop hp)
    have h2 := (right_len hd).1
    simp only [inI] at h1
    simp only at hkept
    omega
  refine ⟨fun h2 => ?_, fun h1 => ?_, fun h3 => ?_, hle⟩
  · have hq : q = ByteArray.empty := by
      have hsc := (sizes_scan hz).2
      have h3 : scanE 0 (l.take (k + 1)) = 0 := by
        have h4 : l.take (k + 1) ++ l.drop (k + 1) = l := List.take_append_drop _ _
        rw [← h4] at hsc
        exact (scan_app.1 hsc).1
      rw [take_snoc hp] at h3
      have h4 := scan_one.1 (scan_app.1 h3).2
      obtain ⟨_, _, h5, _⟩ := step_part h4
      have h6 : endK 0 (l.take k) ≠ 2 := by
        intro e
        rw [e] at h5
        simp [followB, h2] at h5
      obtain ⟨qs', hqs'⟩ := last_empty hRk h6
      rw [hst] at hqs'
      have := congrArg List.getLast? hqs'
      simpa using this
    have e : ofStep (qs ++ [q], ks) p = (qs ++ [p.t], ks) := by
      rw [ofStep, if_pos h2, setLast_snoc, hq, empty_app]
    rw [fillL, hsn, e]
    have e1 : zipPl (qs ++ [p.t]) ks = A ++ [(p.t, false)] := by have := hzip [p.t] []; simpa [zipPl] using this
    simp only [e1, hA]; simp
  · have e : ofStep (qs ++ [q], ks) p = (qs ++ (q :: List.replicate p.n.toNat ByteArray.empty), ks ++ List.replicate p.n.toNat true) := by
      rw [ofStep, if_neg (by omega)]; simp [h1]
    rw [efill, fillL, hsn, e]
    simp only [hzip, zipPl_keep, List.length_append, List.length_replicate, List.append_assoc, List.cons_append, List.replicate_append_replicate]
    rw [show p.n.toNat + (n - (ks.length + p.n.toNat)) = n - A.length by omega]
  · have e : ofStep (qs ++ [q], ks) p = (qs ++ (q :: List.replicate p.n.toNat ByteArray.empty), ks ++ List.replicate p.n.toNat false) := by
      rw [ofStep, if_neg (by omega)]; simp [h3]
    rw [fillL, hsn, e]
    simp only [hzip, zipPl_cut, List.length_append, List.length_replicate]
    have h4 : (q, false) :: List.replicate (n - A.length) noPl = ((q, false) :: List.replicate p.n.toNat noPl) ++ List.replicate (n - (ks.length + p.n.toNat)) noPl := by
      rw [List.cons_append, List.replicate_append_replicate, show p.n.toNat + (n - (ks.length + p.n.toNat)) = n - A.length by omega]
    rw [h4, cutN_app _ _ _ (by simp), List.append_assoc]
theorem fill_len {l : List Pt} {k n : Nat} (hz : sizesE l = 0) (hn : (n : Int) = inI l) (hk : k ≤ l.length) : (fillL n (l.take k)).length = n + 1 := by
  obtain ⟨A, q, h1, h2, _⟩ := fill_form hz hn hk
  have hR := sizes_right hz
  have h3 : inI l = inI (l.take k ++ l.drop k) := by rw [List.take_append_drop]
  rw [inI_app] at h3
  have hd : Right (l.drop k) := fun p hp => hR p (List.mem_of_mem_drop hp)
  have h4 := (right_len hd).1
  rw [h1]; simp; omega
theorem fill_all {l : List Pt} {n : Nat} (hz : sizesE l = 0) (hn : (n : Int) = inI l) : fillL n l = zipPl (ofAll l).1 (ofAll l).2 := by
  have hR := sizes_right hz
  have hkept := ofAll_keptlen (l := l) (fun p hp => ⟨((right_len hR).2.2.2 p hp).1, (hR p hp).2.1⟩)
  rw [fillL, show n - (ofAll l).2.length = 0 by omega]; simp
theorem fill_none (n : Nat) : fillL n [] = List.replicate (n + 1) noPl := by
  rw [fillL, List.replicate_succ]; simp [ofAll, zipPl]
/-- what is at a place -/
theorem zip_at {qs : List ByteArray} {ks : List Bool} (h : qs.length = ks.length + 1) {i : Nat} (hi : i ≤ ks.length) : ∃ q c, (zipPl qs ks)[i]? = some (q, c) ∧ qs[i]? = some q ∧ ((i = ks.length ∧ c = false) ∨ ∃ b, ks[i]? = some b ∧ c = !b) := by
  induction ks generalizing qs i with
  | nil =>
    match qs, h with
    | [q], _ =>
      have : i = 0 := by simpa using hi
      subst this
      exact ⟨q, false, rfl, rfl, .inl ⟨rfl, rfl⟩⟩
  | cons b ks ih =>
    match qs, h with
    | q :: qs, h =>
      cases i with
      | zero => exact ⟨q, !b, rfl, rfl, .inr ⟨b, rfl, rfl⟩⟩
      | succ i =>
        obtain ⟨q', c, h1, h2, h3⟩ := ih (qs := qs) (by simpa using h) (i := i) (by simpa using hi)
        refine ⟨q', c, by simpa [zipPl] using h1, by simpa using h2, ?_⟩
        rcases h3 with ⟨h3, h4⟩ | ⟨b', h3, h4⟩
        · exact .inl ⟨by simp [h3], h4⟩
        · exact .inr ⟨b', by simpa using h3, h4⟩
theorem left_step {qs us : List ByteArray} {ks ls : List Bool} {i : Nat} {q u : ByteArray} {b c : Bool} (hq : qs[i]? = some q) (hb : ks[i]? = some b) (hu : us[i]? = some u) (hc : ls[i]? = some c) :
    leftL (qs.drop i) (ks.drop i) (us.drop i) (ls.drop i) = putQ q :: keepQ u :: (if c = true then [oneQ b] else []) ++ leftL (qs.drop (i + 1)) (ks.drop (i + 1)) (us.drop (i + 1)) (ls.drop (i + 1)) ∧
    leftR (qs.drop i) (ks.drop i) (us.drop i) (ls.drop i) = keepQ q :: putQ u :: (if b = true then [oneQ c] else []) ++ leftR (qs.drop (i + 1)) (ks.drop (i + 1)) (us.drop (i + 1)) (ls.drop (i + 1)) := by
  obtain ⟨l1, rfl⟩ := List.getElem?_eq_some_iff.1 hq
  obtain ⟨l2, rfl⟩ := List.getElem?_eq_some_iff.1 hb
  obtain ⟨l3, rfl⟩ := List.getElem?_eq_some_iff.1 hu
  obtain ⟨l4, rfl⟩ := List.getElem?_eq_some_iff.1 hc
  rw [List.drop_eq_getElem_cons l1, List.drop_eq_getElem_cons l2, List.drop_eq_getElem_cons l3, List.drop_eq_getElem_cons l4]
  exact ⟨rfl, rfl⟩
theorem left_last {qs us : List ByteArray} {ks ls : List Bool} {i : Nat} {q u : ByteArray} (hq : qs[i]? = some q) (hb : ks.length = i) (hu : us[i]? = some u) :
    leftL (qs.drop i) (ks.drop i) (us.drop i) (ls.drop i) = [putQ q, keepQ u] ∧ leftR (qs.drop i) (ks.drop i) (us.drop i) (ls.drop i) = [keepQ q, putQ u] := by
  obtain ⟨l1, rfl⟩ := List.getElem?_eq_some_iff.1 hq
  obtain ⟨l3, rfl⟩ := List.getElem?_eq_some_iff.1 hu
  rw [List.drop_eq_getElem_cons l1, List.drop_eq_getElem_cons l3, List.drop_eq_nil_of_le (show ks.length ≤ i by omega)]
  exact ⟨rfl, rfl⟩

end Go.Proofs.Ytcghojnmnmmpoaa

/- Places as package meet keeps them, in memory; what meet.places makes. -/
namespace Go.Proofs.Ytcghojnmnmmpoaa
open Go.RowKit
set_option linter.unusedSimpArgs false
set_option linter.unusedVariables false

def plcCells (X : List (ByteArray × Bool)) : List Value := X.flatMap (fun x => [Value.string x.1, Value.bool x.2])
theorem plc_cons (x : ByteArray × Bool) (X : List (ByteArray × Bool)) : plcCells (x :: X) = .string x.1 :: .bool x.2 :: plcCells X := rfl
theorem plc_len (X : List (ByteArray × Bool)) : (plcCells X).length = X.length * 2 := by
  induction X with
  | nil => rfl
  | cons x X ih => rw [plc_cons]; simp only [List.length_cons, ih]; omega
theorem plc_at {X : List (ByteArray × Bool)} {i : Nat} {x : ByteArray × Bool} (h : X[i]? = some x) : (plcCells X)[i * 2]? = some (.string x.1) ∧ (plcCells X)[i * 2 + 1]? = some (.bool x.2) := by
  induction X generalizing i with
  | nil => simp at h
  | cons y X ih =>
    cases i with
    | zero =>
      simp only [List.getElem?_cons_zero, Option.some.injEq] at h
      subst h
      exact ⟨rfl, rfl⟩
    | succ i =>
      have := ih (i := i) (by simpa using h)
      rw [plc_cons, show (i + 1) * 2 = i * 2 + 1 + 1 by omega]
      simpa using this
theorem plc_set {X : List (ByteArray × Bool)} {i : Nat} {x : ByteArray × Bool} (h : X[i]? = some x) : (∀ t, (plcCells X).set (i * 2) (.string t) = plcCells (X.set i (t, x.2))) ∧ (∀ c, (plcCells X).set (i * 2 + 1) (.bool c) = plcCells (X.set i (x.1, c))) := by
  induction X generalizing i with
  | nil => simp at h
  | cons y X ih =>
    cases i with
    | zero =>
      simp only [List.getElem?_cons_zero, Option.some.injEq] at h
      subst h
      exact ⟨fun t => rfl, fun c => rfl⟩
    | succ i =>
      obtain ⟨h1, h2⟩ := ih (i := i) (by simpa using h)
      refine ⟨fun t => ?_, fun c => ?_⟩
      · rw [plc_cons, show (i + 1) * 2 = i * 2 + 1 + 1 by omega, List.set_cons_succ, List.set_cons_succ, h1, List.set_cons_succ, plc_cons]
      · rw [plc_cons, show (i + 1) * 2 + 1 = i * 2 + 1 + 1 + 1 by omega, List.set_cons_succ, List.set_cons_succ, h2, List.set_cons_succ, plc_cons]
theorem made_plc (n : Nat) : (madeCells #[Value.string ⟨#[]⟩, Value.bool false] (n * 2)).toList = plcCells (List.replicate n noPl) := by
  refine List.ext_getElem? fun i => ?_
  by_cases h : i < n * 2
  · have h1 : (madeCells #[Value.string ⟨#[]⟩, Value.bool false] (n * 2)).toList[i]? = some (#[Value.string ⟨#[]⟩, Value.bool false][i % 2]!) := by
      simp [madeCells, h]
    have h2 : (List.replicate n noPl)[i / 2]? = some noPl := by
      rw [List.getElem?_replicate, if_pos (by omega)]
    obtain ⟨e1, e2⟩ := plc_at h2
    rw [h1]
    rcases Nat.mod_two_eq_zero_or_one i with h3 | h3
    · rw [h3, show i = i / 2 * 2 by omega, e1]; rfl
    · rw [h3, show i = i / 2 * 2 + 1 by omega, e2]; rfl
  · rw [List.getElem?_eq_none (by simp [size_madeCells]; omega), List.getElem?_eq_none (by rw [plc_len]; simp; omega)]
theorem infoPlc : (Try.prog.info? 214).map (fun i => (i.zero, i.size, i.bytes)) = some (some (.agg #[.string ⟨#[]⟩, .bool false]), 2, 24) := by kernel_rfl
theorem own_plc {w : World} {B n : Nat} {v : Value} {X : List (ByteArray × Bool)} (h : w.ownsRow B 214 2 v n (plcCells X)) {i : Nat} {x : ByteArray × Bool} (hi : X[i]? = some x) : ∃ g cap, v = .slice (some ⟨g, 0, none⟩) n cap ∧ w.cell? ⟨g, i * 2, none⟩ = some (.string x.1) ∧ w.cell? ⟨g, i * 2 + 1, none⟩ = some (.bool x.2) ∧ g < w.heap.size ∧ B ≤ g ∧ (∀ o, w.frozen? ⟨g, o, none⟩ = false) := by
  have h1 := h.1
  rw [plc_len] at h1
  have hl := (List.getElem?_eq_some_iff.1 hi).1
  obtain ⟨c1, c2⟩ := plc_at hi
  rcases h.2 with ⟨_, h0⟩ | ⟨g, cap, cur, rfl, hB, hc, _⟩
  · omega
  · exact ⟨g, cap, rfl, by rw [h.cellAt _ (by omega)]; exact c1, by rw [h.cellAt _ (by omega)]; exact c2, lt_of_heap hc, hB, fun o => frozen_of_row _ _ _ _ _ hc⟩

set_option maxHeartbeats 4000000 in
theorem mplaces_any (a : Option Addr) (l : List Pt) (cap : Nat) (n : Nat) (w : World) (hp : PartsAt w w.heap.size a l) (hz : sizesE l = 0) (hn : (n : Int) = inI l) :
    Calls Try.prog 128 #[.slice a l.length cap, .int .i64 n] w fun e w' => ∃ v, e = .returned v ∧ w'.ownsRow w.heap.size 214 2 v (n + 1) (plcCells (zipPl (ofAll l).1 (ofAll l).2)) ∧ Below w.heap.size w w' := by
  obtain ⟨ip, hip, hp0, hp1, hp2⟩ := info_parts infoPlc
  have hsm := (sizes_zero hz).1
  have hl := hsm.1
  obtain ⟨g, c, i, o, b1, b2⟩ := delta_facts hz
  have hn5 : n ≤ 500 := by omega
  have HZ : Hid (sizesE l = 0 ∧ (n : Int) = inI l) := ⟨hz, hn⟩
  have HSM : Hid (Small l) := hsm
  have HRT : Hid (Right l) := sizes_right hz
  have HP : Hid (PartsAt w w.heap.size a l) := hp
  have hbb : ip.bytes * (n + 1) ≤ 281474976710656 := by rw [hp2]; omega
  clear hp hsm hz hn g c i o b1 b2
  go_enter Try.func128, Try.ntmps128
  go_wp2_with (at_make; refine wpList_make_full _ rfl _ _ 189 rfl w.heap.size 214 ip _ 2 Try.underlying189 hip hp0 hp1 .i64 .i64 _ _ (n + 1) rfl rfl ?m1 ?m2 hbb ?m3 (Nat.le_refl _) ?_)
  case m1 => go_num
  case m2 => go_num
  case m3 => unfold maxLen; omega
  intro w1 hown hgrow
  have HB1 : Hid (Below w.heap.size w w1) := (Below.refl _ _).grown hgrow (Nat.le_refl _) (fun k hk => by simp at hk)
  have HO1 : Hid (w1.ownsRow w.heap.size 214 2 (.slice (some ⟨w.heap.size, 0, none⟩) (n + 1) (n + 1)) (n + 1) (plcCells (fillL n (l.take 0)))) := by
    rw [List.take_zero, fill_none, ← made_plc]; exact hown
  clear hown hgrow
  go_wp2_with fail
  go_loopw [6, 15] (fun t i wr => ∃ (k : Nat), k ≤ l.length ∧ i = .int .i64 k ∧ t = .int .i64 (inI (l.take k)) ∧ wr.ownsRow w.heap.size 214 2 (.slice (some ⟨w.heap.size, 0, none⟩) (n + 1) (n + 1)) (n + 1) (plcCells (fillL n (l.take k))) ∧ Below w.heap.size w wr) (fun _ i _ => l.length - (intOf i).toNat)
  case atStart => exact ⟨0, Nat.zero_le _, rfl, rfl, HO1.out, HB1.out⟩
  case round =>
    rename World => wo
    obtain ⟨k, hk, rfl, rfl, hown, hb⟩ := hrel
    have hz := hb.size
    by_cases hlt : k < l.length
    · obtain ⟨p, hpk⟩ : ∃ p, l[k]? = some p := ⟨l[k], List.getElem?_eq_getElem hlt⟩
      have hpm := List.mem_of_getElem? hpk
      obtain ⟨hpb1, hpb2, hpb3⟩ := HSM.out.2 p hpm
      have hpr := (HRT.out p hpm).1
      obtain ⟨A, q, f1, f2, f3⟩ := fill_form HZ.out.1 HZ.out.2 hk
      obtain ⟨fp, fk, fx, fle⟩ := f3 p hpk
      have HSN : Hid (inI (l.take (k + 1)) = (A.length : Int) + p.n) := by show _ = _; rw [inI_snoc hpk, f2]
      rw [f1] at hown fk
      rw [← f2]
      have hgw : w.heap.size < wo.heap.size := by
        rcases hown.2 with ⟨_, h0⟩ | ⟨g, cap, cur, h1, hB, hc, _⟩
        · omega
        · simp only [Value.slice.injEq, Option.some.injEq, Addr.mk.injEq, and_true] at h1
          obtain ⟨⟨rfl, _⟩, _⟩ := h1
          exact lt_of_heap hc
      have hfz : ∀ o, wo.frozen? ⟨w.heap.size, o, none⟩ = false := by
        rcases hown.2 with ⟨_, h0⟩ | ⟨g, cap, cur, h1, hB, hc, _⟩
        · omega
        · simp only [Value.slice.injEq, Option.some.injEq, Addr.mk.injEq, and_true] at h1
          obtain ⟨⟨rfl, _⟩, _⟩ := h1
          exact fun o => frozen_of_row _ _ _ _ _ hc
      obtain ⟨b, off, rfl, hblt, c1, c2, c3⟩ := (HP.out.below hb (Nat.le_refl _)).mem hpk
      have hbw : b < wo.heap.size := by omega
      have HB : Hid (Below w.heap.size w wo) := hb
      have HO : Hid (wo.ownsRow w.heap.size 214 2 (.slice (some ⟨w.heap.size, 0, none⟩) (n + 1) (n + 1)) (n + 1) (plcCells (A ++ (q, false) :: List.replicate (n - A.length) noPl))) := hown
      have HAt : Hid ((A ++ (q, false) :: List.replicate (n - A.length) noPl)[A.length]? = some (q, false)) := by show _ = _; simp
      have ca : wo.cell? ⟨w.heap.size, A.length * 2, none⟩ = some (.string q) := by
        obtain ⟨g, cap, e, x1, x2, _⟩ := own_plc hown HAt.out
        simp only [Value.slice.injEq, Option.some.injEq, Addr.mk.injEq, and_true] at e
        obtain ⟨⟨rfl, _⟩, _⟩ := e
        exact x1
      have hne : ¬ b = w.heap.size := by omega
      have hAn : A.length ≤ n := by omega
      have HF2 : Hid ((A.length : Int) = inI (l.take k)) := f2
      clear hpm hpk hb hown f1 f2 f3
      by_cases q2 : p.k = 2
      · have e2 : (p.k == 2) = true := by simp [q2]
        have HF : Hid (fillL n (l.take (k + 1)) = A ++ (p.t, false) :: List.replicate (n - A.length) noPl) := fp q2
        clear fp fk fx q2 hpr
        go_wp2_with fail
        go_roundw
        case rel =>
          refine ⟨k + 1, by omega, by go_num, by rw [HSN.out], ?_, ?_⟩
          · rw [HF.out]
            have h1 := (HO.out.stored (A.length * 2) (.string p.t)).1
            rw [(plc_set HAt.out).1 p.t] at h1
            have h2 := own_alloc h1 (.cells #[.int .i64 p.k, .int .i64 p.n, .string p.t] 45)
            simpa using h2
          · exact (HB.out.setCell (p := ⟨w.heap.size, A.length * 2, none⟩) (Nat.le_refl _) _).alloc (by simpa using hz) _
        case measure => simp [intOf]; omega
      · have e2 : (p.k == 2) = false := by simp [q2]
        by_cases q3 : p.k = 3
        · have e3 : (p.k == 3) = true := by simp [q3]
          have HF : Hid (fillL n (l.take (k + 1)) = A ++ cutN p.n.toNat ((q, false) :: List.replicate (n - A.length) noPl)) := fx q3
          clear fp fk fx q2 q3 hpr
          go_wp2_with fail
          go_loopw [33] (fun i w2 => ∃ (j : Nat), (j : Int) ≤ p.n ∧ i = .int .i64 j ∧ w2.ownsRow w.heap.size 214 2 (.slice (some ⟨w.heap.size, 0, none⟩) (n + 1) (n + 1)) (n + 1) (plcCells (A ++ cutN j ((q, false) :: List.replicate (n - A.length) noPl))) ∧ Below w.heap.size w w2 ∧
            w2.heap[wo.heap.size]? = some (.cells #[.int .i64 p.k, .int .i64 p.n, .string p.t] 45 (0, 0))) (fun i _ => (p.n - intOf i).toNat)
          case atStart => exact ⟨0, by omega, rfl, own_alloc HO.out _, HB.out.alloc hz _, Deep.blk_alloc_new _ _⟩
          case round =>
            obtain ⟨j, hj, rfl, hown, hb, hbox⟩ := hrel
            have hz2 := hb.size
            by_cases hjl : (j : Int) < p.n
            · obtain ⟨x, hx⟩ : ∃ x, ((q, false) :: List.replicate (n - A.length) noPl)[j]? = some x := ⟨_, List.getElem?_eq_getElem (by simp; omega)⟩
              obtain ⟨x1, x2⟩ := cutN_at hx
              have hX : (A ++ cutN j ((q, false) :: List.replicate (n - A.length) noPl))[A.length + j]? = some x := by rw [List.getElem?_append_right (by omega)]; simpa using x1
              obtain ⟨g, cap', eg, y1, y2, y3, y4, y5⟩ := own_plc hown hX
              simp only [Value.slice.injEq, Option.some.injEq, Addr.mk.injEq, and_true, true_and] at eg
              obtain ⟨⟨rfl, _⟩, _⟩ := eg
              have HS : Hid ((A ++ cutN j ((q, false) :: List.replicate (n - A.length) noPl)).set (A.length + j) (x.1, true) = A ++ cutN (j + 1) ((q, false) :: List.replicate (n - A.length) noPl)) := by
                show _ = _
                rw [List.set_append_right _ _ (by omega), show A.length + j - A.length = j by omega, x2]
              have HX : Hid ((A ++ cutN j ((q, false) :: List.replicate (n - A.length) noPl))[A.length + j]? = some x) := hX
              have HO2 : Hid (wr.ownsRow w.heap.size 214 2 (.slice (some ⟨w.heap.size, 0, none⟩) (n + 1) (n + 1)) (n + 1) (plcCells (A ++ cutN j ((q, false) :: List.replicate (n - A.length) noPl)))) := hown
              have HB2 : Hid (Below w.heap.size w wr) := hb
              have HBX : Hid (wr.heap[wo.heap.size]? = some (.cells #[.int .i64 p.k, .int .i64 p.n, .string p.t] 45 (0, 0))) := hbox
              clear hown hb hbox hX hx x1 x2
              go_wp2_with fail
              go_roundw
              case rel =>
                refine ⟨j + 1, by omega, by go_num, ?_, ?_, ?_⟩
                · have h1 := (HO2.out.stored ((A.length + j) * 2 + 1) (.bool true)).1
                  rw [(plc_set HX.out).2 true, HS.out] at h1
                  exact h1
                · exact HB2.out.setCell (p := ⟨w.heap.size, (A.length + j) * 2 + 1, none⟩) (Nat.le_refl _) _
                · rw [Deep.blk_setCell_other _ _ _ _ (by show _ ≠ w.heap.size; omega)]; exact HBX.out
              case measure => simp [intOf]; omega
            · have HO2 : Hid (wr.ownsRow w.heap.size 214 2 (.slice (some ⟨w.heap.size, 0, none⟩) (n + 1) (n + 1)) (n + 1) (plcCells (A ++ cutN j ((q, false) :: List.replicate (n - A.length) noPl)))) := hown
              have HB2 : Hid (Below w.heap.size w wr) := hb
              have hjn : j = p.n.toNat := by omega
              have z1 : wr.cell? ⟨wo.heap.size, 1, none⟩ = some (.int .i64 p.n) := by rw [cell_of_row _ _ _ _ _ _ hbox]; rfl
              have hP2 : wo.heap.size < wr.heap.size := lt_of_heap hbox
              have HJ : Hid (j = p.n.toNat) := hjn
              clear hown hb hbox hjn
              go_wp2_with fail
              go_roundw
              case rel =>
                refine ⟨k + 1, by omega, by go_num, by rw [HSN.out], ?_, HB2.out⟩
                rw [HF.out, ← HJ.out]; exact HO2.out
              case measure => simp [intOf]; omega
        · have e3 : (p.k == 3) = false := by simp [q3]
          have HF : Hid (fillL n (l.take (k + 1)) = A ++ (q, false) :: List.replicate (n - A.length) noPl) := fk (by omega)
          clear fp fk fx q2 q3 hpr
          go_wp2_with fail
          go_roundw
          case rel =>
            refine ⟨k + 1, by omega, by go_num, by rw [HSN.out], ?_, HB.out.alloc hz _⟩
            rw [HF.out]; exact own_alloc HO.out _
          case measure => simp [intOf]; omega
    · have hkl : l.take k = l := List.take_of_length_le (by omega)
      rw [hkl, fill_all HZ.out.1 HZ.out.2] at hown
      have HO : Hid (wo.ownsRow w.heap.size 214 2 (.slice (some ⟨w.heap.size, 0, none⟩) (n + 1) (n + 1)) (n + 1) (plcCells (zipPl (ofAll l).1 (ofAll l).2))) := hown
      have HB : Hid (Below w.heap.size w wo) := hb
      clear hown hb
      go_wp2_with fail
      go_ret
      exact ⟨_, rfl, HO.out, HB.out⟩

end Go.Proofs.Ytcghojnmnmmpoaa

/- What meet.put, meet.pass, meet.byteOf and meet.left answer. -/
namespace Go.Proofs.Ytcghojnmnmmpoaa
open Go.RowKit
set_option linter.unusedSimpArgs false
set_option linter.unusedVariables false

abbrev zPlc (t : ByteArray) (c : Bool) : Obj := .cells #[.string t, .bool c] 214
abbrev zPt (k n : Int) (t : ByteArray) : Obj := .cells #[.int .i64 k, .int .i64 n, .string t] 45
set_option maxHeartbeats 400000 in
theorem mput_any (t : ByteArray) (c : Bool) (w : World) :
    Calls Try.prog 146 #[.agg #[.string t, .bool c]] w fun e w' => e = .returned (.agg #[.int .i64 2, .int .i64 0, .string t]) ∧ w' = (w.alloc (zPlc t c)).alloc (zPt 2 0 t) := by
  go_enter Try.func146, Try.ntmps146
  go_wp2
  exact bodyPost_ret (v := .agg #[.int .i64 2, .int .i64 0, .string t]) (by simp [results, Try.results146, go_sem]) rfl ⟨rfl, rfl⟩
set_option maxHeartbeats 400000 in
theorem mpass_any (t : ByteArray) (c : Bool) (w : World) (ht : t.size ≤ 500) :
    Calls Try.prog 147 #[.agg #[.string t, .bool c]] w fun e w' => e = .returned (.agg #[.int .i64 1, .int .i64 t.size, .string ⟨#[]⟩]) ∧ w' = (w.alloc (zPlc t c)).alloc (zPt 1 t.size ⟨#[]⟩) := by
  go_enter Try.func147, Try.ntmps147
  go_wp2
  exact bodyPost_ret (v := .agg #[.int .i64 1, .int .i64 t.size, .string ⟨#[]⟩]) (by simp [results, Try.results147, go_sem]) rfl ⟨rfl, rfl⟩
set_option maxHeartbeats 400000 in
theorem mbyte_any (t : ByteArray) (c : Bool) (w : World) :
    Calls Try.prog 148 #[.agg #[.string t, .bool c]] w fun e w' => e = .returned (.agg #[.int .i64 (if c = true then 3 else 1), .int .i64 1, .string ⟨#[]⟩]) ∧ w' = (w.alloc (zPlc t c)).alloc (zPt (if c = true then 3 else 1) 1 ⟨#[]⟩) := by
  cases c
  · go_enter Try.func148, Try.ntmps148
    go_wp2
    exact bodyPost_ret (v := .agg #[.int .i64 1, .int .i64 1, .string ⟨#[]⟩]) (by simp [results, Try.results148, go_sem]) rfl ⟨rfl, rfl⟩
  · go_enter Try.func148, Try.ntmps148
    go_wp2
    exact bodyPost_ret (v := .agg #[.int .i64 3, .int .i64 1, .string ⟨#[]⟩]) (by simp [results, Try.results148, go_sem]) rfl ⟨rfl, rfl⟩

/-- two rows of parts that are made side by side -/
structure LR (w : World) (B : Nat) (L R : List Pt) (lv rv : Value) : Prop where
  l : w.ownsRow B 45 3 lv L.length (allCells L)
  r : w.ownsRow B 45 3 rv R.length (allCells R)
  ne : ∀ g, lv.ownBlock = some g → rv.ownBlock ≠ some g
theorem LR.start (w : World) (B : Nat) : LR w B [] [] (.slice none 0 0) (.slice none 0 0) := ⟨World.ownsRow_nil _ _ _ _, World.ownsRow_nil _ _ _ _, fun g h => by simp [Value.ownBlock] at h⟩
theorem LR.alloc {w : World} {B : Nat} {L R : List Pt} {lv rv : Value} (h : LR w B L R lv rv) (o : Obj) : LR (w.alloc o) B L R lv rv := ⟨own_alloc h.l o, own_alloc h.r o, h.ne⟩
theorem LR.drew {w : World} {B : Nat} {L R : List Pt} {lv rv : Value} (h : LR w B L R lv rv) : LR w.drew B L R lv rv := ⟨h.l, h.r, h.ne⟩
theorem LR.swap {w : World} {B : Nat} {L R : List Pt} {lv rv : Value} (h : LR w B L R lv rv) : LR w B R L rv lv := ⟨h.r, h.l, fun g h1 h2 => h.ne g h2 h1⟩
theorem LR.addL {w w' : World} {B g m cap : Nat} {L R ps : List Pt} {lv rv : Value} {news : List Value} (h : LR w B L R lv rv) (hn : news = allCells ps) (hm : ps.length = m) (ho : w'.ownsRow B 45 3 (.slice (some ⟨g, 0, none⟩) (L.length + m) cap) (L.length + m) (allCells L ++ news))
    (hg : w.grownBy w' lv.ownBlock) {H : Nat} (hat : lv.ownBlock = some g ∨ g = H) (hH : w.heap.size = H) : LR w' B (L ++ ps) R (.slice (some ⟨g, 0, none⟩) (L.length + m) cap) rv := by
  subst hn hm hH
  refine ⟨?_, ?_, ?_⟩
  · rw [allCells_append, List.length_append]; exact ho
  · refine h.r.kept hg ?_
    cases hl : lv.ownBlock with
    | none =>
      cases hr : rv.ownBlock with
      | none => left; rfl
      | some x => right; simp
    | some x => right; exact h.ne x hl
  · intro x hx
    simp only [Value.ownBlock, Option.some.injEq] at hx
    subst hx
    rcases hat with h1 | h1
    · exact h.ne _ h1
    · intro h2
      have := (h.r.lt _ h2).2
      omega
theorem LR.addR {w w' : World} {B g m cap : Nat} {L R ps : List Pt} {lv rv : Value} {news : List Value} (h : LR w B L R lv rv) (hn : news = allCells ps) (hm : ps.length = m) (ho : w'.ownsRow B 45 3 (.slice (some ⟨g, 0, none⟩) (R.length + m) cap) (R.length + m) (allCells R ++ news))
    (hg : w.grownBy w' rv.ownBlock) {H : Nat} (hat : rv.ownBlock = some g ∨ g = H) (hH : w.heap.size = H) : LR w' B L (R ++ ps) lv (.slice (some ⟨g, 0, none⟩) (R.length + m) cap) := (h.swap.addL hn hm ho hg hat hH).swap
theorem alloc_fifth (w : World) (o1 o2 o3 o4 o5 : Obj) : (((((w.alloc o1).alloc o2).alloc o3).alloc o4).alloc o5).drew.heap[w.heap.size + 1 + 1 + 1 + 1]? = some o5 := by
  have h := heap_alloc_new ((((w.alloc o1).alloc o2).alloc o3).alloc o4) o5
  simp only [Deep.nblk_alloc] at h
  exact h
theorem alloc_third (w : World) (o1 o2 o3 : Obj) : (((w.alloc o1).alloc o2).alloc o3).heap[w.heap.size + 1 + 1]? = some o3 := by
  have h := heap_alloc_new ((w.alloc o1).alloc o2) o3
  simp only [Deep.nblk_alloc] at h
  exact h
theorem below_five {B : Nat} {w wr : World} (h : Below B w wr) (hz : B ≤ wr.heap.size) (o1 o2 o3 o4 o5 : Obj) : Below B w (((((wr.alloc o1).alloc o2).alloc o3).alloc o4).alloc o5).drew :=
  (((((h.alloc hz _).alloc (by simp only [Deep.nblk_alloc]; omega) _).alloc (by simp only [Deep.nblk_alloc]; omega) _).alloc (by simp only [Deep.nblk_alloc]; omega) _).alloc (by simp only [Deep.nblk_alloc]; omega) _).drew
theorem mbelow_three {B : Nat} {w wr : World} (h : Below B w wr) (hz : B ≤ wr.heap.size) (o1 o2 o3 : Obj) : Below B w (((wr.alloc o1).alloc o2).alloc o3) :=
  ((h.alloc hz _).alloc (by simp only [Deep.nblk_alloc]; omega) _).alloc (by simp only [Deep.nblk_alloc]; omega) _
theorem size_five (w : World) (o1 o2 o3 o4 o5 : Obj) : (((((w.alloc o1).alloc o2).alloc o3).alloc o4).alloc o5).drew.heap.size = w.heap.size + 5 := by
  show (((((w.alloc o1).alloc o2).alloc o3).alloc o4).alloc o5).heap.size = _
  simp only [Deep.nblk_alloc]
theorem size_three (w : World) (o1 o2 o3 : Obj) : (((w.alloc o1).alloc o2).alloc o3).heap.size = w.heap.size + 3 := by simp only [Deep.nblk_alloc]

end Go.Proofs.Ytcghojnmnmmpoaa

/- What meet.left answers. -/
namespace Go.Proofs.Ytcghojnmnmmpoaa
open Go.RowKit
set_option linter.unusedSimpArgs false
set_option linter.unusedVariables false

set_option maxRecDepth 20000 in
set_option maxHeartbeats 8000000 in
theorem left_any (Ba Bb : Nat) (va vb : Value) (qs us : List ByteArray) (ks ls : List Bool) (n : Nat) (w : World) (hA : w.ownsRow Ba 214 2 va (n + 1) (plcCells (zipPl qs ks))) (hB : w.ownsRow Bb 214 2 vb (n + 1) (plcCells (zipPl us ls)))
    (h1 : qs.length = ks.length + 1) (h2 : us.length = ls.length + 1) (h3 : ks.length = n) (h4 : ls.length = n) (h5 : n ≤ 500) (hq5 : ∀ q ∈ qs, q.size ≤ 500) (hu5 : ∀ q ∈ us, q.size ≤ 500) :
    Calls Try.prog 127 #[va, vb] w fun e w' => ∃ lv rv, e = .returned (.tuple #[lv, rv]) ∧ LR w' w.heap.size (leftL qs ks us ls) (leftR qs ks us ls) lv rv ∧ Below w.heap.size w w' := by
  obtain ⟨ip, hip, hp0, hp1, hp2⟩ := info_parts infoPart
  obtain ⟨q0, c0, z0, _⟩ := zip_at h1 (i := 0) (Nat.zero_le _)
  obtain ⟨u0, d0, y0, _⟩ := zip_at h2 (i := 0) (Nat.zero_le _)
  obtain ⟨ga, ca, rfl, _, _, hga, _⟩ := own_plc hA z0
  obtain ⟨gb, cb, rfl, _, _, hgb, _⟩ := own_plc hB y0
  have HA : Hid (w.ownsRow Ba 214 2 (.slice (some ⟨ga, 0, none⟩) (n + 1) ca) (n + 1) (plcCells (zipPl qs ks))) := hA
  have HB : Hid (w.ownsRow Bb 214 2 (.slice (some ⟨gb, 0, none⟩) (n + 1) cb) (n + 1) (plcCells (zipPl us ls))) := hB
  have HL : Hid (qs.length = ks.length + 1 ∧ us.length = ls.length + 1 ∧ ks.length = n ∧ ls.length = n ∧ (∀ q ∈ qs, q.size ≤ 500) ∧ (∀ q ∈ us, q.size ≤ 500)) := ⟨h1, h2, h3, h4, hq5, hu5⟩
  clear hA hB h1 h2 h3 h4 hq5 hu5 z0 y0
  go_enter Try.func127, Try.ntmps127
  go_wp2_with fail
  go_loopg [4, 5, 13] n (fun gk lv rv i wr => ∃ (k : Nat) (L R : List Pt), k + gk = n ∧ i = .int .i64 k ∧ LR wr w.heap.size L R lv rv ∧ L.length ≤ 3 * k ∧ R.length ≤ 3 * k ∧ L ++ leftL (qs.drop k) (ks.drop k) (us.drop k) (ls.drop k) = leftL qs ks us ls ∧ R ++ leftR (qs.drop k) (ks.drop k) (us.drop k) (ls.drop k) = leftR qs ks us ls ∧ Below w.heap.size w wr)
  case atStart => exact ⟨0, [], [], by omega, rfl, LR.start _ _, by simp, by simp, by simp, by simp, Below.refl _ _⟩
  case round =>
    obtain ⟨k, L, R, hk, rfl, hlr, hlL, hlR, htL, htR, hb⟩ := hrel
    have hz := hb.size
    obtain ⟨l1, l2, l3, l4, l5, l6⟩ := HL.out
    obtain ⟨q, cq, z1, z2, z3⟩ := zip_at l1 (i := k) (by omega)
    obtain ⟨u, cu, y1, y2, y3⟩ := zip_at l2 (i := k) (by omega)
    obtain ⟨g', c', e', ea1, ea2, _⟩ := own_plc HA.out z1
    simp only [Value.slice.injEq, Option.some.injEq, Addr.mk.injEq, and_true, true_and] at e'
    obtain ⟨rfl, rfl⟩ := e'
    obtain ⟨g', c', e', eb1, eb2, _⟩ := own_plc HB.out y1
    simp only [Value.slice.injEq, Option.some.injEq, Addr.mk.injEq, and_true, true_and] at e'
    obtain ⟨rfl, rfl⟩ := e'
    have HEA : Hid (w.cell? ⟨ga, k * 2, none⟩ = some (.string q) ∧ w.cell? ⟨ga, k * 2 + 1, none⟩ = some (.bool cq) ∧ w.cell? ⟨gb, k * 2, none⟩ = some (.string u) ∧ w.cell? ⟨gb, k * 2 + 1, none⟩ = some (.bool cu)) := ⟨ea1, ea2, eb1, eb2⟩
    have a1 : wr.cell? ⟨ga, k * 2, none⟩ = some (.string q) := (hb.cell (p := ⟨ga, k * 2, none⟩) hga).trans ea1
    have a2 : wr.cell? ⟨ga, k * 2 + 1, none⟩ = some (.bool cq) := (hb.cell (p := ⟨ga, k * 2 + 1, none⟩) hga).trans ea2
    have b1 : wr.cell? ⟨gb, k * 2, none⟩ = some (.string u) := (hb.cell (p := ⟨gb, k * 2, none⟩) hgb).trans eb1
    have b2 : wr.cell? ⟨gb, k * 2 + 1, none⟩ = some (.bool cu) := (hb.cell (p := ⟨gb, k * 2 + 1, none⟩) hgb).trans eb2
    have hgaw : ga < wr.heap.size := by omega
    have hgbw : gb < wr.heap.size := by omega
    have hkn : k < n + 1 := by omega
    have q5 := l5 q (List.mem_of_getElem? z2)
    have u5 := l6 u (List.mem_of_getElem? y2)
    obtain ⟨lo, lc, rfl⟩ := slice_form' hlr.l
    obtain ⟨ro, rc, rfl⟩ := slice_form' hlr.r
    have HLR : Hid (LR wr w.heap.size L R (.slice lo L.length lc) (.slice ro R.length rc)) := hlr
    have HBW : Hid (Below w.heap.size w wr) := hb
    have HT : Hid (L ++ leftL (qs.drop k) (ks.drop k) (us.drop k) (ls.drop k) = leftL qs ks us ls ∧ R ++ leftR (qs.drop k) (ks.drop k) (us.drop k) (ls.drop k) = leftR qs ks us ls) := ⟨htL, htR⟩
    have HZ : Hid (qs[k]? = some q ∧ ((k = ks.length ∧ cq = false) ∨ ∃ b, ks[k]? = some b ∧ cq = !b)) := ⟨z2, z3⟩
    have HY : Hid (us[k]? = some u ∧ ((k = ls.length ∧ cu = false) ∨ ∃ b, ls[k]? = some b ∧ cu = !b)) := ⟨y2, y3⟩
    clear hlr hb htL htR z1 z2 z3 y1 y2 y3 ea1 ea2 eb1 eb2 l1 l2 l3 l4 l5 l6
    go_upto_region 5 with fail
    go_cut [4, 13] (fun lv i wc => ∃ lo' lc', lv = .slice (some lo') (L.length + 2) lc' ∧ i = .int .i64 k ∧ LR wc w.heap.size (L ++ [putQ q, keepQ u]) R lv (.slice ro R.length rc) ∧ Below w.heap.size w wc)
    case first =>
      have hAll := (((((HLR.out.alloc (zPlc q cq)).alloc (zPt 2 0 q)).alloc (zPlc u cu)).alloc (zPt 1 u.size ⟨#[]⟩)).alloc (.cells #[.int .i64 2, .int .i64 0, .string q, .int .i64 1, .int .i64 u.size, .string ⟨#[]⟩] 45)).drew
      have hNew := alloc_fifth wr (zPlc q cq) (zPt 2 0 q) (zPlc u cu) (zPt 1 u.size ⟨#[]⟩) (.cells #[.int .i64 2, .int .i64 0, .string q, .int .i64 1, .int .i64 u.size, .string ⟨#[]⟩] 45)
      go_region_law (first
        | (refine step_append_lies _ (by rfl) _ _ _ (by rfl) w.heap.size 45 ip _ 3 32 Try.underlying25 hip hp0 hp1 hp2 rfl (by omega) (.slice lo L.length lc) L.length (allCells L) (by rfl) hAll.l
            ⟨wr.heap.size + 1 + 1 + 1 + 1, 0, none⟩ 2 2 [.int .i64 2, .int .i64 0, .string q, .int .i64 1, .int .i64 u.size, .string ⟨#[]⟩] (by rfl) (by rfl) (World.news_of_block (cs := #[.int .i64 2, .int .i64 0, .string q, .int .i64 1, .int .i64 u.size, .string ⟨#[]⟩]) (t := 45) (fr := (0, 0)) hNew) (by simp [Value.oneCell'])
            (by omega) (by unfold maxLen; omega) (by omega) (by simp; omega) (wr.heap.size + 5) (by simp) ?_; intro gg cap1 w1 hown1 hgrow hat hlt)
        | (go_simp; go_wp2_with (first
            | (go_at_call 146; refine (mput_any q cq _).mono ?_; rintro e w1 ⟨rfl, rfl⟩)
            | (go_at_call 147; refine (mpass_any u cu _ u5).mono ?_; rintro e w1 ⟨rfl, rfl⟩))))
      all_goals
        go_wp2_with fail
        refine Met.intro ?_
        try go_simp
        go_step
        (repeat apply Exists.intro)
        refine ⟨?rel, rfl⟩
        case rel => exact ⟨_, cap1, rfl, rfl, hAll.addL (ps := [putQ q, keepQ u]) rfl rfl hown1 hgrow hat (size_five _ _ _ _ _ _), below_own' (below_five HBW.out hz _ _ _ _ _) hAll.l hgrow (by rw [size_five]; omega)⟩
    case rest =>
      obtain ⟨lo1, lc1, rfl, rfl, hlr, hb⟩ := hcut
      have hz1 := hb.size
      obtain ⟨ea1, ea2, eb1, eb2⟩ := HEA.out
      have a1 : wc.cell? ⟨ga, k * 2, none⟩ = some (.string q) := (hb.cell (p := ⟨ga, k * 2, none⟩) hga).trans ea1
      have a2 : wc.cell? ⟨ga, k * 2 + 1, none⟩ = some (.bool cq) := (hb.cell (p := ⟨ga, k * 2 + 1, none⟩) hga).trans ea2
      have b1 : wc.cell? ⟨gb, k * 2, none⟩ = some (.string u) := (hb.cell (p := ⟨gb, k * 2, none⟩) hgb).trans eb1
      have b2 : wc.cell? ⟨gb, k * 2 + 1, none⟩ = some (.bool cu) := (hb.cell (p := ⟨gb, k * 2 + 1, none⟩) hgb).trans eb2
      have hgaw : ga < wc.heap.size := by omega
      have hgbw : gb < wc.heap.size := by omega
      have HLR1 : Hid (LR wc w.heap.size (L ++ [putQ q, keepQ u]) R (.slice (some lo1) (L.length + 2) lc1) (.slice ro R.length rc)) := hlr
      have HB1 : Hid (Below w.heap.size w wc) := hb
      obtain ⟨wo, hwo⟩ : ∃ wo, wo = wc := ⟨_, rfl⟩
      subst hwo
      clear hlr hb ea1 ea2 eb1 eb2
      go_upto_region 6 with fail
      go_cut [5, 13] (fun rv i wc => ∃ ro' rc', rv = .slice (some ro') (R.length + 2) rc' ∧ i = .int .i64 k ∧ LR wc w.heap.size (L ++ [putQ q, keepQ u]) (R ++ [keepQ q, putQ u]) (.slice (some lo1) (L.length + 2) lc1) rv ∧ Below w.heap.size w wc)
      case first =>
        have hAll := (((((HLR1.out.alloc (zPlc q cq)).alloc (zPt 1 q.size ⟨#[]⟩)).alloc (zPlc u cu)).alloc (zPt 2 0 u)).alloc (.cells #[.int .i64 1, .int .i64 q.size, .string ⟨#[]⟩, .int .i64 2, .int .i64 0, .string u] 45)).drew
        have hNew := alloc_fifth wo (zPlc q cq) (zPt 1 q.size ⟨#[]⟩) (zPlc u cu) (zPt 2 0 u) (.cells #[.int .i64 1, .int .i64 q.size, .string ⟨#[]⟩, .int .i64 2, .int .i64 0, .string u] 45)
        go_region_law (first
          | (refine step_append_lies _ (by rfl) _ _ _ (by rfl) w.heap.size 45 ip _ 3 32 Try.underlying25 hip hp0 hp1 hp2 rfl (by omega) (.slice ro R.length rc) R.length (allCells R) (by rfl) hAll.r
              ⟨wo.heap.size + 1 + 1 + 1 + 1, 0, none⟩ 2 2 [.int .i64 1, .int .i64 q.size, .string ⟨#[]⟩, .int .i64 2, .int .i64 0, .string u] (by rfl) (by rfl) (World.news_of_block (cs := #[.int .i64 1, .int .i64 q.size, .string ⟨#[]⟩, .int .i64 2, .int .i64 0, .string u]) (t := 45) (fr := (0, 0)) hNew) (by simp [Value.oneCell'])
              (by omega) (by unfold maxLen; omega) (by omega) (by simp; omega) (wo.heap.size + 5) (by simp) ?_; intro gg cap1 w1 hown1 hgrow hat hlt)
          | (go_simp; go_wp2_with (first
              | (go_at_call 147; refine (mpass_any q cq _ q5).mono ?_; rintro e w1 ⟨rfl, rfl⟩)
              | (go_at_call 146; refine (mput_any u cu _).mono ?_; rintro e w1 ⟨rfl, rfl⟩))))
        all_goals
          go_wp2_with fail
          refine Met.intro ?_
          try go_simp
          go_step
          (repeat apply Exists.intro)
          refine ⟨?rel, rfl⟩
          case rel => exact ⟨_, cap1, rfl, rfl, hAll.addR (ps := [keepQ q, putQ u]) rfl rfl hown1 hgrow hat (size_five _ _ _ _ _ _), below_own' (below_five HB1.out hz1 _ _ _ _ _) hAll.r hgrow (by rw [size_five]; omega)⟩
      case rest =>
        obtain ⟨ro1, rc1, rfl, rfl, hlr, hb⟩ := hcut
        have hz2 := hb.size
        obtain ⟨ea1, ea2, eb1, eb2⟩ := HEA.out
        have a1 : wc.cell? ⟨ga, k * 2, none⟩ = some (.string q) := (hb.cell (p := ⟨ga, k * 2, none⟩) hga).trans ea1
        have a2 : wc.cell? ⟨ga, k * 2 + 1, none⟩ = some (.bool cq) := (hb.cell (p := ⟨ga, k * 2 + 1, none⟩) hga).trans ea2
        have b1 : wc.cell? ⟨gb, k * 2, none⟩ = some (.string u) := (hb.cell (p := ⟨gb, k * 2, none⟩) hgb).trans eb1
        have b2 : wc.cell? ⟨gb, k * 2 + 1, none⟩ = some (.bool cu) := (hb.cell (p := ⟨gb, k * 2 + 1, none⟩) hgb).trans eb2
        have hgaw : ga < wc.heap.size := by omega
        have hgbw : gb < wc.heap.size := by omega
        have HLR2 : Hid (LR wc w.heap.size (L ++ [putQ q, keepQ u]) (R ++ [keepQ q, putQ u]) (.slice (some lo1) (L.length + 2) lc1) (.slice (some ro1) (R.length + 2) rc1)) := hlr
        have HB2 : Hid (Below w.heap.size w wc) := hb
        clear hlr hb ea1 ea2 eb1 eb2
        by_cases hkn2 : k = n
        · have hkk : ((k : Int) == (n : Int)) = true := by simp [hkn2]
          have HE : Hid (L ++ [putQ q, keepQ u] = leftL qs ks us ls ∧ R ++ [keepQ q, putQ u] = leftR qs ks us ls) := by
            obtain ⟨t1, t2⟩ := HT.out
            obtain ⟨l1, l2, l3, l4, l5, l6⟩ := HL.out
            obtain ⟨s1, s2⟩ := left_last (ls := ls) HZ.out.1 (by omega : ks.length = k) HY.out.1
            rw [s1] at t1
            rw [s2] at t2
            exact ⟨t1, t2⟩
          clear hkn2
          go_wp2_with fail
          go_ret2
          refine ⟨_, _, rfl, ?_, HB2.out⟩
          rw [← HE.out.1, ← HE.out.2]
          exact HLR2.out
        · have hkk : ((k : Int) == (n : Int)) = false := by simp; omega
          obtain ⟨b, hb1, hb2⟩ : ∃ b, ks[k]? = some b ∧ cq = !b := by
            rcases HZ.out.2 with ⟨h, _⟩ | h
            · have := HL.out.2.2.1; omega
            · exact h
          obtain ⟨c, hc1, hc2⟩ : ∃ b, ls[k]? = some b ∧ cu = !b := by
            rcases HY.out.2 with ⟨h, _⟩ | h
            · have := HL.out.2.2.2.1; omega
            · exact h
          have HS : Hid (leftL qs ks us ls = (L ++ [putQ q, keepQ u]) ++ ((if c = true then [oneQ b] else []) ++ leftL (qs.drop (k + 1)) (ks.drop (k + 1)) (us.drop (k + 1)) (ls.drop (k + 1))) ∧ leftR qs ks us ls = (R ++ [keepQ q, putQ u]) ++ ((if b = true then [oneQ c] else []) ++ leftR (qs.drop (k + 1)) (ks.drop (k + 1)) (us.drop (k + 1)) (ls.drop (k + 1)))) := by
            obtain ⟨s1, s2⟩ := left_step HZ.out.1 hb1 HY.out.1 hc1
            obtain ⟨t1, t2⟩ := HT.out
            rw [← t1, ← t2, s1, s2]
            exact ⟨by simp, by simp⟩
          clear hb1 hc1
          subst hb2 hc2
          cases b with
          | true =>
           cases c with
           | true =>
            simp only [Bool.not_true, Bool.not_false] at a2 b2 HEA
            go_wp2_with fail
            refine (mbyte_any q false _).mono ?_
            rintro e we1 ⟨rfl, rfl⟩
            have hAll1 := ((HLR2.out.alloc (zPlc q false)).alloc (zPt 1 1 ⟨#[]⟩)).alloc (.cells #[.int .i64 1, .int .i64 1, .string ⟨#[]⟩] 45)
            have hNew1 := alloc_third wc (zPlc q false) (zPt 1 1 ⟨#[]⟩) (.cells #[.int .i64 1, .int .i64 1, .string ⟨#[]⟩] 45)
            have hOwn1 := hAll1.l
            simp only [List.length_append, List.length_cons, List.length_nil, Nat.zero_add, Nat.reduceAdd] at hOwn1
            go_wp2_with (at_builtin; refine wpList_append_lies _ rfl _ _ 25 rfl w.heap.size 45 ip _ 3 32 Try.underlying25 hip hp0 hp1 hp2 rfl (by decide) _ _ _ rfl hOwn1 ⟨wc.heap.size + 1 + 1, 0, none⟩ 1 1 [.int .i64 1, .int .i64 1, .string ⟨#[]⟩] rfl rfl (World.news_of_block (cs := #[.int .i64 1, .int .i64 1, .string ⟨#[]⟩]) (t := 45) (fr := (0, 0)) hNew1) (by simp [Value.oneCell']) (by decide) ?c3 ?c4 ?c5 _ rfl ?_)
            case c3 => unfold maxLen; omega
            case c4 => omega
            case c5 => first | omega | (simp; omega)
            intro gg1 cap1 w1 hown1 hgrow1 hat1 hlt1
            have HN1 : Hid (LR w1 w.heap.size ((L ++ [putQ q, keepQ u]) ++ [oneQ true]) (R ++ [keepQ q, putQ u]) (.slice (some ⟨gg1, 0, none⟩) (L.length + 2 + 1) cap1) (.slice (some ro1) (R.length + 2) rc1)) := by
              have hh := hAll1.addL (ps := [oneQ true]) (m := 1) (g := gg1) (cap := cap1) (w' := w1) (by rfl) rfl (by simp only [List.length_append, List.length_cons, List.length_nil, Nat.zero_add, Nat.reduceAdd]; exact hown1) hgrow1 hat1 (size_three _ _ _ _)
              simp only [List.length_append, List.length_cons, List.length_nil, Nat.zero_add, Nat.reduceAdd] at hh
              exact hh
            have HBN1 : Hid (Below w.heap.size w w1) := below_own' (mbelow_three HB2.out hz2 _ _ _) hAll1.l hgrow1 (by rw [size_three]; omega)
            have hzz1 := HBN1.out.size
            obtain ⟨ea1, ea2, eb1, eb2⟩ := HEA.out
            have a11 : w1.cell? ⟨ga, k * 2, none⟩ = some (.string q) := (HBN1.out.cell (p := ⟨ga, k * 2, none⟩) hga).trans ea1
            have a21 : w1.cell? ⟨ga, k * 2 + 1, none⟩ = some (.bool (!true)) := (HBN1.out.cell (p := ⟨ga, k * 2 + 1, none⟩) hga).trans ea2
            have b11 : w1.cell? ⟨gb, k * 2, none⟩ = some (.string u) := (HBN1.out.cell (p := ⟨gb, k * 2, none⟩) hgb).trans eb1
            have b21 : w1.cell? ⟨gb, k * 2 + 1, none⟩ = some (.bool (!true)) := (HBN1.out.cell (p := ⟨gb, k * 2 + 1, none⟩) hgb).trans eb2
            simp only [Bool.not_true, Bool.not_false] at a21 b21
            have hga1 : ga < w1.heap.size := by omega
            have hgb1 : gb < w1.heap.size := by omega
            clear hown1 hgrow1 hat1 hlt1 hAll1 hNew1 hOwn1 ea1 ea2 eb1 eb2
            go_wp2_with fail
            refine (mbyte_any u false _).mono ?_
            rintro e we2 ⟨rfl, rfl⟩
            have hAll2 := ((HN1.out.alloc (zPlc u false)).alloc (zPt 1 1 ⟨#[]⟩)).alloc (.cells #[.int .i64 1, .int .i64 1, .string ⟨#[]⟩] 45)
            have hNew2 := alloc_third w1 (zPlc u false) (zPt 1 1 ⟨#[]⟩) (.cells #[.int .i64 1, .int .i64 1, .string ⟨#[]⟩] 45)
            have hOwn2 := hAll2.r
            simp only [List.length_append, List.length_cons, List.length_nil, Nat.zero_add, Nat.reduceAdd] at hOwn2
            go_wp2_with (at_builtin; refine wpList_append_lies _ rfl _ _ 25 rfl w.heap.size 45 ip _ 3 32 Try.underlying25 hip hp0 hp1 hp2 rfl (by decide) _ _ _ rfl hOwn2 ⟨w1.heap.size + 1 + 1, 0, none⟩ 1 1 [.int .i64 1, .int .i64 1, .string ⟨#[]⟩] rfl rfl (World.news_of_block (cs := #[.int .i64 1, .int .i64 1, .string ⟨#[]⟩]) (t := 45) (fr := (0, 0)) hNew2) (by simp [Value.oneCell']) (by decide) ?c3 ?c4 ?c5 _ rfl ?_)
            case c3 => unfold maxLen; omega
            case c4 => omega
            case c5 => first | omega | (simp; omega)
            intro gg2 cap2 w2 hown2 hgrow2 hat2 hlt2
            have HN2 : Hid (LR w2 w.heap.size ((L ++ [putQ q, keepQ u]) ++ [oneQ true]) ((R ++ [keepQ q, putQ u]) ++ [oneQ true]) (.slice (some ⟨gg1, 0, none⟩) (L.length + 2 + 1) cap1) (.slice (some ⟨gg2, 0, none⟩) (R.length + 2 + 1) cap2)) := by
              have hh := hAll2.addR (ps := [oneQ true]) (m := 1) (g := gg2) (cap := cap2) (w' := w2) (by rfl) rfl (by simp only [List.length_append, List.length_cons, List.length_nil, Nat.zero_add, Nat.reduceAdd]; exact hown2) hgrow2 hat2 (size_three _ _ _ _)
              simp only [List.length_append, List.length_cons, List.length_nil, Nat.zero_add, Nat.reduceAdd] at hh
              exact hh
            have HBN2 : Hid (Below w.heap.size w w2) := below_own' (mbelow_three HBN1.out hzz1 _ _ _) hAll2.r hgrow2 (by rw [size_three]; omega)
            have hzz2 := HBN2.out.size
            obtain ⟨ea1, ea2, eb1, eb2⟩ := HEA.out
            have a12 : w2.cell? ⟨ga, k * 2, none⟩ = some (.string q) := (HBN2.out.cell (p := ⟨ga, k * 2, none⟩) hga).trans ea1
            have a22 : w2.cell? ⟨ga, k * 2 + 1, none⟩ = some (.bool (!true)) := (HBN2.out.cell (p := ⟨ga, k * 2 + 1, none⟩) hga).trans ea2
            have b12 : w2.cell? ⟨gb, k * 2, none⟩ = some (.string u) := (HBN2.out.cell (p := ⟨gb, k * 2, none⟩) hgb).trans eb1
            have b22 : w2.cell? ⟨gb, k * 2 + 1, none⟩ = some (.bool (!true)) := (HBN2.out.cell (p := ⟨gb, k * 2 + 1, none⟩) hgb).trans eb2
            simp only [Bool.not_true, Bool.not_false] at a22 b22
            have hga2 : ga < w2.heap.size := by omega
            have hgb2 : gb < w2.heap.size := by omega
            clear hown2 hgrow2 hat2 hlt2 hAll2 hNew2 hOwn2 ea1 ea2 eb1 eb2
            go_wp2_with fail
            go_roundg (n - (k + 1))
            case measure => omega
            case rel =>
              refine ⟨k + 1, _, _, by omega, by go_num, HN2.out, by simp; omega, by simp; omega, ?_, ?_, HBN2.out⟩
              · rw [HS.out.1]; simp
              · rw [HS.out.2]; simp
           | false =>
            simp only [Bool.not_true, Bool.not_false] at a2 b2 HEA
            go_wp2_with fail
            refine (mbyte_any u true _).mono ?_
            rintro e we1 ⟨rfl, rfl⟩
            have hAll1 := ((HLR2.out.alloc (zPlc u true)).alloc (zPt 3 1 ⟨#[]⟩)).alloc (.cells #[.int .i64 3, .int .i64 1, .string ⟨#[]⟩] 45)
            have hNew1 := alloc_third wc (zPlc u true) (zPt 3 1 ⟨#[]⟩) (.cells #[.int .i64 3, .int .i64 1, .string ⟨#[]⟩] 45)
            have hOwn1 := hAll1.r
            simp only [List.length_append, List.length_cons, List.length_nil, Nat.zero_add, Nat.reduceAdd] at hOwn1
            go_wp2_with (at_builtin; refine wpList_append_lies _ rfl _ _ 25 rfl w.heap.size 45 ip _ 3 32 Try.underlying25 hip hp0 hp1 hp2 rfl (by decide) _ _ _ rfl hOwn1 ⟨wc.heap.size + 1 + 1, 0, none⟩ 1 1 [.int .i64 3, .int .i64 1, .string ⟨#[]⟩] rfl rfl (World.news_of_block (cs := #[.int .i64 3, .int .i64 1, .string ⟨#[]⟩]) (t := 45) (fr := (0, 0)) hNew1) (by simp [Value.oneCell']) (by decide) ?c3 ?c4 ?c5 _ rfl ?_)
            case c3 => unfold maxLen; omega
            case c4 => omega
            case c5 => first | omega | (simp; omega)
            intro gg1 cap1 w1 hown1 hgrow1 hat1 hlt1
            have HN1 : Hid (LR w1 w.heap.size (L ++ [putQ q, keepQ u]) ((R ++ [keepQ q, putQ u]) ++ [oneQ false]) (.slice (some lo1) (L.length + 2) lc1) (.slice (some ⟨gg1, 0, none⟩) (R.length + 2 + 1) cap1)) := by
              have hh := hAll1.addR (ps := [oneQ false]) (m := 1) (g := gg1) (cap := cap1) (w' := w1) (by rfl) rfl (by simp only [List.length_append, List.length_cons, List.length_nil, Nat.zero_add, Nat.reduceAdd]; exact hown1) hgrow1 hat1 (size_three _ _ _ _)
              simp only [List.length_append, List.length_cons, List.length_nil, Nat.zero_add, Nat.reduceAdd] at hh
              exact hh
            have HBN1 : Hid (Below w.heap.size w w1) := below_own' (mbelow_three HB2.out hz2 _ _ _) hAll1.r hgrow1 (by rw [size_three]; omega)
            have hzz1 := HBN1.out.size
            obtain ⟨ea1, ea2, eb1, eb2⟩ := HEA.out
            have a11 : w1.cell? ⟨ga, k * 2, none⟩ = some (.string q) := (HBN1.out.cell (p := ⟨ga, k * 2, none⟩) hga).trans ea1
            have a21 : w1.cell? ⟨ga, k * 2 + 1, none⟩ = some (.bool (!true)) := (HBN1.out.cell (p := ⟨ga, k * 2 + 1, none⟩) hga).trans ea2
            have b11 : w1.cell? ⟨gb, k * 2, none⟩ = some (.string u) := (HBN1.out.cell (p := ⟨gb, k * 2, none⟩) hgb).trans eb1
            have b21 : w1.cell? ⟨gb, k * 2 + 1, none⟩ = some (.bool (!false)) := (HBN1.out.cell (p := ⟨gb, k * 2 + 1, none⟩) hgb).trans eb2
            simp only [Bool.not_true, Bool.not_false] at a21 b21
            have hga1 : ga < w1.heap.size := by omega
            have hgb1 : gb < w1.heap.size := by omega
            clear hown1 hgrow1 hat1 hlt1 hAll1 hNew1 hOwn1 ea1 ea2 eb1 eb2
            go_wp2_with fail
            go_roundg (n - (k + 1))
            case measure => omega
            case rel =>
              refine ⟨k + 1, _, _, by omega, by go_num, HN1.out, by simp; omega, by simp; omega, ?_, ?_, HBN1.out⟩
              · rw [HS.out.1]; simp
              · rw [HS.out.2]; simp
          | false =>
           cases c with
           | true =>
            simp only [Bool.not_true, Bool.not_false] at a2 b2 HEA
            go_wp2_with fail
            refine (mbyte_any q true _).mono ?_
            rintro e we1 ⟨rfl, rfl⟩
            have hAll1 := ((HLR2.out.alloc (zPlc q true)).alloc (zPt 3 1 ⟨#[]⟩)).alloc (.cells #[.int .i64 3, .int .i64 1, .string ⟨#[]⟩] 45)
            have hNew1 := alloc_third wc (zPlc q true) (zPt 3 1 ⟨#[]⟩) (.cells #[.int .i64 3, .int .i64 1, .string ⟨#[]⟩] 45)
            have hOwn1 := hAll1.l
            simp only [List.length_append, List.length_cons, List.length_nil, Nat.zero_add, Nat.reduceAdd] at hOwn1
            go_wp2_with (at_builtin; refine wpList_append_lies _ rfl _ _ 25 rfl w.heap.size 45 ip _ 3 32 Try.underlying25 hip hp0 hp1 hp2 rfl (by decide) _ _ _ rfl hOwn1 ⟨wc.heap.size + 1 + 1, 0, none⟩ 1 1 [.int .i64 3, .int .i64 1, .string ⟨#[]⟩] rfl rfl (World.news_of_block (cs := #[.int .i64 3, .int .i64 1, .string ⟨#[]⟩]) (t := 45) (fr := (0, 0)) hNew1) (by simp [Value.oneCell']) (by decide) ?c3 ?c4 ?c5 _ rfl ?_)
            case c3 => unfold maxLen; omega
            case c4 => omega
            case c5 => first | omega | (simp; omega)
            intro gg1 cap1 w1 hown1 hgrow1 hat1 hlt1
            have HN1 : Hid (LR w1 w.heap.size ((L ++ [putQ q, keepQ u]) ++ [oneQ false]) (R ++ [keepQ q, putQ u]) (.slice (some ⟨gg1, 0, none⟩) (L.length + 2 + 1) cap1) (.slice (some ro1) (R.length + 2) rc1)) := by
              have hh := hAll1.addL (ps := [oneQ false]) (m := 1) (g := gg1) (cap := cap1) (w' := w1) (by rfl) rfl (by simp only [List.length_append, List.length_cons, List.length_nil, Nat.zero_add, Nat.reduceAdd]; exact hown1) hgrow1 hat1 (size_three _ _ _ _)
              simp only [List.length_append, List.length_cons, List.length_nil, Nat.zero_add, Nat.reduceAdd] at hh
              exact hh
            have HBN1 : Hid (Below w.heap.size w w1) := below_own' (mbelow_three HB2.out hz2 _ _ _) hAll1.l hgrow1 (by rw [size_three]; omega)
            have hzz1 := HBN1.out.size
            obtain ⟨ea1, ea2, eb1, eb2⟩ := HEA.out
            have a11 : w1.cell? ⟨ga, k * 2, none⟩ = some (.string q) := (HBN1.out.cell (p := ⟨ga, k * 2, none⟩) hga).trans ea1
            have a21 : w1.cell? ⟨ga, k * 2 + 1, none⟩ = some (.bool (!false)) := (HBN1.out.cell (p := ⟨ga, k * 2 + 1, none⟩) hga).trans ea2
            have b11 : w1.cell? ⟨gb, k * 2, none⟩ = some (.string u) := (HBN1.out.cell (p := ⟨gb, k * 2, none⟩) hgb).trans eb1
            have b21 : w1.cell? ⟨gb, k * 2 + 1, none⟩ = some (.bool (!true)) := (HBN1.out.cell (p := ⟨gb, k * 2 + 1, none⟩) hgb).trans eb2
            simp only [Bool.not_true, Bool.not_false] at a21 b21
            have hga1 : ga < w1.heap.size := by omega
            have hgb1 : gb < w1.heap.size := by omega
            clear hown1 hgrow1 hat1 hlt1 hAll1 hNew1 hOwn1 ea1 ea2 eb1 eb2
            go_wp2_with fail
            go_roundg (n - (k + 1))
            case measure => omega
            case rel =>
              refine ⟨k + 1, _, _, by omega, by go_num, HN1.out, by simp; omega, by simp; omega, ?_, ?_, HBN1.out⟩
              · rw [HS.out.1]; simp
              · rw [HS.out.2]; simp
           | false =>
            simp only [Bool.not_true, Bool.not_false] at a2 b2 HEA
            go_wp2_with fail
            go_roundg (n - (k + 1))
            case measure => omega
            case rel =>
              refine ⟨k + 1, _, _, by omega, by go_num, HLR2.out, by simp; omega, by simp; omega, ?_, ?_, HB2.out⟩
              · rw [HS.out.1]; simp
              · rw [HS.out.2]; simp

end Go.Proofs.Ytcghojnmnmmpoaa
