/- The document's places as words: no program in it. -/
import Derived.Test.YtinhidddfpjjkabCompL
import Derived.Test.YtinhidddfpjjkabDelta
import Derived.Test.YtinhidddfpjjkabPtOwn
import Derived.Deep.Heap
namespace Go.Proofs.Ytinhidddfpjjkab
set_option linter.unusedSimpArgs false
set_option linter.unusedVariables false

/-- places as a word -/
def placesW : List ByteArray → List Bool → List Tok
  | q :: qs, b :: ks => q.data.toList.map .P ++ (if b = true then Tok.K else Tok.X) :: placesW qs ks
  | q :: _, [] => q.data.toList.map .P
  | [], _ => []
theorem placesW_app (qs qs' : List ByteArray) (ks ks' : List Bool) (h : qs.length = ks.length) : ∃ W, placesW (qs ++ qs') (ks ++ ks') = W ++ placesW qs' ks' ∧ ∀ qs' ks', placesW (qs ++ qs') (ks ++ ks') = W ++ placesW qs' ks' := by
  suffices H : ∃ W, ∀ qs' ks', placesW (qs ++ qs') (ks ++ ks') = W ++ placesW qs' ks' by
    obtain ⟨W, hW⟩ := H
    exact ⟨W, hW _ _, hW⟩
  clear qs' ks'
  induction ks generalizing qs with
  | nil =>
    have h3 : qs = [] := List.length_eq_zero_iff.1 (by simpa using h)
    subst h3
    exact ⟨[], fun _ _ => by simp⟩
  | cons b ks ih =>
    cases qs with
    | nil => simp at h
    | cons q qs =>
      obtain ⟨W, hW⟩ := ih qs (by simpa using h)
      exact ⟨q.data.toList.map .P ++ (if b = true then Tok.K else Tok.X) :: W, fun qs' ks' => by simp [placesW, hW]⟩
theorem placesW_rep (n : Nat) (q : ByteArray) (b : Bool) : placesW (q :: List.replicate n ByteArray.empty) (List.replicate n b) = q.data.toList.map .P ++ List.replicate n (if b = true then Tok.K else Tok.X) := by
  induction n generalizing q with
  | zero => simp [placesW]
  | succ n ih =>
    rw [List.replicate_succ, List.replicate_succ, List.replicate_succ, placesW, ih]
    simp [empty_data]
theorem placesW_step (qs : List ByteArray) (q : ByteArray) (ks : List Bool) (p : Pt) (h : qs.length = ks.length) (hp : 0 ≤ p.n ∧ (p.k = 1 ∨ p.k = 2 ∨ p.k = 3)) :
    ∃ qs' q' ks', ofStep (qs ++ [q], ks) p = (qs' ++ [q'], ks') ∧ qs'.length = ks'.length ∧ placesW (qs' ++ [q']) ks' = placesW (qs ++ [q]) ks ++ wordP p := by
  obtain ⟨W, _, hW⟩ := placesW_app qs [] ks [] h
  by_cases hk : p.k = 2
  · refine ⟨qs, q ++ p.t, ks, by simp [ofStep, hk, setLast_snoc], h, ?_⟩
    have e1 := hW [q ++ p.t] []
    have e2 := hW [q] []
    rw [List.append_nil] at e1 e2
    rw [e1, e2]
    simp [placesW, wordP, hk, data_append]
  · have htok : (if decide (p.k = 1) = true then Tok.K else Tok.X) = (if p.k = 1 then Tok.K else Tok.X) := by by_cases h1 : p.k = 1 <;> simp [h1]
    have hw : wordP p = List.replicate p.n.toNat (if p.k = 1 then Tok.K else Tok.X) := by
      unfold wordP
      by_cases h1 : p.k = 1 <;> simp [h1, hk]
    by_cases hn : p.n.toNat = 0
    · exact ⟨qs, q, ks, by simp [ofStep, hk, hn], h, by simp [hw, hn]⟩
    · obtain ⟨m, hm⟩ : ∃ m, p.n.toNat = m + 1 := ⟨p.n.toNat - 1, by omega⟩
      refine ⟨qs ++ q :: List.replicate m ByteArray.empty, ByteArray.empty, ks ++ List.replicate (m + 1) (decide (p.k = 1)), by simp [ofStep, hk, hm, rep_split, List.append_assoc], by simp; omega, ?_⟩
      have e1 := hW (q :: List.replicate (m + 1) ByteArray.empty) (List.replicate (m + 1) (decide (p.k = 1)))
      have e2 := hW [q] []
      rw [List.append_nil] at e2
      rw [show (qs ++ q :: List.replicate m ByteArray.empty) ++ [ByteArray.empty] = qs ++ q :: List.replicate (m + 1) ByteArray.empty by simp [rep_split], e1, e2, placesW_rep, hw, hm, htok]
      simp [placesW]
theorem places_word {l : List Pt} (h : Kinds l) : placesW (ofAll l).1 (ofAll l).2 = wordL l := by
  suffices H : ∀ (qs : List ByteArray) (q : ByteArray) (ks : List Bool), qs.length = ks.length → placesW (l.foldl ofStep (qs ++ [q], ks)).1 (l.foldl ofStep (qs ++ [q], ks)).2 = placesW (qs ++ [q]) ks ++ wordL l by
    have := H [] ByteArray.empty [] rfl
    simpa [placesW, ofAll, empty_data] using this
  induction l with
  | nil => intro qs q ks _; simp [wordL]
  | cons p r ih =>
    intro qs q ks hl
    obtain ⟨qs', q', ks', e, hl', hw⟩ := placesW_step qs q ks p hl (h p (by simp))
    rw [List.foldl_cons, e, ih (fun x hx => h x (List.mem_cons_of_mem _ hx)) qs' q' ks' hl', hw, wordL_cons, List.append_assoc]

def pairsP : List ByteArray → List Bool → Nat → Nat → List (Nat × Nat)
  | q :: qs, b :: ks, i, t => if b = true then (i, t + q.size) :: pairsP qs ks (i + 1) (t + q.size + 1) else pairsP qs ks (i + 1) (t + q.size)
  | _, _, _, _ => []
theorem pairsW_P (t : List UInt8) (w : List Tok) (i k : Nat) : pairsW (t.map .P ++ w) i k = pairsW w i (k + t.length) := by
  induction t generalizing k with
  | nil => simp
  | cons c t ih => simp only [List.map_cons, List.cons_append, pairsW, ih, List.length_cons]; congr 1; omega
theorem pairsP_word (qs : List ByteArray) (ks : List Bool) (i t : Nat) (h : qs.length = ks.length + 1) : pairsP qs ks i t = pairsW (placesW qs ks) i t := by
  induction ks generalizing qs i t with
  | nil =>
    match qs, h with
    | [q], _ =>
      have := pairsW_P q.data.toList [] i t
      simp only [List.append_nil, pairsW] at this
      simp [pairsP, placesW, this]
  | cons b ks ih =>
    cases qs with
    | nil => simp at h
    | cons q qs =>
      have hl : q.data.toList.length = q.size := Array.length_toList
      rw [placesW, pairsW_P, hl]
      cases b
      · simp [pairsP, pairsW, ih qs _ _ (by simpa using h)]
      · simp [pairsP, pairsW, ih qs _ _ (by simpa using h)]
theorem pairsP_of {l : List Pt} (h : Kinds l) : pairsP (ofAll l).1 (ofAll l).2 0 0 = pairsL l := by
  rw [pairsP_word _ _ _ _ (ofAll_len l), places_word h]; rfl
theorem pairsP_step {qs : List ByteArray} {ks : List Bool} {k t : Nat} {q : ByteArray} {b : Bool} (hq : qs[k]? = some q) (hb : ks[k]? = some b) :
    pairsP (qs.drop k) (ks.drop k) k t = if b = true then (k, t + q.size) :: pairsP (qs.drop (k + 1)) (ks.drop (k + 1)) (k + 1) (t + q.size + 1) else pairsP (qs.drop (k + 1)) (ks.drop (k + 1)) (k + 1) (t + q.size) := by
  obtain ⟨l1, rfl⟩ := List.getElem?_eq_some_iff.1 hq
  obtain ⟨l2, rfl⟩ := List.getElem?_eq_some_iff.1 hb
  rw [List.drop_eq_getElem_cons l1, List.drop_eq_getElem_cons l2]
  rfl

end Go.Proofs.Ytinhidddfpjjkab

/- As many bytes come of a text as Out says; and what the laws' All answers. -/
namespace Go.Proofs.Ytinhidddfpjjkab
open Go.RowKit
set_option linter.unusedSimpArgs false
set_option linter.unusedVariables false

theorem doL_len {l : List Pt} (hs : ∀ p ∈ l, 0 ≤ p.n ∧ p.n ≤ 500 ∧ p.t.size ≤ 500) (hr : Right l) {s : List UInt8} (h : (s.length : Int) = inI l) : ((doL l s).length : Int) = outI l := by
  induction l generalizing s with
  | nil => simp [doL, outI]
  | cons p r ih =>
    have hp := hr p (by simp)
    have hb := hs p (by simp)
    have hs' : ∀ q ∈ r, 0 ≤ q.n ∧ q.n ≤ 500 ∧ q.t.size ≤ 500 := fun q hq => hs q (List.mem_cons_of_mem _ hq)
    have hr' : Right r := fun q hq => hr q (List.mem_cons_of_mem _ hq)
    have hge := (inI_bd hs').1
    have ih := fun (s : List UInt8) => ih hs' hr' (s := s)
    simp only [inI] at h
    have htl : p.t.data.toList.length = p.t.size := Array.length_toList
    rcases hp with ⟨h1 | h1 | h1, h2, h3, h4⟩
    · have e := ih (s.drop p.n.toNat) (by rw [List.length_drop]; omega)
      have ht := (h3 (by omega)).1
      rw [doL, if_pos h1, outI, if_neg (by omega), List.length_append, List.length_take, ht]
      omega
    · have e := ih s (by have := h2 h1; omega)
      have hn := h2 h1
      rw [doL, if_neg (by omega), if_pos h1, outI, if_neg (by omega), List.length_append, htl, hn]
      omega
    · have e := ih (s.drop p.n.toNat) (by rw [List.length_drop]; omega)
      rw [doL, if_neg (by omega), if_neg (by omega), outI, if_pos h1]
      omega

def allL (n : Int) : List Pt := if n = 0 then [] else [⟨1, n, ByteArray.empty⟩]

set_option maxHeartbeats 400000 in
theorem RAll_any (n : Int) (w : World) (h0 : 0 ≤ n) (h1 : n ≤ 9223372036854775807) :
    Calls Try.prog 52 #[.int .i64 n] w fun e w' => ∃ a cap, e = .returned (.slice a (allL n).length cap) ∧ PartsAt w' w'.heap.size a (allL n) ∧ Below w.heap.size w w' := by
  by_cases hn : n = 0
  · have hn' : (n == 0) = true := by simp [hn]
    have HN : Hid (allL n = []) := by show _ = _; simp [allL, hn]
    clear hn
    go_enter Try.func52, Try.ntmps52
    go_wp2
    go_ret
    exact ⟨none, 0, by rw [HN.out]; rfl, by rw [HN.out]; exact ⟨by simp, Nat.le_refl _, by simp, by simp⟩, Below.refl _ _⟩
  · have hn' : (n == 0) = false := by simp [hn]
    have HN : Hid (allL n = [⟨1, n, ByteArray.empty⟩]) := by show _ = _; simp [allL, hn]
    clear hn
    go_enter Try.func52, Try.ntmps52
    go_wp2
    go_ret
    refine ⟨some ⟨w.heap.size, 0, none⟩, 1, by rw [HN.out]; rfl, ?_, (Below.refl _ _).alloc (Nat.le_refl _) _⟩
    rw [HN.out]
    have h2 := parts_lit w [⟨1, n, ByteArray.empty⟩] ⟨by simp, by intro p hp; simp at hp; subst hp; exact ⟨Nat.zero_le _, by show _ ≤ n; omega, h1, by show _ ≤ (1 : Int); omega, by show (1 : Int) ≤ _; omega⟩⟩
    rw [show (w.alloc (.cells #[.int .i64 1, .int .i64 n, .string ⟨#[]⟩] 58)).heap.size = w.heap.size + 1 from Deep.nblk_alloc _ _]
    exact h2

set_option maxHeartbeats 400000 in
theorem All_any (n : Int) (w : World) (h0 : 0 ≤ n) (h1 : n ≤ 9223372036854775807) :
    Calls Try.prog 21 #[.int .i64 n] w fun e w' => ∃ a cap, e = .returned (.slice a (allL n).length cap) ∧ PartsAt w' w'.heap.size a (allL n) ∧ Below w.heap.size w w' := by
  go_enter Try.func21, Try.ntmps21
  go_wp2_with fail
  refine (RAll_any n _ h0 h1).mono ?_
  rintro e w1 ⟨a, cap, rfl, hp, hb⟩
  have HP : Hid _ := hp
  clear hp
  go_wp2_with fail
  go_ret
  exact ⟨a, cap, rfl, HP.out, hb⟩

end Go.Proofs.Ytinhidddfpjjkab
