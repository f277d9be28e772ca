/- The document's OpenShop. (laws/mkropen.py) -/
import Derived.Test.YtgffippimmokiaaRShop
import Derived.Test.YtgffippimmokiaaRLog
import Derived.Test.YtgffippimmokiaaRTexts
import Derived.Test.YtgffippimmokiaaShNew
import Derived.Test.YtgffippimmokiaaDiskKit
import Derived.Deep.DeepCutAuto
namespace Go.Proofs.Ytgffippimmokiaa
open Go.RowKit
set_option linter.unusedSimpArgs false
set_option linter.unusedVariables false

theorem RsAt.other {w : World} {g : Nat} {L : List Value} (h : RsAt w g L) {p : Addr} (v : Value) (hp : g ≠ p.block) : RsAt (w.setCell p v) g L := (heap_setCell_other w p g v hp).trans h
theorem RsAt.aside {g b : Nat} (hg : g ≠ b) {L : List Value} : ∀ (vs : List Value) (w : World) (o : Nat), RsAt w g L → RsAt (w.setCells b o vs) g L
  | [], _, _, h => h
  | v :: r, w, o, h => RsAt.aside hg r _ (o + 1) (h.other v hg)
/-- nothing yet -/
theorem rs_zero : (rsL ⟨#[]⟩ 0 ⟨#[]⟩ 0 0 0 0 (List.replicate 16 0) (.slice none 0 0) (.slice none 0 0) 0).toArray = #[.string ⟨#[]⟩, .int .i64 0, .string ⟨#[]⟩, .int .i64 0, .int .i64 0, .int .i64 0, .int .i64 0, .int .i64 0, .int .i64 0, .int .i64 0, .int .i64 0, .int .i64 0, .int .i64 0, .int .i64 0, .int .i64 0, .int .i64 0, .int .i64 0, .int .i64 0, .int .i64 0, .int .i64 0, .int .i64 0, .int .i64 0, .int .i64 0, .slice none 0 0, .slice none 0 0, .int .i64 0, .bool false, .int .i64 0, .int .i64 0, .bool false, .bool false] := rfl
/-- the newest of two -/
theorem newN_is (p q : List UInt8) : newN p q = if logE (scanL q).1 = 0 ∧ (logS (scanL q).1).whole = true ∧ ((logE (scanL p).1 = 0 ∧ (logS (scanL p).1).whole = true) → (logS (scanL p).1).gen < (logS (scanL q).1).gen) then (1, logS (scanL q).1)
    else if logE (scanL p).1 = 0 ∧ (logS (scanL p).1).whole = true then (0, logS (scanL p).1) else (0, nilLg) := by
  have e0 : stepN 0 p (0, nilLg) = if logE (scanL p).1 = 0 ∧ (logS (scanL p).1).whole = true then (0, logS (scanL p).1) else (0, nilLg) := by
    unfold stepN
    by_cases h : logE (scanL p).1 = 0 ∧ (logS (scanL p).1).whole = true
    · rw [if_pos ⟨h.1, h.2, .inl rfl⟩, if_pos h]
    · rw [if_neg (fun e => h ⟨e.1, e.2.1⟩), if_neg h]
  unfold newN
  rw [e0]
  by_cases h : logE (scanL p).1 = 0 ∧ (logS (scanL p).1).whole = true
  · rw [if_pos h]
    unfold stepN
    by_cases h2 : logE (scanL q).1 = 0 ∧ (logS (scanL q).1).whole = true ∧ (logS (scanL p).1).gen < (logS (scanL q).1).gen
    · rw [if_pos ⟨h2.1, h2.2.1, .inr h2.2.2⟩, if_pos ⟨h2.1, h2.2.1, fun _ => h2.2.2⟩]
    · rw [if_neg (fun e => h2 ⟨e.1, e.2.1, by
        rcases e.2.2 with e3 | e3
        · have e4 : (logS (scanL p).1).whole = false := e3
          rw [h.2] at e4; cases e4
        · exact e3⟩), if_neg (fun e => h2 ⟨e.1, e.2.1, e.2.2 h⟩)]
  · rw [if_neg h]
    unfold stepN
    by_cases h2 : logE (scanL q).1 = 0 ∧ (logS (scanL q).1).whole = true
    · rw [if_pos ⟨h2.1, h2.2, .inl rfl⟩, if_pos ⟨h2.1, h2.2, fun e => absurd e h⟩]
    · rw [if_neg (fun e => h2 ⟨e.1, e.2.1⟩), if_neg (fun e => h2 ⟨e.1, e.2.1⟩)]
theorem newN_b (p q : List UInt8) {b1 b2 : Bool} (h1 : (decide (logE (scanL p).1 = 0) && (logS (scanL p).1).whole) = b1) (h2 : (decide (logE (scanL q).1 = 0) && (logS (scanL q).1).whole) = b2) :
    newN p q = if b2 = true ∧ (b1 = true → (logS (scanL p).1).gen < (logS (scanL q).1).gen) then (1, logS (scanL q).1) else if b1 = true then (0, logS (scanL p).1) else (0, nilLg) := by
  have j1 : b1 = true ↔ (logE (scanL p).1 = 0 ∧ (logS (scanL p).1).whole = true) := by rw [← h1]; simp
  have j2 : b2 = true ↔ (logE (scanL q).1 = 0 ∧ (logS (scanL q).1).whole = true) := by rw [← h2]; simp
  rw [newN_is]
  by_cases e2 : logE (scanL q).1 = 0 ∧ (logS (scanL q).1).whole = true ∧ ((logE (scanL p).1 = 0 ∧ (logS (scanL p).1).whole = true) → (logS (scanL p).1).gen < (logS (scanL q).1).gen)
  · rw [if_pos e2, if_pos ⟨j2.2 ⟨e2.1, e2.2.1⟩, fun h => e2.2.2 (j1.1 h)⟩]
  · have e3 : ¬ (b2 = true ∧ (b1 = true → (logS (scanL p).1).gen < (logS (scanL q).1).gen)) := fun e => e2 ⟨(j2.1 e.1).1, (j2.1 e.1).2, fun h => e.2 (j1.2 h)⟩
    by_cases e1 : logE (scanL p).1 = 0 ∧ (logS (scanL p).1).whole = true
    · rw [if_neg e2, if_pos e1, if_neg e3, if_pos (j1.2 e1)]
    · rw [if_neg e2, if_neg e1, if_neg e3, if_neg (fun e => e1 (j1.1 e))]
set_option maxHeartbeats 400000 in
theorem Rsafe_any (s : ByteArray) (w : World) (hs : s.size ≤ 9223372036854775807) : Calls Try.prog 41 #[.string s] w fun e w' => e = .returned (.agg #[.string s, .int .i64 s.size]) ∧ Below w.heap.size w w' := by
  have hb : Below w.heap.size w (w.alloc (.cells #[.string s, .int .i64 s.size] 23)) := (Below.refl _ w).alloc (Nat.le_refl _) _
  have HB : Hid _ := hb
  clear hb
  go_enter Try.func41, Try.ntmps41
  go_wp2_with fail
  refine bodyPost_ret (v := .agg #[.string s, .int .i64 s.size]) (by simp [results, Try.results41, go_sem, *]) rfl ⟨rfl, HB.out⟩
/-- the cells of a slot, ahead of the first write -/
theorem rs_two {k : Nat} (hk : k ≤ 1) (n : Int) : (rsL ⟨#[]⟩ 0 ⟨#[]⟩ 0 n 0 0 (List.replicate 16 0) (.slice none 0 0) (.slice none 0 0) 0)[k * 2]? = some (.string ⟨#[]⟩) ∧ (rsL ⟨#[]⟩ 0 ⟨#[]⟩ 0 n 0 0 (List.replicate 16 0) (.slice none 0 0) (.slice none 0 0) 0)[k * 2 + 1]? = some (.int .i64 0) := by
  rcases (by omega : k = 0 ∨ k = 1) with rfl | rfl <;> exact ⟨rfl, rfl⟩
theorem st_own {w : World} {B n c : Nat} {a : Option Addr} {T : List ByteArray} (h : w.ownsRow B 9 1 (.slice a n c) n (T.map Value.string)) (hn : n = T.length) (hs : ∀ q ∈ T, q.size ≤ 9223372036854775807) : StAt w w.heap.size a T c := by
  subst hn
  rcases h.2 with ⟨h1, h2⟩ | ⟨g, cap, cur, hv, hB, hg, h3, h4, h5, h6⟩
  · have hl : T = [] := List.length_eq_zero_iff.1 h2
    subst hl
    simp only [Value.slice.injEq, List.length_nil, true_and] at h1
    obtain ⟨rfl, rfl⟩ := h1
    exact st_nil _ _ _ (Nat.le_refl _) (by omega) _
  · simp only [Value.slice.injEq, true_and] at hv
    obtain ⟨rfl, rfl⟩ := hv
    refine ⟨h3, by unfold maxLen at h4; omega, Nat.le_refl _, fun hn => ⟨g, 0, rfl, lt_of_heap hg, fun i q hi => ?_⟩, hs⟩
    have hlt := (List.getElem?_eq_some_iff.1 hi).1
    have e : (T.map Value.string)[i]? = some (.string q) := by rw [List.getElem?_map, hi]; rfl
    rw [Nat.zero_add]
    exact (h.cellAt i (by omega)).trans e
theorem own_far {w : World} {G n size i : Nat} {e : TypeId} {v u : Value} {xs : List Value} (h : w.ownsRow (G + 1) e size v n xs) : (w.setCell ⟨G, i, none⟩ u).ownsRow (G + 1) e size v n xs :=
  h.kept ((Aside.refl G w).put i u) (.inr (fun e => by have := (h.lt G e).1; omega))
theorem texts_small {S : Lg} {n : Int} (ok : LOk S n) : ∀ q ∈ textsR S.text S.revs, q.size ≤ 9223372036854775807 := by
  intro q hq
  unfold textsR at hq
  split at hq
  · unfold textsB at hq
    obtain ⟨i, _, rfl⟩ := List.mem_map.1 hq
    have h := text_le ok.hist ok.text i
    show (textAt S.text S.revs i).toArray.size ≤ _
    rw [List.size_toArray]; omega
  · cases hq
/-- one slot, and nothing in the other -/
def kP (k : Nat) (c : ByteArray) : ByteArray := if k = 0 then c else ⟨#[]⟩
def kX (k : Nat) (x : Int) : Int := if k = 0 then x else 0
theorem rs_put {k : Nat} (hk : k ≤ 1) (n : Int) (c : ByteArray) (x : Int) : ((rsL ⟨#[]⟩ 0 ⟨#[]⟩ 0 n 0 0 (List.replicate 16 0) (.slice none 0 0) (.slice none 0 0) 0).set (k * 2) (.string c)).set (k * 2 + 1) (.int .i64 x) = rsL (kP k c) (kX k x) (kP (1 - k) c) (kX (1 - k) x) n 0 0 (List.replicate 16 0) (.slice none 0 0) (.slice none 0 0) 0 := by
  rcases (by omega : k = 0 ∨ k = 1) with rfl | rfl <;> rfl
theorem rs_gen {p q : ByteArray} {x y n : Int} {F : List Int} {tv rv : Value} {sf : Int} (gen base : Int) : ((rsL p x q y n 0 0 F tv rv sf).set 5 (.int .i64 gen)).set 6 (.int .i64 base) = rsL p x q y n gen base F tv rv sf := rfl
theorem rs_first {p q : ByteArray} {x y n gen base : Int} {F F' : List Int} {tv rv : Value} {sf : Int} (hF : F.length = 16) (hF' : F'.length = 16) : setL (rsL p x q y n gen base F tv rv sf) 7 (jzC F') = rsL p x q y n gen base F' tv rv sf :=
  setL_app [.string p, .int .i64 x, .string q, .int .i64 y, .int .i64 n, .int .i64 gen, .int .i64 base] (jzC F) [tv, rv, .int .i64 sf, .bool false, .int .i64 0, .int .i64 0, .bool false, .bool false] (jzC F') (by rw [jzC_len, jzC_len, hF, hF'])
theorem rs_set {p q : ByteArray} {x y n gen base : Int} {F : List Int} {tv rv : Value} {sf : Int} (hF : F.length = 16) : (∀ v, (rsL p x q y n gen base F tv rv sf).set 23 v = rsL p x q y n gen base F v rv sf) ∧ (∀ v, (rsL p x q y n gen base F tv rv sf).set 24 v = rsL p x q y n gen base F tv v sf) ∧ (∀ m, (rsL p x q y n gen base F tv rv sf).set 25 (.int .i64 m) = rsL p x q y n gen base F tv rv m) := by
  have hJ : (jzC F).length = 16 := by rw [jzC_len]; exact hF
  refine ⟨fun v => ?_, fun v => ?_, fun v => ?_⟩ <;>
  · unfold rsL
    rw [List.set_append_right _ _ (by simp), List.set_append_right _ _ (by rw [hJ]; simp), hJ]
    rfl
/-- what is read of a log -/
def LgS (g : Nat) (S : Lg) (a : Option Addr) (c : Nat) (w : World) : Prop := w.cell? ⟨g, 0, none⟩ = some (.int .i64 S.gen) ∧ w.cell? ⟨g, 1, none⟩ = some (.int .i64 S.base) ∧ w.cell? ⟨g, 35, none⟩ = some (.slice a S.revs.length c) ∧ w.rangeAt g 3 (jzC S.first)
theorem lgs_first {w : World} {g : Nat} {S : Lg} {a : Option Addr} {c : Nat} (h : LgS g S a c w) : w.rangeAt g 3 (jzC S.first) := h.2.2.2
theorem lg_held {w : World} {g : Nat} {S : Lg} {a : Option Addr} {c : Nat} (h : LgAt w g (rlC S a c)) (hF : S.first.length = 16) (hT : S.table.length = 16) : LgS g S a c w ∧ w.cell? ⟨g, 37, none⟩ = some (.int .i64 S.good) ∧ w.cell? ⟨g, 2, none⟩ = some (.string ⟨S.text.toArray⟩) := by
  obtain ⟨l35, _, l37, _⟩ := lg_at (gen := S.gen) (base := S.base) (text := S.text) (F := S.first) (T := S.table) (rv := .slice a S.revs.length c) (wh := S.whole) (gd := S.good) hF hT
  exact ⟨⟨h.cell rfl, h.cell rfl, h.cell l35, h.range [.int .i64 S.gen, .int .i64 S.base, .string ⟨S.text.toArray⟩] _ (jzC S.table ++ [.slice a S.revs.length c, .bool S.whole, .int .i64 S.good]) (by rfl)⟩, h.cell l37, h.cell rfl⟩
theorem open_is {p q P : ByteArray} {k : Nat} {S : Lg} (hN : newN p.data.toList q.data.toList = (k, S)) (hP : (k = 0 ∧ P = p) ∨ (k = 1 ∧ P = q)) : (openS p q).p0 = kP k (P.extract 0 S.good) ∧ (openS p q).x0 = kX k S.good ∧ (openS p q).p1 = kP (1 - k) (P.extract 0 S.good) ∧ (openS p q).x1 = kX (1 - k) S.good ∧ (openS p q).log = S ∧ (openS p q).safe = S.base + S.revs.length := by
  unfold openS Sh.p0 Sh.x0 Sh.p1 Sh.x1
  rw [hN]
  rcases hP with ⟨rfl, rfl⟩ | ⟨rfl, rfl⟩ <;> exact ⟨rfl, rfl, rfl, rfl, rfl, rfl⟩
/-- what OpenShop answers -/
def ROpTo (p : ByteArray) (x : Int) (q : ByteArray) (y : Int) (w : World) (e : Ending) (w' : World) : Prop :=
  ((openE p x q y ≠ 0 ∧ e = .returned (.tuple #[.pointer none, .int .i64 (openE p x q y)])) ∨
   (openE p x q y = 0 ∧ ∃ (g : Nat) (at_ gen : Int) (ta : Option Addr) (tc : Nat) (ra : Option Addr) (rc : Nat), e = .returned (.tuple #[.pointer (some ⟨g, 0, none⟩), .int .i64 0]) ∧
     RsOf w' g (openS p q).p0 (openS p q).x0 (openS p q).p1 (openS p q).x1 (openS p q).log (textsR (openS p q).log.text (openS p q).log.revs) (openS p q).safe at_ gen ta tc ra rc)) ∧ Below w.heap.size w w'
set_option maxRecDepth 100000 in
set_option maxHeartbeats 16000000 in
theorem ROpen_any (p : ByteArray) (x : Int) (q : ByteArray) (y : Int) (w : World) (hp : p.size ≤ 9223372036854775807) (hq : q.size ≤ 9223372036854775807) :
    Calls Try.prog 10 #[dkV p x q y] w fun e w' => ROpTo p x q y w e w' := by
  have HCk : Hid _ := fun w => RDisk_any p x q y w hp hq
  have HD0 : Hid (DkAt (w.alloc (.cells #[.string p, .int .i64 x, .string q, .int .i64 y] 26)) w.heap.size p x q y ∧ Below w.heap.size w (w.alloc (.cells #[.string p, .int .i64 x, .string q, .int .i64 y] 26))) := ⟨DkBox, (Below.refl _ w).alloc (Nat.le_refl _) _⟩
  by_cases h0 : dkE p x q y = 0
  · obtain ⟨k1, k2⟩ := dk_zero h0
    obtain ⟨m0, m1, m2⟩ := sl_zero k1
    obtain ⟨l0, l1, l2⟩ := sl_zero k2
    rw [h0] at HCk
    have HL1 : Hid (∀ w, Calls Try.prog 40 #[.string p] w fun e w' => ReadTo (logS (scanL p.data.toList).1) (logE (scanL p.data.toList).1) w e w') := fun w => (RLog_any p w (by omega)).mono fun e w' h => read_to h
    have HL2 : Hid (∀ w, Calls Try.prog 40 #[.string q] w fun e w' => ReadTo (logS (scanL q.data.toList).1) (logE (scanL q.data.toList).1) w e w') := fun w => (RLog_any q w (by omega)).mono fun e w' h => read_to h
    obtain ⟨b1, hb1⟩ : ∃ b1, (decide (logE (scanL p.data.toList).1 = 0) && (logS (scanL p.data.toList).1).whole) = b1 := ⟨_, rfl⟩
    obtain ⟨b2, hb2⟩ : ∃ b2, (decide (logE (scanL q.data.toList).1 = 0) && (logS (scanL q.data.toList).1).whole) = b2 := ⟨_, rfl⟩
    have hN := newN_b p.data.toList q.data.toList hb1 hb2
    have hsa : logE (scanL p.data.toList).1 ≠ 0 → (logS (scanL p.data.toList).1).whole = false := fun h => by rw [logS_not h]; rfl
    have hsb : logE (scanL q.data.toList).1 ≠ 0 → (logS (scanL q.data.toList).1).whole = false := fun h => by rw [logS_not h]; rfl
    have hga : logE (scanL p.data.toList).1 = 0 → (logS (scanL p.data.toList).1).good ≤ p.size := fun h => by have h8 := (log_good h).2.1; have : p.data.toList.length = p.size := Array.length_toList; omega
    have hgb : logE (scanL q.data.toList).1 = 0 → (logS (scanL q.data.toList).1).good ≤ q.size := fun h => by have h8 := (log_good h).2.1; have : q.data.toList.length = q.size := Array.length_toList; omega
    have hka : logE (scanL p.data.toList).1 = 0 → ∃ n, LOk (logS (scanL p.data.toList).1) n := logS_ok
    have hkb : logE (scanL q.data.toList).1 = 0 → ∃ n, LOk (logS (scanL q.data.toList).1) n := logS_ok
    have ht1 := logS_tabs p.data.toList
    have ht2 := logS_tabs q.data.toList
    obtain ⟨S1, hS1⟩ : ∃ S1, logS (scanL p.data.toList).1 = S1 := ⟨_, rfl⟩
    obtain ⟨q1, hq1⟩ : ∃ q1, logE (scanL p.data.toList).1 = q1 := ⟨_, rfl⟩
    obtain ⟨S2, hS2⟩ : ∃ S2, logS (scanL q.data.toList).1 = S2 := ⟨_, rfl⟩
    obtain ⟨q2, hq2⟩ : ∃ q2, logE (scanL q.data.toList).1 = q2 := ⟨_, rfl⟩
    rw [hS1, hq1] at HL1 hsa hga hka hb1
    rw [hS2, hq2] at HL2 hsb hgb hkb hb2
    rw [hS1, hS2] at hN
    rw [hS1] at ht1
    rw [hS2] at ht2
    obtain ⟨A, hA⟩ : ∃ A, newN p.data.toList q.data.toList = A := ⟨_, rfl⟩
    rw [hA] at hN
    have HA : Hid (newN p.data.toList q.data.toList = A) := hA
    have HT : Hid ((S1.first.length = 16 ∧ S1.table.length = 16) ∧ (S2.first.length = 16 ∧ S2.table.length = 16)) := ⟨ht1, ht2⟩
    have HG : Hid ((q1 = 0 → S1.good ≤ p.size ∧ ∃ n, LOk S1 n) ∧ (q2 = 0 → S2.good ≤ q.size ∧ ∃ n, LOk S2 n)) := ⟨fun h => ⟨hga h, hka h⟩, fun h => ⟨hgb h, hkb h⟩⟩
    have HE0 : Hid (dkE p x q y = 0) := h0
    clear hS1 hq1 hS2 hq2 hA ht1 ht2 hga hgb hka hkb k1 k2 m0 m1 m2 l0 l1 l2 h0
    go_enter Try.func10, Try.ntmps10
    go_upto_region 1 with fail
    generalize w.alloc (.cells #[.string p, .int .i64 x, .string q, .int .i64 y] 26) = w0 at HD0 ⊢
    obtain ⟨D, hD⟩ : ∃ D, w.heap.size = D := ⟨_, rfl⟩
    have HWD : Hid (w.heap.size = D) := hD
    rw [hD] at HD0 ⊢
    clear hD
    obtain ⟨c0, c1, c2, c3⟩ := HD0.out.1.cells
    have hl := HD0.out.1.lt
    go_wp2_with fail
    with_reducible refine (HCk.out _).mono ?_
    rintro e w1 ⟨rfl, hb1⟩
    have HD1 : Hid (DkAt w1 D p x q y ∧ Below D w w1) := ⟨HD0.out.1.below hb1 hl, HD0.out.2.trans (hb1.mono (by omega))⟩
    clear c0 c1 c2 c3 hl hb1 HD0 HCk
    obtain ⟨c0, c1, c2, c3⟩ := HD1.out.1.cells
    have hl := HD1.out.1.lt
    go_wp2_with fail
    with_reducible refine (HL1.out _).mono ?_
    rintro e w2 ⟨a1, e1, rfl, hr1, hc1, hb2⟩
    have HI1 : Hid _ := log_into (sC_len HT.out.1.1 HT.out.1.2) (rl_one S1 a1 e1)
    have HR1 : Hid (RlAt (w2.alloc (.cells (rlC S1 a1 e1).toArray 82)) w2.heap.size S1 a1 e1) := rl_new hr1 hc1 HT.out.1.1 HT.out.1.2
    have HD2 : Hid (DkAt (w2.alloc (.cells (rlC S1 a1 e1).toArray 82)) D p x q y ∧ Below D w (w2.alloc (.cells (rlC S1 a1 e1).toArray 82))) := by
      have hb : Below w1.heap.size w1 (w2.alloc (.cells (rlC S1 a1 e1).toArray 82)) := hb2.alloc hb2.size _
      exact ⟨HD1.out.1.below hb hl, HD1.out.2.trans (hb.mono (by omega))⟩
    clear c0 c1 c2 c3 hl hb2 hr1 hc1 HD1 HL1
    go_upto_region 5 with (refine wpList_store_new rfl 82 _ _ rfl _ (rlC S1 a1 e1).toArray (by rfl) (by rfl) HI1.out.1 (by exact HI1.out.2.1) HI1.out.2.2.1 ?_)
    generalize w2.alloc (.cells (rlC S1 a1 e1).toArray 82) = w3 at HR1 HD2 ⊢
    obtain ⟨gA, hgA⟩ : ∃ gA, w2.heap.size = gA := ⟨_, rfl⟩
    rw [hgA] at HR1 ⊢
    clear hgA
    obtain ⟨c0, c1, c2, c3⟩ := HD2.out.1.cells
    have hl := HD2.out.1.lt
    go_wp2_with fail
    with_reducible refine (HL2.out _).mono ?_
    rintro e w4 ⟨a2, e2, rfl, hr2, hc2, hb4⟩
    have HI2 : Hid _ := log_into (sC_len HT.out.2.1 HT.out.2.2) (rl_one S2 a2 e2)
    have hb45 : Below w4.heap.size w4 (w4.alloc (.cells (rlC S2 a2 e2).toArray 82)) := (Below.refl _ w4).alloc (Nat.le_refl _) _
    have HR2 : Hid (RlAt (w4.alloc (.cells (rlC S2 a2 e2).toArray 82)) w4.heap.size S2 a2 e2) := rl_new hr2 hc2 HT.out.2.1 HT.out.2.2
    have HR15 : Hid (RlAt (w4.alloc (.cells (rlC S2 a2 e2).toArray 82)) gA S1 a1 e1 ∧ gA < w4.heap.size) := ⟨(HR1.out.next hb4).next hb45, by have := HR1.out.lt; have := hb4.size; omega⟩
    have HD5 : Hid (DkAt (w4.alloc (.cells (rlC S2 a2 e2).toArray 82)) D p x q y ∧ Below D w (w4.alloc (.cells (rlC S2 a2 e2).toArray 82))) := by
      have hb : Below w3.heap.size w3 (w4.alloc (.cells (rlC S2 a2 e2).toArray 82)) := hb4.alloc hb4.size _
      exact ⟨HD2.out.1.below hb hl, HD2.out.2.trans (hb.mono (by omega))⟩
    clear c0 c1 c2 c3 hl hb4 hr2 hc2 hb45 HD2 HR1 HL2
    go_upto_region 6 with (refine wpList_store_new rfl 82 _ _ rfl _ (rlC S2 a2 e2).toArray (by rfl) (by rfl) HI2.out.1 (by exact HI2.out.2.1) HI2.out.2.2.1 ?_)
    generalize w4.alloc (.cells (rlC S2 a2 e2).toArray 82) = W at HR2 HR15 HD5 ⊢
    obtain ⟨gB, hgB⟩ : ∃ gB, w4.heap.size = gB := ⟨_, rfl⟩
    rw [hgB] at HR2 HR15 ⊢
    clear hgB
    go_cut [9, 10] (fun f1 f2 wc => f1 = .bool b1 ∧ f2 = .bool b2 ∧ Below W.heap.size W wc ∧ wc.heap.size = W.heap.size)
    case first =>
      rcases (show (q1 == 0) = false ∨ (q1 = 0 ∧ S1.whole = false) ∨ (q1 = 0 ∧ S1.whole = true) by
          by_cases h : q1 = 0
          · cases h2 : S1.whole
            · exact .inr (.inl ⟨h, rfl⟩)
            · exact .inr (.inr ⟨h, rfl⟩)
          · exact .inl (by simp [h])) with h1n | ⟨rfl, h1w⟩ | ⟨rfl, h1w⟩
      · rcases (show (q2 == 0) = false ∨ (q2 = 0 ∧ S2.whole = false) ∨ (q2 = 0 ∧ S2.whole = true) by
            by_cases h : q2 = 0
            · cases h2 : S2.whole
              · exact .inr (.inl ⟨h, rfl⟩)
              · exact .inr (.inr ⟨h, rfl⟩)
            · exact .inl (by simp [h])) with h2n | ⟨rfl, h2w⟩ | ⟨rfl, h2w⟩
        · obtain ⟨a0, _, _, _, a36, _⟩ := HR15.out.1.cells
          obtain ⟨b0, _, _, _, b36, _⟩ := HR2.out.cells
          have hlA := HR15.out.1.lt
          have hlB := HR2.out.lt
          clear a36
          clear b36
          go_quiet (fail)
          clear a0 b0 hlA hlB 
          go_wp2_with fail
          go_meet
          case rel => exact ⟨by rw [← hb1]; simp [of_decide_eq_false (show decide (q1 = 0) = false by simpa using h1n)], by rw [← hb2]; simp [of_decide_eq_false (show decide (q2 = 0) = false by simpa using h2n)], below_drewN (Below.refl _ _) _, rfl⟩
        · obtain ⟨a0, _, _, _, a36, _⟩ := HR15.out.1.cells
          obtain ⟨b0, _, _, _, b36, _⟩ := HR2.out.cells
          have hlA := HR15.out.1.lt
          have hlB := HR2.out.lt
          clear a36
          rw [h2w] at b36
          go_quiet (fail)
          clear a0 b0 hlA hlB b36
          go_wp2_with fail
          go_meet
          case rel => exact ⟨by rw [← hb1]; simp [of_decide_eq_false (show decide (q1 = 0) = false by simpa using h1n)], by rw [← hb2, h2w]; rfl, below_drewN (Below.refl _ _) _, rfl⟩
        · obtain ⟨a0, _, _, _, a36, _⟩ := HR15.out.1.cells
          obtain ⟨b0, _, _, _, b36, _⟩ := HR2.out.cells
          have hlA := HR15.out.1.lt
          have hlB := HR2.out.lt
          clear a36
          rw [h2w] at b36
          go_quiet (fail)
          clear a0 b0 hlA hlB b36
          go_wp2_with fail
          go_meet
          case rel => exact ⟨by rw [← hb1]; simp [of_decide_eq_false (show decide (q1 = 0) = false by simpa using h1n)], by rw [← hb2, h2w]; rfl, below_drewN (Below.refl _ _) _, rfl⟩
      · rcases (show (q2 == 0) = false ∨ (q2 = 0 ∧ S2.whole = false) ∨ (q2 = 0 ∧ S2.whole = true) by
            by_cases h : q2 = 0
            · cases h2 : S2.whole
              · exact .inr (.inl ⟨h, rfl⟩)
              · exact .inr (.inr ⟨h, rfl⟩)
            · exact .inl (by simp [h])) with h2n | ⟨rfl, h2w⟩ | ⟨rfl, h2w⟩
        · obtain ⟨a0, _, _, _, a36, _⟩ := HR15.out.1.cells
          obtain ⟨b0, _, _, _, b36, _⟩ := HR2.out.cells
          have hlA := HR15.out.1.lt
          have hlB := HR2.out.lt
          rw [h1w] at a36
          clear b36
          go_quiet (fail)
          clear a0 b0 hlA hlB a36
          go_wp2_with fail
          go_meet
          case rel => exact ⟨by rw [← hb1, h1w]; rfl, by rw [← hb2]; simp [of_decide_eq_false (show decide (q2 = 0) = false by simpa using h2n)], below_drewN (Below.refl _ _) _, rfl⟩
        · obtain ⟨a0, _, _, _, a36, _⟩ := HR15.out.1.cells
          obtain ⟨b0, _, _, _, b36, _⟩ := HR2.out.cells
          have hlA := HR15.out.1.lt
          have hlB := HR2.out.lt
          rw [h1w] at a36
          rw [h2w] at b36
          go_quiet (fail)
          clear a0 b0 hlA hlB a36 b36
          go_wp2_with fail
          go_meet
          case rel => exact ⟨by rw [← hb1, h1w]; rfl, by rw [← hb2, h2w]; rfl, below_drewN (Below.refl _ _) _, rfl⟩
        · obtain ⟨a0, _, _, _, a36, _⟩ := HR15.out.1.cells
          obtain ⟨b0, _, _, _, b36, _⟩ := HR2.out.cells
          have hlA := HR15.out.1.lt
          have hlB := HR2.out.lt
          rw [h1w] at a36
          rw [h2w] at b36
          go_quiet (fail)
          clear a0 b0 hlA hlB a36 b36
          go_wp2_with fail
          go_meet
          case rel => exact ⟨by rw [← hb1, h1w]; rfl, by rw [← hb2, h2w]; rfl, below_drewN (Below.refl _ _) _, rfl⟩
      · rcases (show (q2 == 0) = false ∨ (q2 = 0 ∧ S2.whole = false) ∨ (q2 = 0 ∧ S2.whole = true) by
            by_cases h : q2 = 0
            · cases h2 : S2.whole
              · exact .inr (.inl ⟨h, rfl⟩)
              · exact .inr (.inr ⟨h, rfl⟩)
            · exact .inl (by simp [h])) with h2n | ⟨rfl, h2w⟩ | ⟨rfl, h2w⟩
        · obtain ⟨a0, _, _, _, a36, _⟩ := HR15.out.1.cells
          obtain ⟨b0, _, _, _, b36, _⟩ := HR2.out.cells
          have hlA := HR15.out.1.lt
          have hlB := HR2.out.lt
          rw [h1w] at a36
          clear b36
          go_quiet (fail)
          clear a0 b0 hlA hlB a36
          go_wp2_with fail
          go_meet
          case rel => exact ⟨by rw [← hb1, h1w]; rfl, by rw [← hb2]; simp [of_decide_eq_false (show decide (q2 = 0) = false by simpa using h2n)], below_drewN (Below.refl _ _) _, rfl⟩
        · obtain ⟨a0, _, _, _, a36, _⟩ := HR15.out.1.cells
          obtain ⟨b0, _, _, _, b36, _⟩ := HR2.out.cells
          have hlA := HR15.out.1.lt
          have hlB := HR2.out.lt
          rw [h1w] at a36
          rw [h2w] at b36
          go_quiet (fail)
          clear a0 b0 hlA hlB a36 b36
          go_wp2_with fail
          go_meet
          case rel => exact ⟨by rw [← hb1, h1w]; rfl, by rw [← hb2, h2w]; rfl, below_drewN (Below.refl _ _) _, rfl⟩
        · obtain ⟨a0, _, _, _, a36, _⟩ := HR15.out.1.cells
          obtain ⟨b0, _, _, _, b36, _⟩ := HR2.out.cells
          have hlA := HR15.out.1.lt
          have hlB := HR2.out.lt
          rw [h1w] at a36
          rw [h2w] at b36
          go_quiet (fail)
          clear a0 b0 hlA hlB a36 b36
          go_wp2_with fail
          go_meet
          case rel => exact ⟨by rw [← hb1, h1w]; rfl, by rw [← hb2, h2w]; rfl, below_drewN (Below.refl _ _) _, rfl⟩
    case rest =>
      obtain ⟨rfl, rfl, hbc, hsz⟩ := hcut
      have HBw : Hid (Below W.heap.size W wc) := hbc
      have HSz : Hid (wc.heap.size = W.heap.size) := hsz
      clear hbc hsz
      by_cases hw : A.2.whole = true
      · have hbb : b1 = true ∨ b2 = true := by
          cases b1 with
          | true => exact .inl rfl
          | false =>
            cases b2 with
            | true => exact .inr rfl
            | false => rw [hN, if_neg (fun e => by cases e.1), if_neg (fun e => by cases e)] at hw; cases hw
        go_upto_region 7 with fail
        go_cut [51] (fun f3 wd => f3 = .bool false ∧ wd = wc)
        case first =>
          cases b1 with
          | true =>
            go_wp2_with fail
            go_meet
            case rel => exact ⟨rfl, rfl⟩
          | false =>
            rcases hbb with hbb | hbb
            · cases hbb
            · subst hbb
              go_wp2_with fail
              go_meet
              case rel => exact ⟨rfl, rfl⟩
        case rest =>
          obtain ⟨rfl, rfl⟩ := hcut
          go_upto_region 10 with fail
          have HB7 : Hid (Below W.heap.size W (wc.alloc (.cells #[.string ⟨#[]⟩, .int .i64 0, .string ⟨#[]⟩, .int .i64 0, .int .i64 0, .int .i64 0, .int .i64 0, .int .i64 0, .int .i64 0, .int .i64 0, .int .i64 0, .int .i64 0, .int .i64 0, .int .i64 0, .int .i64 0, .int .i64 0, .int .i64 0, .int .i64 0, .int .i64 0, .int .i64 0, .int .i64 0, .int .i64 0, .int .i64 0, .slice none 0 0, .slice none 0 0, .int .i64 0, .bool false, .int .i64 0, .int .i64 0, .bool false, .bool false] 96))) := HBw.out.alloc (Nat.le_of_eq HSz.out.symm) _
          have HS7 : Hid (RsAt (wc.alloc (.cells #[.string ⟨#[]⟩, .int .i64 0, .string ⟨#[]⟩, .int .i64 0, .int .i64 0, .int .i64 0, .int .i64 0, .int .i64 0, .int .i64 0, .int .i64 0, .int .i64 0, .int .i64 0, .int .i64 0, .int .i64 0, .int .i64 0, .int .i64 0, .int .i64 0, .int .i64 0, .int .i64 0, .int .i64 0, .int .i64 0, .int .i64 0, .int .i64 0, .slice none 0 0, .slice none 0 0, .int .i64 0, .bool false, .int .i64 0, .int .i64 0, .bool false, .bool false] 96)) wc.heap.size (rsL ⟨#[]⟩ 0 ⟨#[]⟩ 0 0 0 0 (List.replicate 16 0) (.slice none 0 0) (.slice none 0 0) 0)) := by
            show _ = _
            rw [rs_zero]
            exact heap_alloc_new wc _
          have HZ7 : Hid ((wc.alloc (.cells #[.string ⟨#[]⟩, .int .i64 0, .string ⟨#[]⟩, .int .i64 0, .int .i64 0, .int .i64 0, .int .i64 0, .int .i64 0, .int .i64 0, .int .i64 0, .int .i64 0, .int .i64 0, .int .i64 0, .int .i64 0, .int .i64 0, .int .i64 0, .int .i64 0, .int .i64 0, .int .i64 0, .int .i64 0, .int .i64 0, .int .i64 0, .int .i64 0, .slice none 0 0, .slice none 0 0, .int .i64 0, .bool false, .int .i64 0, .int .i64 0, .bool false, .bool false] 96)).heap.size = wc.heap.size + 1) := by show _ = _; simp
          generalize wc.alloc (.cells #[.string ⟨#[]⟩, .int .i64 0, .string ⟨#[]⟩, .int .i64 0, .int .i64 0, .int .i64 0, .int .i64 0, .int .i64 0, .int .i64 0, .int .i64 0, .int .i64 0, .int .i64 0, .int .i64 0, .int .i64 0, .int .i64 0, .int .i64 0, .int .i64 0, .int .i64 0, .int .i64 0, .int .i64 0, .int .i64 0, .int .i64 0, .int .i64 0, .slice none 0 0, .slice none 0 0, .int .i64 0, .bool false, .int .i64 0, .int .i64 0, .bool false, .bool false] 96) = w7 at HB7 HS7 HZ7 ⊢
          rw [HSz.out] at HS7 HZ7 ⊢
          have HA7 : Hid (w7.rangeAt gA 0 (rlC S1 a1 e1)) := (HR15.out.1.1.below HB7.out HR15.out.1.lt).all
          have HB8 : Hid (Below W.heap.size W (w7.alloc (.cells (rlC S1 a1 e1).toArray 82))) := HB7.out.alloc HB7.out.size _
          have HL8 : Hid (LgAt (w7.alloc (.cells (rlC S1 a1 e1).toArray 82)) w7.heap.size (rlC S1 a1 e1)) := heap_alloc_new w7 _
          have HS8 : Hid (RsAt (w7.alloc (.cells (rlC S1 a1 e1).toArray 82)) W.heap.size (rsL ⟨#[]⟩ 0 ⟨#[]⟩ 0 0 0 0 (List.replicate 16 0) (.slice none 0 0) (.slice none 0 0) 0)) := HS7.out.below ((Below.refl _ w7).alloc (Nat.le_refl _) _) HS7.out.lt
          go_upto_region 11 with (first | refine wpList_load_mid rfl 82 _ rfl gA 0 rfl (rlC S1 a1 e1) _ HA7.out Try.underlying82 rfl HI1.out.2.2.2 ?_ | refine wpList_store_new rfl 82 _ _ rfl _ (rlC S1 a1 e1).toArray (by rfl) (by rfl) HI1.out.1 (by exact HI1.out.2.1) HI1.out.2.2.1 ?_)
          generalize w7.alloc (.cells (rlC S1 a1 e1).toArray 82) = w8 at HB8 HL8 HS8 ⊢
          rw [HZ7.out] at HL8 ⊢
          clear HA7 HS7 HB7
          simp only [Act.put, List.setIfInBounds_toArray, List.set_cons_zero, List.set_cons_succ]
          go_cut [66] (fun f4 wd => f4 = .bool (decide (A.1 = 1)) ∧ wd = w8 ∧ (A = (1, S2) ∨ A = (0, S1)))
          case first =>
            obtain ⟨a0, _⟩ := (HR15.out.1.next HB8.out).cells
            obtain ⟨b0, _⟩ := (HR2.out.next HB8.out).cells
            have hlA := (HR15.out.1.next HB8.out).lt
            have hlB := (HR2.out.next HB8.out).lt
            cases b1 with
            | true =>
              cases b2 with
              | true =>
                by_cases hlt : S1.gen < S2.gen
                · have hlti : (S1.gen : Int) < (S2.gen : Int) := by omega
                  have hA2 : A = (1, S2) := by rw [hN, if_pos ⟨rfl, fun _ => hlt⟩]
                  go_wp2_with fail
                  go_meet
                  case rel => exact ⟨by rw [hA2]; rfl, rfl, .inl hA2⟩
                · have hlti : ¬ (S1.gen : Int) < (S2.gen : Int) := by omega
                  have hA2 : A = (0, S1) := by rw [hN, if_neg (fun e => hlt (e.2 rfl)), if_pos rfl]
                  go_wp2_with fail
                  go_meet
                  case rel => exact ⟨by rw [hA2]; rfl, rfl, .inr hA2⟩
              | false =>
                have hA2 : A = (0, S1) := by rw [hN, if_neg (fun e => by cases e.1), if_pos rfl]
                go_wp2_with fail
                go_meet
                case rel => exact ⟨by rw [hA2]; rfl, rfl, .inr hA2⟩
            | false =>
              rcases hbb with hbb | hbb
              · cases hbb
              · subst hbb
                have hA2 : A = (1, S2) := by rw [hN, if_pos ⟨rfl, fun e => by cases e⟩]
                go_wp2_with fail
                go_meet
                case rel => exact ⟨by rw [hA2]; rfl, rfl, .inl hA2⟩
          case rest =>
            obtain ⟨rfl, rfl, hA12⟩ := hcut
            go_upto_if 66 with fail
            go_cut [] (fun wc => ∃ (a : Option Addr) (c : Nat), RsAt wc W.heap.size (rsL ⟨#[]⟩ 0 ⟨#[]⟩ 0 (A.1 : Nat) 0 0 (List.replicate 16 0) (.slice none 0 0) (.slice none 0 0) 0) ∧ LgAt wc (W.heap.size + 1) (rlC A.2 a c) ∧ (RevsAt W W.heap.size a A.2.revs ∧ A.2.revs.length ≤ c) ∧ Below W.heap.size W wc)
            case first =>
              rcases hA12 with hA2 | hA2
              · rw [hA2]
                have HRg : Hid (wc.rangeAt gB 0 (rlC S2 a2 e2)) := (HR2.out.1.below HB8.out HR2.out.lt).all
                have HRn : Hid (∀ w', Below W.heap.size W w' → w'.rangeAt gB 0 (rlC S2 a2 e2)) := fun w' hb => (HR2.out.1.below hb HR2.out.lt).all
                go_upto_region 12 with fail
                refine wp_region_held_drew (S := fun w' => w'.rangeAt gB 0 (rlC S2 a2 e2)) (by kernel_rfl) (HRn.out _ HB8.out.drew) (fun hHeld => ?_)
                refine wpAnyH_take (i := 0) (v := .pointer (some ⟨W.heap.size, 0, none⟩)) rfl (by kernel_rfl) (by kernel_rfl) (by kernel_rfl) (fun _ _ _ h => h) (Or.inl ⟨by kernel_rfl, fun w' hSw => by skip; first | (go_simp; done) | (go_simp; rfl)⟩) hHeld ?_
                simp only [Act.put, List.setIfInBounds_toArray, List.set_cons_zero, List.set_cons_succ]
                refine wpAnyH_take (i := 1) rfl (by kernel_rfl) (by kernel_rfl) (by kernel_rfl) (fun _ _ _ h => h) (yieldsIf_load_mid (by kernel_rfl) 82 _ rfl gB 0 rfl (rlC S2 a2 e2) _ (fun w h => h) Try.underlying82 rfl HI2.out.2.2.2) hHeld ?_
                simp only [Act.put, List.setIfInBounds_toArray, List.set_cons_zero, List.set_cons_succ]
                refine wpAnyH_take (i := 2) (v := .pointer (some ⟨W.heap.size, 0, none⟩)) rfl (by kernel_rfl) (by kernel_rfl) (by kernel_rfl) (fun _ _ _ h => h) (Or.inl ⟨by kernel_rfl, fun w' hSw => by skip; first | (go_simp; done) | (go_simp; rfl)⟩) hHeld ?_
                simp only [Act.put, List.setIfInBounds_toArray, List.set_cons_zero, List.set_cons_succ]
                refine wpAnyH_take (i := 3) (v := .pointer (some ⟨W.heap.size, 4, none⟩)) rfl (by kernel_rfl) (by kernel_rfl) (by kernel_rfl) (fun _ _ _ h => h) (Or.inl ⟨by kernel_rfl, fun w' hSw => by skip; first | (go_simp; done) | (go_simp; rfl)⟩) hHeld ?_
                simp only [Act.put, List.setIfInBounds_toArray, List.set_cons_zero, List.set_cons_succ]
                have d4 : wc.cell? ⟨W.heap.size, 4, none⟩ = some (.int .i64 0) := HS8.out.cell rfl
                have f4 := HS8.out.free 4
                have hSl := HS8.out.lt
                refine wpAnyH_ready (rs := [4]) (by kernel_rfl) (by simp) ?_
                refine AllReadyH.cons rfl (fun K hK => ?_) AllReadyH.nil
                go_simp
                have HB9 : Hid (Below W.heap.size W ((wc.setCell ⟨W.heap.size, 4, none⟩ (.int .i64 1)).drew)) := (HB8.out.setCell (p := ⟨W.heap.size, 4, none⟩) (Nat.le_refl _) _).drew
                have HS9 : Hid (RsAt ((wc.setCell ⟨W.heap.size, 4, none⟩ (.int .i64 1)).drew) W.heap.size (rsL ⟨#[]⟩ 0 ⟨#[]⟩ 0 1 0 0 (List.replicate 16 0) (.slice none 0 0) (.slice none 0 0) 0)) := RsAt.put (w := wc) HS8.out 4 _
                have HL9 : Hid (LgAt ((wc.setCell ⟨W.heap.size, 4, none⟩ (.int .i64 1)).drew) (W.heap.size + 1) (rlC S1 a1 e1)) := LgAt.other (w := wc) HL8.out _ (by simp)
                refine hK.out _ _ (HRn.out _ HB9.out) (fun hHeld4 => ?_)
                clear hK K d4 f4 hSl
                try simp only [Act.put, List.setIfInBounds_toArray, List.set_cons_zero, List.set_cons_succ]
                generalize (wc.setCell ⟨W.heap.size, 4, none⟩ (.int .i64 1)).drew = w9 at HB9 HS9 HL9 hHeld4 ⊢
                have HTh : Hid (w9.there (W.heap.size + 1) 0 (rlC S2 a2 e2).toArray.size) := by
                  show w9.there _ _ _
                  refine HL9.out.there ?_
                  rw [Nat.zero_add, List.size_toArray, HR2.out.into, HR15.out.1.into]
                  exact Nat.le_refl _
                have HBx : Hid (Below W.heap.size W (w9.setCells (W.heap.size + 1) 0 (rlC S2 a2 e2).toArray.toList)) := below_cells (Nat.le_succ _) _ _ _ HB9.out
                have HSx : Hid (RsAt (w9.setCells (W.heap.size + 1) 0 (rlC S2 a2 e2).toArray.toList) W.heap.size (rsL ⟨#[]⟩ 0 ⟨#[]⟩ 0 1 0 0 (List.replicate 16 0) (.slice none 0 0) (.slice none 0 0) 0)) := RsAt.aside (by simp) _ _ _ HS9.out
                have HLx : Hid (LgAt (w9.setCells (W.heap.size + 1) 0 (rlC S2 a2 e2).toArray.toList) (W.heap.size + 1) (rlC S2 a2 e2)) := by
                  have h2 := LgAt.puts (rlC S2 a2 e2).toArray.toList w9 (rlC S1 a1 e1) 0 HL9.out
                  rw [setL_all (by rw [List.toList_toArray, HR2.out.into, HR15.out.1.into]), List.toList_toArray] at h2
                  rw [List.toList_toArray]
                  exact h2
                refine wpAnyH_ready (rs := [5]) (by kernel_rfl) (by simp) ?_
                refine AllReadyH.cons rfl (fun K hK => ?_) AllReadyH.nil
                refine (if_pos (by kernel_rfl)).mpr ?_
                refine wp_store_mid 82 _ _ rfl (W.heap.size + 1) 0 (rlC S2 a2 e2).toArray rfl rfl HTh.out HI2.out.1 HI2.out.2.2.1 ?_
                generalize w9.setCells (W.heap.size + 1) 0 (rlC S2 a2 e2).toArray.toList = wx at HBx HSx HLx ⊢
                refine hK.out _ _ (HRn.out _ HBx.out) (fun hHeld5 => ?_)
                clear hK K
                try simp only [Act.put, List.setIfInBounds_toArray, List.set_cons_zero, List.set_cons_succ]
                refine wpAnyH_done (by kernel_rfl) ?_ _
                go_wp2_with fail
                go_meet
                case rel => exact ⟨a2, e2, by rw [hA2]; exact HSx.out, by rw [hA2]; exact HLx.out, by rw [hA2]; exact HR2.out.revs, HBx.out⟩
              · rw [hA2]
                go_wp2_with fail
                go_meet
                case rel => exact ⟨a1, e1, by rw [hA2]; exact HS8.out, by rw [hA2]; exact HL8.out, by rw [hA2]; exact HR15.out.1.revs, HB8.out⟩
            case rest =>
              obtain ⟨a, c, hs, hl, ⟨hr, hrc⟩, hb⟩ := hcut
              obtain ⟨k, S⟩ := A
              simp only at hs hl hr hrc hw
              obtain ⟨P, hP, hgd, hok⟩ : ∃ P, ((k = 0 ∧ P = p) ∨ (k = 1 ∧ P = q)) ∧ S.good ≤ P.size ∧ ∃ n, LOk S n := by
                rcases hA12 with e | e
                · obtain ⟨rfl, rfl⟩ := Prod.mk.inj e
                  have hq0 : q2 = 0 := by
                    by_cases h : q2 = 0
                    · exact h
                    · rw [hsb h] at hw; cases hw
                  exact ⟨q, .inr ⟨rfl, rfl⟩, HG.out.2 hq0⟩
                · obtain ⟨rfl, rfl⟩ := Prod.mk.inj e
                  have hq0 : q1 = 0 := by
                    by_cases h : q1 = 0
                    · exact h
                    · rw [hsa h] at hw; cases hw
                  exact ⟨p, .inl ⟨rfl, rfl⟩, HG.out.1 hq0⟩
              obtain ⟨nn, ok⟩ := hok
              obtain ⟨G, hG⟩ : ∃ G, W.heap.size = G := ⟨_, rfl⟩
              rw [hG] at hs hl hr hb ⊢
              have hk1 : k ≤ 1 := by omega
              have hcP : wc.cell? ⟨D, k * 2, none⟩ = some (.string P) := by
                have hd := (HD5.out.1.below hb (by rw [← hG]; exact HD5.out.1.lt)).cells
                rcases hP with ⟨rfl, rfl⟩ | ⟨rfl, rfl⟩
                · exact hd.1
                · exact hd.2.2.1
              have HS : Hid (RsAt wc G (rsL ⟨#[]⟩ 0 ⟨#[]⟩ 0 (k : Nat) 0 0 (List.replicate 16 0) (.slice none 0 0) (.slice none 0 0) 0)) := hs
              have HL : Hid (LgAt wc (G + 1) (rlC S a c)) := hl
              have HRv : Hid (RevsAt W G a S.revs ∧ S.revs.length ≤ c) := ⟨hr, hrc⟩
              have HB : Hid (Below G W wc) := hb
              have HD : Hid (D < G) := by rw [← hG]; exact HD5.out.1.lt
              have HPk : Hid (((k = 0 ∧ P = p) ∨ (k = 1 ∧ P = q)) ∧ (newN p.data.toList q.data.toList = (k, S)) ∧ S.whole = true ∧ W.heap.size = G) := ⟨hP, HA.out, hw, hG⟩
              have HOK : Hid (LOk S nn) := ok
              have hsz : P.size ≤ 9223372036854775807 := by rcases hP with ⟨_, rfl⟩ | ⟨_, rfl⟩ <;> omega
              have hgd2 : (S.good : Int) ≤ (P.size : Int) := by omega
              have hgd0 : (0 : Int) ≤ (S.good : Int) := by omega
              have q0 : (0 : Int) ≤ (k : Int) := by omega
              have q8 : (k : Int) < 2 := by omega
              have HSf : Hid _ := fun w => Rsafe_any (P.extract 0 S.good) w (by rw [ByteArray.size_extract]; omega)
              have HHd : Hid (∀ w', Below wc.heap.size wc w' → w'.cell? ⟨G, 4, none⟩ = some (.int .i64 (k : Int)) ∧ w'.cell? ⟨D, k * 2, none⟩ = some (.string P) ∧ w'.cell? ⟨G + 1, 37, none⟩ = some (.int .i64 (S.good : Int))) := by
                intro w' hbb
                refine ⟨(HS.out.below hbb HS.out.lt).cell rfl, (hbb.cell (p := ⟨D, k * 2, none⟩) (by have := HD.out; have := HS.out.lt; dsimp only; omega)).trans hcP, (lg_held (HL.out.below hbb HL.out.lt) HOK.out.first HOK.out.table).2.1⟩
              clear hs hl hr hrc hb hG hP hcP ok hN hA12 HA HG hsa hsb HR2 HR15 HI1 HI2 hw HB8 HL8 HS8
              go_upto_region 13 with fail
              refine wp_region_held_drew (S := fun w' => w'.cell? ⟨G, 4, none⟩ = some (.int .i64 (k : Int)) ∧ w'.cell? ⟨D, k * 2, none⟩ = some (.string P) ∧ w'.cell? ⟨G + 1, 37, none⟩ = some (.int .i64 (S.good : Int))) (by kernel_rfl) (HHd.out _ (Below.refl _ wc).drew) (fun hHeld => ?_)
              refine wpAnyH_take (i := 0) (v := .pointer (some ⟨G, 0, none⟩)) rfl (by kernel_rfl) (by kernel_rfl) (by kernel_rfl) (fun _ _ _ h => h) (Or.inl ⟨by kernel_rfl, fun w' hSw => by obtain ⟨s0, s1, s2⟩ := hSw; first | (go_simp; done) | (go_simp; rfl)⟩) hHeld ?_
              try simp only [Act.put, List.setIfInBounds_toArray, List.set_cons_zero, List.set_cons_succ]
              refine wpAnyH_take (i := 1) (v := .pointer (some ⟨G, 0, none⟩)) rfl (by kernel_rfl) (by kernel_rfl) (by kernel_rfl) (fun _ _ _ h => h) (Or.inl ⟨by kernel_rfl, fun w' hSw => by obtain ⟨s0, s1, s2⟩ := hSw; first | (go_simp; done) | (go_simp; rfl)⟩) hHeld ?_
              try simp only [Act.put, List.setIfInBounds_toArray, List.set_cons_zero, List.set_cons_succ]
              refine wpAnyH_take (i := 2) (v := .pointer (some ⟨G, 0, none⟩)) rfl (by kernel_rfl) (by kernel_rfl) (by kernel_rfl) (fun _ _ _ h => h) (Or.inl ⟨by kernel_rfl, fun w' hSw => by obtain ⟨s0, s1, s2⟩ := hSw; first | (go_simp; done) | (go_simp; rfl)⟩) hHeld ?_
              try simp only [Act.put, List.setIfInBounds_toArray, List.set_cons_zero, List.set_cons_succ]
              refine wpAnyH_take (i := 3) (v := .pointer (some ⟨G, 4, none⟩)) rfl (by kernel_rfl) (by kernel_rfl) (by kernel_rfl) (fun _ _ _ h => h) (Or.inl ⟨by kernel_rfl, fun w' hSw => by obtain ⟨s0, s1, s2⟩ := hSw; first | (go_simp; done) | (go_simp; rfl)⟩) hHeld ?_
              try simp only [Act.put, List.setIfInBounds_toArray, List.set_cons_zero, List.set_cons_succ]
              refine wpAnyH_take (i := 4) (v := .int .i64 (k : Int)) rfl (by kernel_rfl) (by kernel_rfl) (by kernel_rfl) (fun _ _ _ h => h) (Or.inl ⟨by kernel_rfl, fun w' hSw => by obtain ⟨s0, s1, s2⟩ := hSw; first | (go_simp; done) | (go_simp; rfl)⟩) hHeld ?_
              try simp only [Act.put, List.setIfInBounds_toArray, List.set_cons_zero, List.set_cons_succ]
              refine wpAnyH_take (i := 5) (v := .pointer (some ⟨G, 0, none⟩)) rfl (by kernel_rfl) (by kernel_rfl) (by kernel_rfl) (fun _ _ _ h => h) (Or.inl ⟨by kernel_rfl, fun w' hSw => by obtain ⟨s0, s1, s2⟩ := hSw; first | (go_simp; done) | (go_simp; rfl)⟩) hHeld ?_
              try simp only [Act.put, List.setIfInBounds_toArray, List.set_cons_zero, List.set_cons_succ]
              refine wpAnyH_take (i := 6) (v := .pointer (some ⟨G, 0, none⟩)) rfl (by kernel_rfl) (by kernel_rfl) (by kernel_rfl) (fun _ _ _ h => h) (Or.inl ⟨by kernel_rfl, fun w' hSw => by obtain ⟨s0, s1, s2⟩ := hSw; first | (go_simp; done) | (go_simp; rfl)⟩) hHeld ?_
              try simp only [Act.put, List.setIfInBounds_toArray, List.set_cons_zero, List.set_cons_succ]
              refine wpAnyH_take (i := 7) (v := .pointer (some ⟨G, 4, none⟩)) rfl (by kernel_rfl) (by kernel_rfl) (by kernel_rfl) (fun _ _ _ h => h) (Or.inl ⟨by kernel_rfl, fun w' hSw => by obtain ⟨s0, s1, s2⟩ := hSw; first | (go_simp; done) | (go_simp; rfl)⟩) hHeld ?_
              try simp only [Act.put, List.setIfInBounds_toArray, List.set_cons_zero, List.set_cons_succ]
              refine wpAnyH_take (i := 8) (v := .int .i64 (k : Int)) rfl (by kernel_rfl) (by kernel_rfl) (by kernel_rfl) (fun _ _ _ h => h) (Or.inl ⟨by kernel_rfl, fun w' hSw => by obtain ⟨s0, s1, s2⟩ := hSw; first | (go_simp; done) | (go_simp; rfl)⟩) hHeld ?_
              try simp only [Act.put, List.setIfInBounds_toArray, List.set_cons_zero, List.set_cons_succ]
              refine wpAnyH_take (i := 9) (v := .pointer (some ⟨D, 0, none⟩)) rfl (by kernel_rfl) (by kernel_rfl) (by kernel_rfl) (fun _ _ _ h => h) (Or.inl ⟨by kernel_rfl, fun w' hSw => by obtain ⟨s0, s1, s2⟩ := hSw; first | (go_simp; done) | (go_simp; rfl)⟩) hHeld ?_
              try simp only [Act.put, List.setIfInBounds_toArray, List.set_cons_zero, List.set_cons_succ]
              refine wpAnyH_take (i := 10) (v := .pointer (some ⟨D, k * 2, none⟩)) rfl (by kernel_rfl) (by kernel_rfl) (by kernel_rfl) (fun _ _ _ h => h) (Or.inl ⟨by kernel_rfl, fun w' hSw => by obtain ⟨s0, s1, s2⟩ := hSw; first | (go_simp; done) | (go_simp; rfl)⟩) hHeld ?_
              try simp only [Act.put, List.setIfInBounds_toArray, List.set_cons_zero, List.set_cons_succ]
              refine wpAnyH_take (i := 11) (v := .pointer (some ⟨D, k * 2, none⟩)) rfl (by kernel_rfl) (by kernel_rfl) (by kernel_rfl) (fun _ _ _ h => h) (Or.inl ⟨by kernel_rfl, fun w' hSw => by obtain ⟨s0, s1, s2⟩ := hSw; first | (go_simp; done) | (go_simp; rfl)⟩) hHeld ?_
              try simp only [Act.put, List.setIfInBounds_toArray, List.set_cons_zero, List.set_cons_succ]
              refine wpAnyH_take (i := 12) (v := .string P) rfl (by kernel_rfl) (by kernel_rfl) (by kernel_rfl) (fun _ _ _ h => h) (Or.inl ⟨by kernel_rfl, fun w' hSw => by obtain ⟨s0, s1, s2⟩ := hSw; first | (go_simp; done) | (go_simp; rfl)⟩) hHeld ?_
              try simp only [Act.put, List.setIfInBounds_toArray, List.set_cons_zero, List.set_cons_succ]
              refine wpAnyH_take (i := 13) (v := .pointer (some ⟨G + 1, 37, none⟩)) rfl (by kernel_rfl) (by kernel_rfl) (by kernel_rfl) (fun _ _ _ h => h) (Or.inl ⟨by kernel_rfl, fun w' hSw => by obtain ⟨s0, s1, s2⟩ := hSw; first | (go_simp; done) | (go_simp; rfl)⟩) hHeld ?_
              try simp only [Act.put, List.setIfInBounds_toArray, List.set_cons_zero, List.set_cons_succ]
              refine wpAnyH_take (i := 14) (v := .int .i64 (S.good : Int)) rfl (by kernel_rfl) (by kernel_rfl) (by kernel_rfl) (fun _ _ _ h => h) (Or.inl ⟨by kernel_rfl, fun w' hSw => by obtain ⟨s0, s1, s2⟩ := hSw; first | (go_simp; done) | (go_simp; rfl)⟩) hHeld ?_
              try simp only [Act.put, List.setIfInBounds_toArray, List.set_cons_zero, List.set_cons_succ]
              refine wpAnyH_take (i := 15) (v := .string (P.extract 0 S.good)) rfl (by kernel_rfl) (by kernel_rfl) (by kernel_rfl) (fun _ _ _ h => h) (Or.inl ⟨by kernel_rfl, fun w' hSw => by obtain ⟨s0, s1, s2⟩ := hSw; first | (go_simp; done) | (go_simp; rfl)⟩) hHeld ?_
              try simp only [Act.put, List.setIfInBounds_toArray, List.set_cons_zero, List.set_cons_succ]
              refine wpAnyH_take (i := 17) (v := .pointer (some ⟨G, 0, none⟩)) rfl (by kernel_rfl) (by kernel_rfl) (by kernel_rfl) (fun _ _ _ h => h) (Or.inl ⟨by kernel_rfl, fun w' hSw => by obtain ⟨s0, s1, s2⟩ := hSw; first | (go_simp; done) | (go_simp; rfl)⟩) hHeld ?_
              try simp only [Act.put, List.setIfInBounds_toArray, List.set_cons_zero, List.set_cons_succ]
              refine wpAnyH_take (i := 18) (v := .pointer (some ⟨G, 0, none⟩)) rfl (by kernel_rfl) (by kernel_rfl) (by kernel_rfl) (fun _ _ _ h => h) (Or.inl ⟨by kernel_rfl, fun w' hSw => by obtain ⟨s0, s1, s2⟩ := hSw; first | (go_simp; done) | (go_simp; rfl)⟩) hHeld ?_
              try simp only [Act.put, List.setIfInBounds_toArray, List.set_cons_zero, List.set_cons_succ]
              refine wpAnyH_take (i := 19) (v := .pointer (some ⟨G, 0, none⟩)) rfl (by kernel_rfl) (by kernel_rfl) (by kernel_rfl) (fun _ _ _ h => h) (Or.inl ⟨by kernel_rfl, fun w' hSw => by obtain ⟨s0, s1, s2⟩ := hSw; first | (go_simp; done) | (go_simp; rfl)⟩) hHeld ?_
              try simp only [Act.put, List.setIfInBounds_toArray, List.set_cons_zero, List.set_cons_succ]
              refine wpAnyH_ready (rs := [16]) (by kernel_rfl) (by simp) ?_
              refine AllReadyH.cons rfl (fun K hK => ?_) AllReadyH.nil
              go_simp
              with_reducible refine (HSf.out _).mono ?_
              rintro e w4 ⟨rfl, hb4⟩
              have HB4 : Hid (Below wc.heap.size wc w4) := ((Below.refl wc.heap.size wc).drew).trans hb4
              clear hb4
              go_wp2_with fail
              refine hK.out _ _ (HHd.out _ HB4.out) (fun hHeld4 => ?_)
              clear hK K
              try simp only [Act.put, List.setIfInBounds_toArray, List.set_cons_zero, List.set_cons_succ]
              refine wpAnyH_take (i := 20) (v := .pointer (some ⟨G, k * 2, none⟩)) rfl (by kernel_rfl) (by kernel_rfl) (by kernel_rfl) (fun _ _ _ h => h) (Or.inl ⟨by kernel_rfl, fun w' hSw => by obtain ⟨s0, s1, s2⟩ := hSw; first | (go_simp; done) | (go_simp; rfl)⟩) hHeld4 ?_
              try simp only [Act.put, List.setIfInBounds_toArray, List.set_cons_zero, List.set_cons_succ]
              have HS4 : Hid (RsAt w4 G (rsL ⟨#[]⟩ 0 ⟨#[]⟩ 0 (k : Nat) 0 0 (List.replicate 16 0) (.slice none 0 0) (.slice none 0 0) 0)) := HS.out.below HB4.out HS.out.lt
              have HL4 : Hid (LgAt w4 (G + 1) (rlC S a c)) := HL.out.below HB4.out HL.out.lt
              have HB4G : Hid (Below G W w4) := HB.out.trans (HB4.out.mono (by have := HS.out.lt; omega))
              obtain ⟨t1, t2⟩ := rs_two hk1 (k : Nat)
              replace t1 := HS4.out.cell t1
              replace t2 := HS4.out.cell t2
              have f1 := HS4.out.free (k * 2)
              have f2 := HS4.out.free (k * 2 + 1)
              have hSl := HS4.out.lt
              refine wpAnyH_ready (rs := [21]) (by kernel_rfl) (by simp) ?_
              refine AllReadyH.cons rfl (fun K hK => ?_) AllReadyH.nil
              go_simp
              have HS5 : Hid (RsAt ((w4.setCell ⟨G, k * 2, none⟩ (.string (P.extract 0 S.good))).setCell ⟨G, k * 2 + 1, none⟩ (.int .i64 (S.good : Int))) G (rsL (kP k (P.extract 0 S.good)) (kX k (S.good : Int)) (kP (1 - k) (P.extract 0 S.good)) (kX (1 - k) (S.good : Int)) (k : Nat) 0 0 (List.replicate 16 0) (.slice none 0 0) (.slice none 0 0) 0)) := by
                have h := (HS4.out.put (k * 2) (.string (P.extract 0 S.good))).put (k * 2 + 1) (.int .i64 (S.good : Int))
                rw [rs_put hk1] at h
                exact h
              have HL5 : Hid (LgAt ((w4.setCell ⟨G, k * 2, none⟩ (.string (P.extract 0 S.good))).setCell ⟨G, k * 2 + 1, none⟩ (.int .i64 (S.good : Int))) (G + 1) (rlC S a c)) := (HL4.out.other _ (by simp)).other _ (by simp)
              have HB5 : Hid (Below G W ((w4.setCell ⟨G, k * 2, none⟩ (.string (P.extract 0 S.good))).setCell ⟨G, k * 2 + 1, none⟩ (.int .i64 (S.good : Int)))) := (HB4G.out.setCell (p := ⟨G, k * 2, none⟩) (Nat.le_refl _) _).setCell (p := ⟨G, k * 2 + 1, none⟩) (Nat.le_refl _) _
              have hX5 : ((w4.setCell ⟨G, k * 2, none⟩ (.string (P.extract 0 S.good))).setCell ⟨G, k * 2 + 1, none⟩ (.int .i64 (S.good : Int))).cell? ⟨G, 4, none⟩ = some (.int .i64 (k : Int)) ∧ ((w4.setCell ⟨G, k * 2, none⟩ (.string (P.extract 0 S.good))).setCell ⟨G, k * 2 + 1, none⟩ (.int .i64 (S.good : Int))).cell? ⟨D, k * 2, none⟩ = some (.string P) ∧ ((w4.setCell ⟨G, k * 2, none⟩ (.string (P.extract 0 S.good))).setCell ⟨G, k * 2 + 1, none⟩ (.int .i64 (S.good : Int))).cell? ⟨G + 1, 37, none⟩ = some (.int .i64 (S.good : Int)) := by
                refine ⟨HS5.out.cell rfl, ?_, (lg_held HL5.out HOK.out.first HOK.out.table).2.1⟩
                have hb9 : Below G w4 ((w4.setCell ⟨G, k * 2, none⟩ (.string (P.extract 0 S.good))).setCell ⟨G, k * 2 + 1, none⟩ (.int .i64 (S.good : Int))) := ((Below.refl _ w4).setCell (p := ⟨G, k * 2, none⟩) (Nat.le_refl _) _).setCell (p := ⟨G, k * 2 + 1, none⟩) (Nat.le_refl _) _
                exact (hb9.cell (p := ⟨D, k * 2, none⟩) HD.out).trans (HHd.out _ HB4.out).2.1
              refine hK.out _ _ hX5 (fun hHeld5 => ?_)
              clear hK K hX5 t1 t2 f1 f2 hSl
              try simp only [Act.put, List.setIfInBounds_toArray, List.set_cons_zero, List.set_cons_succ]
              refine wpAnyH_done (by kernel_rfl) ?_ _
              generalize (w4.setCell ⟨G, k * 2, none⟩ (.string (P.extract 0 S.good))).setCell ⟨G, k * 2 + 1, none⟩ (.int .i64 (S.good : Int)) = w5 at HS5 HL5 HB5 ⊢
              clear hHeld hHeld4 hHeld5 HS4 HL4 HB4G HS HL HB HHd HB4 HSf hgd2 hgd0 q0 q8 hsz
              obtain ⟨tS, htS⟩ : ∃ tS, P.extract 0 S.good = tS := ⟨_, rfl⟩
              rw [htS] at HS5
              have HtS : Hid (P.extract 0 S.good = tS ∧ S.good ≤ P.size) := ⟨htS, hgd⟩
              clear htS hgd
              obtain ⟨J, hJ⟩ : ∃ J, jzC S.first = J := ⟨_, rfl⟩
              have HI16 : Hid ((Try.prog.info? 80).map (·.size) = some J.toArray.size ∧ J.toArray.all (·.oneCell') = true ∧ (Try.prog.info? 80).map (·.size) = some J.length) := by
                have e : J.length = 16 := by rw [← hJ, jzC_len]; exact HOK.out.first
                exact ⟨by rw [List.size_toArray, e]; exact infoTb, all_oneCell_toArray (by rw [← hJ]; exact jzC_one _), by rw [e]; exact infoTb⟩
              have HJE : Hid (jzC S.first = J) := hJ
              go_upto_region 14 with fail
              have HLd : Hid (∀ w', LgAt w' (G + 1) (rlC S a c) → w'.cell? ⟨G + 1, 0, none⟩ = some (.int .i64 S.gen) ∧ w'.cell? ⟨G + 1, 1, none⟩ = some (.int .i64 S.base) ∧ w'.cell? ⟨G + 1, 35, none⟩ = some (.slice a S.revs.length c) ∧ w'.rangeAt (G + 1) 3 J) := fun w' h => by
                have h2 := (lg_held h HOK.out.first HOK.out.table).1
                unfold LgS at h2
                rw [HJE.out] at h2
                exact h2
              clear hJ
              refine wp_region_held_drew (S := fun w' => w'.cell? ⟨G + 1, 0, none⟩ = some (.int .i64 S.gen) ∧ w'.cell? ⟨G + 1, 1, none⟩ = some (.int .i64 S.base) ∧ w'.cell? ⟨G + 1, 35, none⟩ = some (.slice a S.revs.length c) ∧ w'.rangeAt (G + 1) 3 J) (by kernel_rfl) (HLd.out _ (show LgAt w5.drew _ _ from HL5.out)) (fun hHeld => ?_)
              refine wpAnyH_take (i := 0) (v := .pointer (some ⟨G, 0, none⟩)) rfl (by kernel_rfl) (by kernel_rfl) (by kernel_rfl) (fun _ _ _ h => h) (Or.inl ⟨by kernel_rfl, fun w' hSw => by obtain ⟨s0, s1, s2, _⟩ := hSw; first | (go_simp; done) | (go_simp; rfl)⟩) hHeld ?_
              try simp only [Act.put, List.setIfInBounds_toArray, List.set_cons_zero, List.set_cons_succ]
              refine wpAnyH_take (i := 1) (v := .pointer (some ⟨G, 0, none⟩)) rfl (by kernel_rfl) (by kernel_rfl) (by kernel_rfl) (fun _ _ _ h => h) (Or.inl ⟨by kernel_rfl, fun w' hSw => by obtain ⟨s0, s1, s2, _⟩ := hSw; first | (go_simp; done) | (go_simp; rfl)⟩) hHeld ?_
              try simp only [Act.put, List.setIfInBounds_toArray, List.set_cons_zero, List.set_cons_succ]
              refine wpAnyH_take (i := 2) (v := .pointer (some ⟨G, 0, none⟩)) rfl (by kernel_rfl) (by kernel_rfl) (by kernel_rfl) (fun _ _ _ h => h) (Or.inl ⟨by kernel_rfl, fun w' hSw => by obtain ⟨s0, s1, s2, _⟩ := hSw; first | (go_simp; done) | (go_simp; rfl)⟩) hHeld ?_
              try simp only [Act.put, List.setIfInBounds_toArray, List.set_cons_zero, List.set_cons_succ]
              refine wpAnyH_take (i := 3) (v := .pointer (some ⟨G, 0, none⟩)) rfl (by kernel_rfl) (by kernel_rfl) (by kernel_rfl) (fun _ _ _ h => h) (Or.inl ⟨by kernel_rfl, fun w' hSw => by obtain ⟨s0, s1, s2, _⟩ := hSw; first | (go_simp; done) | (go_simp; rfl)⟩) hHeld ?_
              try simp only [Act.put, List.setIfInBounds_toArray, List.set_cons_zero, List.set_cons_succ]
              refine wpAnyH_take (i := 4) (v := .pointer (some ⟨G + 1, 0, none⟩)) rfl (by kernel_rfl) (by kernel_rfl) (by kernel_rfl) (fun _ _ _ h => h) (Or.inl ⟨by kernel_rfl, fun w' hSw => by obtain ⟨s0, s1, s2, _⟩ := hSw; first | (go_simp; done) | (go_simp; rfl)⟩) hHeld ?_
              try simp only [Act.put, List.setIfInBounds_toArray, List.set_cons_zero, List.set_cons_succ]
              refine wpAnyH_take (i := 5) (v := .int .i64 (S.gen : Int)) rfl (by kernel_rfl) (by kernel_rfl) (by kernel_rfl) (fun _ _ _ h => h) (Or.inl ⟨by kernel_rfl, fun w' hSw => by obtain ⟨s0, s1, s2, _⟩ := hSw; first | (go_simp; done) | (go_simp; rfl)⟩) hHeld ?_
              try simp only [Act.put, List.setIfInBounds_toArray, List.set_cons_zero, List.set_cons_succ]
              refine wpAnyH_take (i := 6) (v := .pointer (some ⟨G + 1, 1, none⟩)) rfl (by kernel_rfl) (by kernel_rfl) (by kernel_rfl) (fun _ _ _ h => h) (Or.inl ⟨by kernel_rfl, fun w' hSw => by obtain ⟨s0, s1, s2, _⟩ := hSw; first | (go_simp; done) | (go_simp; rfl)⟩) hHeld ?_
              try simp only [Act.put, List.setIfInBounds_toArray, List.set_cons_zero, List.set_cons_succ]
              refine wpAnyH_take (i := 7) (v := .int .i64 (S.base : Int)) rfl (by kernel_rfl) (by kernel_rfl) (by kernel_rfl) (fun _ _ _ h => h) (Or.inl ⟨by kernel_rfl, fun w' hSw => by obtain ⟨s0, s1, s2, _⟩ := hSw; first | (go_simp; done) | (go_simp; rfl)⟩) hHeld ?_
              try simp only [Act.put, List.setIfInBounds_toArray, List.set_cons_zero, List.set_cons_succ]
              refine wpAnyH_take (i := 8) (v := .pointer (some ⟨G + 1, 3, none⟩)) rfl (by kernel_rfl) (by kernel_rfl) (by kernel_rfl) (fun _ _ _ h => h) (Or.inl ⟨by kernel_rfl, fun w' hSw => by obtain ⟨s0, s1, s2, _⟩ := hSw; first | (go_simp; done) | (go_simp; rfl)⟩) hHeld ?_
              try simp only [Act.put, List.setIfInBounds_toArray, List.set_cons_zero, List.set_cons_succ]
              refine wpAnyH_take (i := 9) rfl (by kernel_rfl) (by kernel_rfl) (by kernel_rfl) (fun _ _ _ h => h) (yieldsIf_load_mid (by kernel_rfl) 80 (.tmp 100) rfl (G + 1) 3 (by kernel_rfl) J _ (fun w h => h.2.2.2) Try.underlying80 rfl HI16.out.2.2) hHeld ?_
              simp only [Act.put, List.setIfInBounds_toArray, List.set_cons_zero, List.set_cons_succ]
              refine wpAnyH_take (i := 10) (v := .pointer (some ⟨G + 1, 35, none⟩)) rfl (by kernel_rfl) (by kernel_rfl) (by kernel_rfl) (fun _ _ _ h => h) (Or.inl ⟨by kernel_rfl, fun w' hSw => by obtain ⟨s0, s1, s2, _⟩ := hSw; first | (go_simp; done) | (go_simp; rfl)⟩) hHeld ?_
              try simp only [Act.put, List.setIfInBounds_toArray, List.set_cons_zero, List.set_cons_succ]
              refine wpAnyH_take (i := 11) (v := .slice a S.revs.length c) rfl (by kernel_rfl) (by kernel_rfl) (by kernel_rfl) (fun _ _ _ h => h) (Or.inl ⟨by kernel_rfl, fun w' hSw => by obtain ⟨s0, s1, s2, _⟩ := hSw; first | (go_simp; done) | (go_simp; rfl)⟩) hHeld ?_
              try simp only [Act.put, List.setIfInBounds_toArray, List.set_cons_zero, List.set_cons_succ]
              refine wpAnyH_take (i := 12) (v := .pointer (some ⟨G, 0, none⟩)) rfl (by kernel_rfl) (by kernel_rfl) (by kernel_rfl) (fun _ _ _ h => h) (Or.inl ⟨by kernel_rfl, fun w' hSw => by obtain ⟨s0, s1, s2, _⟩ := hSw; first | (go_simp; done) | (go_simp; rfl)⟩) hHeld ?_
              try simp only [Act.put, List.setIfInBounds_toArray, List.set_cons_zero, List.set_cons_succ]
              refine wpAnyH_take (i := 13) (v := .pointer (some ⟨G, 5, none⟩)) rfl (by kernel_rfl) (by kernel_rfl) (by kernel_rfl) (fun _ _ _ h => h) (Or.inl ⟨by kernel_rfl, fun w' hSw => by obtain ⟨s0, s1, s2, _⟩ := hSw; first | (go_simp; done) | (go_simp; rfl)⟩) hHeld ?_
              try simp only [Act.put, List.setIfInBounds_toArray, List.set_cons_zero, List.set_cons_succ]
              have t5 : w5.cell? ⟨G, 5, none⟩ = some (.int .i64 0) := HS5.out.cell rfl
              have f5 := HS5.out.free 5
              have hSl := HS5.out.lt
              refine wpAnyH_ready (rs := [14]) (by kernel_rfl) (by simp) ?_
              refine AllReadyH.cons rfl (fun K hK => ?_) AllReadyH.nil
              go_simp
              have HS6 : Hid (RsAt ((w5.setCell ⟨G, 5, none⟩ (.int .i64 (S.gen : Int))).drew) G ((rsL (kP k tS) (kX k (S.good : Int)) (kP (1 - k) tS) (kX (1 - k) (S.good : Int)) (k : Nat) 0 0 (List.replicate 16 0) (.slice none 0 0) (.slice none 0 0) 0).set 5 (.int .i64 (S.gen : Int)))) := RsAt.put (w := w5) HS5.out 5 _
              have HL6 : Hid (LgAt ((w5.setCell ⟨G, 5, none⟩ (.int .i64 (S.gen : Int))).drew) (G + 1) (rlC S a c)) := LgAt.other (w := w5) HL5.out _ (by simp)
              have HB6 : Hid (Below G W ((w5.setCell ⟨G, 5, none⟩ (.int .i64 (S.gen : Int))).drew)) := (HB5.out.setCell (p := ⟨G, 5, none⟩) (Nat.le_refl _) _).drew
              refine hK.out _ _ (HLd.out _ HL6.out) (fun hHeld14 => ?_)
              clear hK K t5 f5 hSl
              try simp only [Act.put, List.setIfInBounds_toArray, List.set_cons_zero, List.set_cons_succ]
              generalize (w5.setCell ⟨G, 5, none⟩ (.int .i64 (S.gen : Int))).drew = w6 at HS6 HL6 HB6 hHeld14 ⊢
              clear HS5 HL5 HB5 hHeld
              refine wpAnyH_take (i := 15) (v := .pointer (some ⟨G, 0, none⟩)) rfl (by kernel_rfl) (by kernel_rfl) (by kernel_rfl) (fun _ _ _ h => h) (Or.inl ⟨by kernel_rfl, fun w' hSw => by obtain ⟨s0, s1, s2, _⟩ := hSw; first | (go_simp; done) | (go_simp; rfl)⟩) hHeld14 ?_
              try simp only [Act.put, List.setIfInBounds_toArray, List.set_cons_zero, List.set_cons_succ]
              refine wpAnyH_take (i := 16) (v := .pointer (some ⟨G, 6, none⟩)) rfl (by kernel_rfl) (by kernel_rfl) (by kernel_rfl) (fun _ _ _ h => h) (Or.inl ⟨by kernel_rfl, fun w' hSw => by obtain ⟨s0, s1, s2, _⟩ := hSw; first | (go_simp; done) | (go_simp; rfl)⟩) hHeld14 ?_
              try simp only [Act.put, List.setIfInBounds_toArray, List.set_cons_zero, List.set_cons_succ]
              have t6 : w6.cell? ⟨G, 6, none⟩ = some (.int .i64 0) := HS6.out.cell rfl
              have f6 := HS6.out.free 6
              have hSl := HS6.out.lt
              refine wpAnyH_ready (rs := [17]) (by kernel_rfl) (by simp) ?_
              refine AllReadyH.cons rfl (fun K hK => ?_) AllReadyH.nil
              go_simp
              have HS7 : Hid (RsAt (w6.setCell ⟨G, 6, none⟩ (.int .i64 (S.base : Int))) G (rsL (kP k tS) (kX k (S.good : Int)) (kP (1 - k) tS) (kX (1 - k) (S.good : Int)) (k : Nat) S.gen S.base (List.replicate 16 0) (.slice none 0 0) (.slice none 0 0) 0)) := HS6.out.put 6 _
              have HL7 : Hid (LgAt (w6.setCell ⟨G, 6, none⟩ (.int .i64 (S.base : Int))) (G + 1) (rlC S a c)) := HL6.out.other _ (by simp)
              have HB7 : Hid (Below G W (w6.setCell ⟨G, 6, none⟩ (.int .i64 (S.base : Int)))) := HB6.out.setCell (p := ⟨G, 6, none⟩) (Nat.le_refl _) _
              refine hK.out _ _ (HLd.out _ HL7.out) (fun hHeld17 => ?_)
              clear hK K t6 f6 hSl
              try simp only [Act.put, List.setIfInBounds_toArray, List.set_cons_zero, List.set_cons_succ]
              generalize w6.setCell ⟨G, 6, none⟩ (.int .i64 (S.base : Int)) = w7 at HS7 HL7 HB7 hHeld17 ⊢
              clear HS6 HL6 HB6 hHeld14
              refine wpAnyH_take (i := 18) (v := .pointer (some ⟨G, 0, none⟩)) rfl (by kernel_rfl) (by kernel_rfl) (by kernel_rfl) (fun _ _ _ h => h) (Or.inl ⟨by kernel_rfl, fun w' hSw => by obtain ⟨s0, s1, s2, _⟩ := hSw; first | (go_simp; done) | (go_simp; rfl)⟩) hHeld17 ?_
              try simp only [Act.put, List.setIfInBounds_toArray, List.set_cons_zero, List.set_cons_succ]
              refine wpAnyH_take (i := 19) (v := .pointer (some ⟨G, 7, none⟩)) rfl (by kernel_rfl) (by kernel_rfl) (by kernel_rfl) (fun _ _ _ h => h) (Or.inl ⟨by kernel_rfl, fun w' hSw => by obtain ⟨s0, s1, s2, _⟩ := hSw; first | (go_simp; done) | (go_simp; rfl)⟩) hHeld17 ?_
              try simp only [Act.put, List.setIfInBounds_toArray, List.set_cons_zero, List.set_cons_succ]
              have HJl : Hid (J.length = 16) := by show _ = _; rw [← HJE.out, jzC_len]; exact HOK.out.first
              have HTh : Hid (w7.there G 7 J.toArray.size) := by
                show w7.there _ _ _
                refine HS7.out.there ?_
                rw [List.size_toArray, HJl.out, (rsL_at (F := List.replicate 16 0) rfl).1]
                decide
              have HS8 : Hid (RsAt (w7.setCells G 7 J.toArray.toList) G (rsL (kP k tS) (kX k (S.good : Int)) (kP (1 - k) tS) (kX (1 - k) (S.good : Int)) (k : Nat) S.gen S.base S.first (.slice none 0 0) (.slice none 0 0) 0)) := by
                have h := RsAt.puts J.toArray.toList w7 _ 7 HS7.out
                rw [List.toList_toArray] at h ⊢
                rw [← HJE.out, rs_first rfl HOK.out.first, HJE.out] at h
                exact h
              have HL8 : Hid (LgAt (w7.setCells G 7 J.toArray.toList) (G + 1) (rlC S a c)) := LgAt.aside (by simp) _ _ _ HL7.out
              have HB8 : Hid (Below G W (w7.setCells G 7 J.toArray.toList)) := below_cells (Nat.le_refl _) _ _ _ HB7.out
              refine wpAnyH_ready (rs := [20]) (by kernel_rfl) (by simp) ?_
              refine AllReadyH.cons rfl (fun K hK => ?_) AllReadyH.nil
              refine (if_pos (by kernel_rfl)).mpr ?_
              refine wp_store_mid 80 (.tmp 109) (.tmp 101) rfl G 7 J.toArray (by kernel_rfl) (by kernel_rfl) HTh.out HI16.out.1 HI16.out.2.1 ?_
              generalize w7.setCells G 7 J.toArray.toList = w8 at HS8 HL8 HB8 ⊢
              refine hK.out _ _ (HLd.out _ HL8.out) (fun hHeld20 => ?_)
              clear hK K
              try simp only [Act.put, List.setIfInBounds_toArray, List.set_cons_zero, List.set_cons_succ]
              clear HS7 HL7 HB7 hHeld17 HTh
              refine wpAnyH_take (i := 21) (v := .pointer (some ⟨G, 0, none⟩)) rfl (by kernel_rfl) (by kernel_rfl) (by kernel_rfl) (fun _ _ _ h => h) (Or.inl ⟨by kernel_rfl, fun w' hSw => by obtain ⟨s0, s1, s2, _⟩ := hSw; first | (go_simp; done) | (go_simp; rfl)⟩) hHeld20 ?_
              try simp only [Act.put, List.setIfInBounds_toArray, List.set_cons_zero, List.set_cons_succ]
              refine wpAnyH_take (i := 22) (v := .pointer (some ⟨G, 24, none⟩)) rfl (by kernel_rfl) (by kernel_rfl) (by kernel_rfl) (fun _ _ _ h => h) (Or.inl ⟨by kernel_rfl, fun w' hSw => by obtain ⟨s0, s1, s2, _⟩ := hSw; first | (go_simp; done) | (go_simp; rfl)⟩) hHeld20 ?_
              try simp only [Act.put, List.setIfInBounds_toArray, List.set_cons_zero, List.set_cons_succ]
              have t24 : w8.cell? ⟨G, 24, none⟩ = some (.slice none 0 0) := HS8.out.cell (rsL_at HOK.out.first).2.2.1
              have f24 := HS8.out.free 24
              have hSl := HS8.out.lt
              refine wpAnyH_ready (rs := [23]) (by kernel_rfl) (by simp) ?_
              refine AllReadyH.cons rfl (fun K hK => ?_) AllReadyH.nil
              go_simp
              have HS9 : Hid (RsAt (w8.setCell ⟨G, 24, none⟩ (.slice a S.revs.length c)) G (rsL (kP k tS) (kX k (S.good : Int)) (kP (1 - k) tS) (kX (1 - k) (S.good : Int)) (k : Nat) S.gen S.base S.first (.slice none 0 0) (.slice a S.revs.length c) 0)) := by
                have h := HS8.out.put 24 (.slice a S.revs.length c)
                rw [(rs_set HOK.out.first).2.1] at h
                exact h
              have HL9 : Hid (LgAt (w8.setCell ⟨G, 24, none⟩ (.slice a S.revs.length c)) (G + 1) (rlC S a c)) := HL8.out.other _ (by simp)
              have HB9 : Hid (Below G W (w8.setCell ⟨G, 24, none⟩ (.slice a S.revs.length c))) := HB8.out.setCell (p := ⟨G, 24, none⟩) (Nat.le_refl _) _
              refine hK.out _ _ (HLd.out _ HL9.out) (fun hHeld23 => ?_)
              clear hK K t24 f24 hSl
              try simp only [Act.put, List.setIfInBounds_toArray, List.set_cons_zero, List.set_cons_succ]
              refine wpAnyH_done (by kernel_rfl) ?_ _
              generalize w8.setCell ⟨G, 24, none⟩ (.slice a S.revs.length c) = w9 at HS9 HL9 HB9 ⊢
              clear hHeld20 hHeld23 HS8 HL8 HB8 HLd HI16 HJE HJl
              have l2 := (lg_held HL9.out HOK.out.first HOK.out.table).2.2
              have l35 := (lg_held HL9.out HOK.out.first HOK.out.table).1.2.2.1
              have hLl := HL9.out.lt
              have HTx : Hid (∀ w, RevsAt w w.heap.size a S.revs → Calls Try.prog 42 #[.string ⟨S.text.toArray⟩, .slice a S.revs.length c] w fun e w' => ∃ v, e = .returned (.tuple #[v, .int .i64 (checkE S.text S.revs)]) ∧ w'.ownsRow w.heap.size 9 1 v (textsR S.text S.revs).length ((textsR S.text S.revs).map Value.string) ∧ Below w.heap.size w w') := by
                intro w h
                have h2 := RTexts_any ⟨S.text.toArray⟩ a S.revs c w h (by show S.text.toArray.size ≤ _; rw [List.size_toArray]; have := HOK.out.text; omega)
                rw [show (⟨S.text.toArray⟩ : ByteArray).data.toList = S.text by simp] at h2
                exact h2
              go_wp2_with fail
              with_reducible refine (HTx.out _ (HRv.out.1.here HB9.out (Nat.le_refl _))).mono ?_
              rintro e w10 ⟨tv, rfl, hto, hb10⟩
              obtain ⟨ta, tc, rfl⟩ := slice_form hto
              have HS10 : Hid (RsAt w10 G (rsL (kP k tS) (kX k (S.good : Int)) (kP (1 - k) tS) (kX (1 - k) (S.good : Int)) (k : Nat) S.gen S.base S.first (.slice none 0 0) (.slice a S.revs.length c) 0)) := HS9.out.below hb10 HS9.out.lt
              have HB10 : Hid (Below G W w10) := HB9.out.trans (hb10.mono (by have := HS9.out.lt; omega))
              have HTo : Hid (w10.ownsRow (G + 1) 9 1 (.slice ta (textsR S.text S.revs).length tc) (textsR S.text S.revs).length ((textsR S.text S.revs).map Value.string)) := rz_base hto HS9.out.lt
              clear hto hb10 l2 l35 hLl HTx HS9 HB9 HL9
              have t23 : w10.cell? ⟨G, 23, none⟩ = some (.slice none 0 0) := HS10.out.cell (rsL_at HOK.out.first).2.1
              have f23 := HS10.out.free 23
              have hSl := HS10.out.lt
              go_upto_region 16 with fail
              have HS11 : Hid (RsAt (w10.setCell ⟨G, 23, none⟩ (.slice ta (textsR S.text S.revs).length tc)) G (rsL (kP k tS) (kX k (S.good : Int)) (kP (1 - k) tS) (kX (1 - k) (S.good : Int)) (k : Nat) S.gen S.base S.first (.slice ta (textsR S.text S.revs).length tc) (.slice a S.revs.length c) 0)) := by
                have h := HS10.out.put 23 (.slice ta (textsR S.text S.revs).length tc)
                rw [(rs_set HOK.out.first).1] at h
                exact h
              have HB11 : Hid (Below G W (w10.setCell ⟨G, 23, none⟩ (.slice ta (textsR S.text S.revs).length tc))) := HB10.out.setCell (p := ⟨G, 23, none⟩) (Nat.le_refl _) _
              have HT11 : Hid ((w10.setCell ⟨G, 23, none⟩ (.slice ta (textsR S.text S.revs).length tc)).ownsRow (G + 1) 9 1 (.slice ta (textsR S.text S.revs).length tc) (textsR S.text S.revs).length ((textsR S.text S.revs).map Value.string)) := own_far HTo.out
              clear t23 f23 hSl HTo HS10 HB10
              generalize w10.setCell ⟨G, 23, none⟩ (.slice ta (textsR S.text S.revs).length tc) = w11 at HS11 HB11 HT11 ⊢
              have HR11 : Hid (RsOf w11 G (kP k tS) (kX k (S.good : Int)) (kP (1 - k) tS) (kX (1 - k) (S.good : Int)) S (textsR S.text S.revs) 0 (k : Nat) S.gen ta tc a c) := ⟨HS11.out, st_own HT11.out rfl (texts_small HOK.out), HRv.out.1.here HB11.out (Nat.le_refl _), HRv.out.2, HOK.out.first⟩
              have HHe : Hid _ := fun (_ : Unit) => RsHead_any G w11 HR11.out HOK.out.revs HOK.out.ends
              go_wp2_with fail
              with_reducible refine (HHe.out ()).mono ?_
              rintro e w12 ⟨rfl, hb12⟩
              have HS12 : Hid (RsAt w12 G (rsL (kP k tS) (kX k (S.good : Int)) (kP (1 - k) tS) (kX (1 - k) (S.good : Int)) (k : Nat) S.gen S.base S.first (.slice ta (textsR S.text S.revs).length tc) (.slice a S.revs.length c) 0)) := HS11.out.below hb12 HS11.out.lt
              have HT12 : Hid (w12.ownsRow (G + 1) 9 1 (.slice ta (textsR S.text S.revs).length tc) (textsR S.text S.revs).length ((textsR S.text S.revs).map Value.string)) := own_stay HT11.out hb12
              have HB12 : Hid (Below G W w12) := HB11.out.trans (hb12.mono (by have := HS11.out.lt; omega))
              clear hb12 HR11 HHe HS11 HT11 HB11
              have t25 : w12.cell? ⟨G, 25, none⟩ = some (.int .i64 0) := HS12.out.cell (rsL_at HOK.out.first).2.2.2
              have f25 := HS12.out.free 25
              have hSl := HS12.out.lt
              have HR13 : Hid (RsOf (w12.setCell ⟨G, 25, none⟩ (.int .i64 ((S.base + S.revs.length : Nat) : Int))) G (kP k tS) (kX k (S.good : Int)) (kP (1 - k) tS) (kX (1 - k) (S.good : Int)) S (textsR S.text S.revs) (S.base + S.revs.length) (k : Nat) S.gen ta tc a c ∧ Below G W (w12.setCell ⟨G, 25, none⟩ (.int .i64 ((S.base + S.revs.length : Nat) : Int)))) := by
                have hb := HB12.out.setCell (p := ⟨G, 25, none⟩) (Nat.le_refl _) (.int .i64 ((S.base + S.revs.length : Nat) : Int))
                have h := HS12.out.put 25 (.int .i64 ((S.base + S.revs.length : Nat) : Int))
                rw [(rs_set HOK.out.first).2.2] at h
                exact ⟨⟨h, st_own (own_far HT12.out) rfl (texts_small HOK.out), HRv.out.1.here hb (Nat.le_refl _), HRv.out.2, HOK.out.first⟩, hb⟩
              obtain ⟨hd, hhd⟩ : ∃ hd, S.base + S.revs.length = hd := ⟨_, rfl⟩
              rw [hhd] at HR13 ⊢
              have HHd9 : Hid (S.base + S.revs.length = hd) := hhd
              clear hhd
              go_wp2_with fail
              go_ret2
              obtain ⟨o1, o2, o3, o4, o5, o6⟩ := open_is HPk.out.2.1 HPk.out.1
              rw [HtS.out.1] at o1 o3
              refine ⟨.inr ⟨?_, G, (k : Nat), S.gen, ta, tc, a, c, rfl, ?_⟩, ?_⟩
              · rw [openE, if_pos HE0.out, HPk.out.2.1]
                show (if S.whole = true then (0 : Int) else 12) = 0
                rw [if_pos HPk.out.2.2.1]
              · rw [o1, o2, o3, o4, o5, o6, HHd9.out]
                exact HR13.out.1
              · rw [HWD.out]
                exact HD5.out.2.trans (HR13.out.2.mono (Nat.le_of_lt HD.out))
      · have HE12 : Hid (openE p x q y = 12) := by
          show _ = _
          rw [openE, if_pos HE0.out, HA.out, if_neg hw]
        have hbb : b1 = false ∧ b2 = false := by
          cases hc1 : b1 with
          | true =>
            exfalso
            rw [hc1] at hb1 hN
            have h1w : S1.whole = true := by simp at hb1; exact hb1.2
            cases hc2 : b2 with
            | true =>
              rw [hc2] at hb2 hN
              have h2w : S2.whole = true := by simp at hb2; exact hb2.2
              by_cases hlt : S1.gen < S2.gen
              · exact hw (by rw [hN, if_pos ⟨rfl, fun _ => hlt⟩]; exact h2w)
              · exact hw (by rw [hN, if_neg (fun e => hlt (e.2 rfl)), if_pos rfl]; exact h1w)
            | false => rw [hc2] at hN; exact hw (by rw [hN, if_neg (fun e => by cases e.1), if_pos rfl]; exact h1w)
          | false =>
            cases hc2 : b2 with
            | true =>
              exfalso
              rw [hc1, hc2] at hN
              rw [hc2] at hb2
              have h2w : S2.whole = true := by simp at hb2; exact hb2.2
              exact hw (by rw [hN, if_pos ⟨rfl, fun e => by cases e⟩]; exact h2w)
            | false => exact ⟨rfl, rfl⟩
        obtain ⟨rfl, rfl⟩ := hbb
        go_wp2_with fail
        go_ret2
        exact ⟨.inl ⟨by rw [HE12.out]; decide, by rw [HE12.out]; rfl⟩, by rw [HWD.out]; exact HD5.out.2.trans (HBw.out.mono (Nat.le_of_lt HD5.out.1.lt))⟩
  · have hE : openE p x q y = dkE p x q y := by rw [openE, if_neg h0]
    have hq' : (dkE p x q y != 0) = true := by simp [h0]
    obtain ⟨E, hEE⟩ : ∃ E, dkE p x q y = E := ⟨_, rfl⟩
    rw [hEE] at HCk hq'
    have HE : Hid (openE p x q y = E ∧ openE p x q y ≠ 0) := ⟨by rw [hE, hEE], by rw [hE]; exact h0⟩
    clear hE hEE h0
    go_enter Try.func10, Try.ntmps10
    go_upto_region 1 with fail
    generalize w.alloc (.cells #[.string p, .int .i64 x, .string q, .int .i64 y] 26) = w0 at HD0 ⊢
    obtain ⟨D, hD⟩ : ∃ D, w.heap.size = D := ⟨_, rfl⟩
    have HWD : Hid (w.heap.size = D) := hD
    rw [hD] at HD0 ⊢
    clear hD
    obtain ⟨c0, c1, c2, c3⟩ := HD0.out.1.cells
    have hl := HD0.out.1.lt
    go_wp2_with fail
    with_reducible refine (HCk.out _).mono ?_
    rintro e w1 ⟨rfl, hb1⟩
    have HB1 : Hid (Below D w w1) := HD0.out.2.trans (hb1.mono (by omega))
    clear c0 c1 c2 c3 hl hb1 HD0 HCk
    go_wp2_with fail
    go_ret2
    exact ⟨.inl ⟨HE.out.2, by rw [HE.out.1]; rfl⟩, by rw [HWD.out]; exact HB1.out⟩
end Go.Proofs.Ytgffippimmokiaa
