/- What shop.newest answers. -/
import Derived.Test.YtgffippimmokiaaShDo
import Derived.Deep.RegionHeld3
import Derived.BigQuiet
import Derived.BigRegion
namespace Go.Proofs.Ytgffippimmokiaa
open Go.RowKit
set_option linter.unusedSimpArgs false
set_option linter.unusedVariables false

/-- what reading answers: the log in a value, and its revisions, the call's own -/
def ReadO (S : Lg) (q : Int) (w : World) (e : Ending) (w' : World) : Prop :=
  ∃ v xs, e = .returned (.tuple #[.agg (sC S v S.good).toArray, .int .i64 q]) ∧ RzsOwn w' w.heap.size v xs ∧ xs.map (·.1) = S.revs ∧ Below w.heap.size w w'
theorem read_o {l : List UInt8} {w w' : World} {e : Ending} (h : ReadIs l w e w') : ReadO (logS (scanL l).1) (logE (scanL l).1) w e w' := by
  obtain ⟨h, hb⟩ := h
  rcases h with ⟨h0, v, xs, he, hz, hx⟩ | ⟨h0, he⟩
  · exact ⟨v, xs, by rw [he, h0], hz, hx, hb⟩
  · exact ⟨.slice none 0 0, [], by rw [he, logS_not h0]; rfl, rzs_nil _ _, by rw [logS_not h0]; rfl, hb⟩
/-- one more slot: its log, if it is whole, and was begun later -/
noncomputable def stepN (k : Nat) (l : List UInt8) (A : Nat × Lg) : Nat × Lg :=
  if logE (scanL l).1 = 0 ∧ (logS (scanL l).1).whole = true ∧ (A.2.whole = false ∨ A.2.gen < (logS (scanL l).1).gen) then (k, logS (scanL l).1) else A
/-- the newest log, and the slot that has it -/
noncomputable def newN (p q : List UInt8) : Nat × Lg := stepN 1 q (stepN 0 p (0, nilLg))
/-- the log that is held while slots are read -/
def NwIs (w : World) (B C : Nat) (A : Nat × Lg) : Prop := LgAt w (B + 1) zeroC ∧ B + 1 < C ∧ ∃ v xs, LgAt w C (sC A.2 v A.2.good) ∧ RzsOwn w B v xs ∧ xs.map (·.1) = A.2.revs ∧ A.2.first.length = 16 ∧ A.2.table.length = 16
theorem NwIs.below {w w' : World} {B C : Nat} {A : Nat × Lg} (h : NwIs w B C A) (hb : Below w.heap.size w w') : NwIs w' B C A := by
  obtain ⟨h0, hC, v, xs, h1, h2, h3⟩ := h
  exact ⟨h0.below hb h0.lt, hC, v, xs, h1.below hb h1.lt, h2.below hb, h3⟩
theorem results_three {fn : Func} {r p q : Tmp} {ty : TypeId} {P : Program} (h : fn.results = #[.tmp r, .cell p ty, .tmp q]) (tmps : Array Value) (w : World) (g : Nat) (L : List Value) (d : TypeDesc)
    (hp : tmps.getD p undef = .pointer (some ⟨g, 0, none⟩)) (hg : w.rangeAt g 0 L) (hu : P.underlying ty = some d) (hd : d.isRow = true) (hi : (P.info? ty).map (·.size) = some L.length) :
    (results fn tmps).run P w = .ok (.tuple #[tmps.getD r undef, .agg L.toArray, tmps.getD q undef]) w := by
  have hp' : tmps[p]?.getD undef = .pointer (some ⟨g, 0, none⟩) := by simpa using hp
  simp [results, h, hp', asAddr, run_loadVar_mid w g 0 ty L d hg hu hd hi]
/-- what newest answers -/
def NewTo (A : Nat × Lg) (w : World) (e : Ending) (w' : World) : Prop :=
  ∃ v xs, e = .returned (.tuple #[.int .i64 (if A.2.whole then (A.1 : Nat) else (0 : Nat) : Nat), .agg (sC (if A.2.whole then A.2 else nilLg) v (if A.2.whole then A.2 else nilLg).good).toArray, .int .i64 (if A.2.whole then 0 else 12)]) ∧ RzsOwn w' w.heap.size v xs ∧ xs.map (·.1) = (if A.2.whole then A.2 else nilLg).revs ∧ Below w.heap.size w w'
set_option maxRecDepth 20000 in
set_option maxHeartbeats 8000000 in
theorem newest_any (p : ByteArray) (x : Int) (q : ByteArray) (y : Int) (w : World) (hp : p.size ≤ 9223372036854775807) (hq : q.size ≤ 9223372036854775807) :
    Calls Try.prog 36 #[dkV p x q y] w fun e w' => NewTo (newN p.data.toList q.data.toList) w e w' := by
  have HRp : Hid (∀ w, Calls Try.prog 80 #[.string p] w fun e w' => ReadO (logS (scanL p.data.toList).1) (logE (scanL p.data.toList).1) w e w') := fun w => (Read_any p w hp).mono fun e w' h => read_o h
  have HRq : Hid (∀ w, Calls Try.prog 80 #[.string q] w fun e w' => ReadO (logS (scanL q.data.toList).1) (logE (scanL q.data.toList).1) w e w') := fun w => (Read_any q w hq).mono fun e w' h => read_o h
  have hx0 := ix0 p x q y
  have hx1 := ix1 p x q y
  have HS0 : Hid (DkAt ((w.alloc (.cells #[.string p, .int .i64 x, .string q, .int .i64 y] 26)).alloc (.cells #[.int .i64 0, .int .i64 0, .string ⟨#[]⟩, .int .i64 0, .int .i64 0, .int .i64 0, .int .i64 0, .int .i64 0, .int .i64 0, .int .i64 0, .int .i64 0, .int .i64 0, .int .i64 0, .int .i64 0, .int .i64 0, .int .i64 0, .int .i64 0, .int .i64 0, .int .i64 0, .int .i64 0, .int .i64 0, .int .i64 0, .int .i64 0, .int .i64 0, .int .i64 0, .int .i64 0, .int .i64 0, .int .i64 0, .int .i64 0, .int .i64 0, .int .i64 0, .int .i64 0, .int .i64 0, .int .i64 0, .int .i64 0, .slice none 0 0, .bool false, .int .i64 0] 82)) w.heap.size p x q y ∧ LgAt ((w.alloc (.cells #[.string p, .int .i64 x, .string q, .int .i64 y] 26)).alloc (.cells #[.int .i64 0, .int .i64 0, .string ⟨#[]⟩, .int .i64 0, .int .i64 0, .int .i64 0, .int .i64 0, .int .i64 0, .int .i64 0, .int .i64 0, .int .i64 0, .int .i64 0, .int .i64 0, .int .i64 0, .int .i64 0, .int .i64 0, .int .i64 0, .int .i64 0, .int .i64 0, .int .i64 0, .int .i64 0, .int .i64 0, .int .i64 0, .int .i64 0, .int .i64 0, .int .i64 0, .int .i64 0, .int .i64 0, .int .i64 0, .int .i64 0, .int .i64 0, .int .i64 0, .int .i64 0, .int .i64 0, .int .i64 0, .slice none 0 0, .bool false, .int .i64 0] 82)) (w.heap.size + 1) zeroC ∧ Below w.heap.size w ((w.alloc (.cells #[.string p, .int .i64 x, .string q, .int .i64 y] 26)).alloc (.cells #[.int .i64 0, .int .i64 0, .string ⟨#[]⟩, .int .i64 0, .int .i64 0, .int .i64 0, .int .i64 0, .int .i64 0, .int .i64 0, .int .i64 0, .int .i64 0, .int .i64 0, .int .i64 0, .int .i64 0, .int .i64 0, .int .i64 0, .int .i64 0, .int .i64 0, .int .i64 0, .int .i64 0, .int .i64 0, .int .i64 0, .int .i64 0, .int .i64 0, .int .i64 0, .int .i64 0, .int .i64 0, .int .i64 0, .int .i64 0, .int .i64 0, .int .i64 0, .int .i64 0, .int .i64 0, .int .i64 0, .int .i64 0, .slice none 0 0, .bool false, .int .i64 0] 82)) ∧ ((w.alloc (.cells #[.string p, .int .i64 x, .string q, .int .i64 y] 26)).alloc (.cells #[.int .i64 0, .int .i64 0, .string ⟨#[]⟩, .int .i64 0, .int .i64 0, .int .i64 0, .int .i64 0, .int .i64 0, .int .i64 0, .int .i64 0, .int .i64 0, .int .i64 0, .int .i64 0, .int .i64 0, .int .i64 0, .int .i64 0, .int .i64 0, .int .i64 0, .int .i64 0, .int .i64 0, .int .i64 0, .int .i64 0, .int .i64 0, .int .i64 0, .int .i64 0, .int .i64 0, .int .i64 0, .int .i64 0, .int .i64 0, .int .i64 0, .int .i64 0, .int .i64 0, .int .i64 0, .int .i64 0, .int .i64 0, .slice none 0 0, .bool false, .int .i64 0] 82)).heap.size = w.heap.size + 1 + 1) := by
    have z0 : (w.alloc (.cells #[.string p, .int .i64 x, .string q, .int .i64 y] 26)).heap.size = w.heap.size + 1 := by simp
    have n1 := heap_alloc_new (w.alloc (.cells #[.string p, .int .i64 x, .string q, .int .i64 y] 26)) (.cells #[.int .i64 0, .int .i64 0, .string ⟨#[]⟩, .int .i64 0, .int .i64 0, .int .i64 0, .int .i64 0, .int .i64 0, .int .i64 0, .int .i64 0, .int .i64 0, .int .i64 0, .int .i64 0, .int .i64 0, .int .i64 0, .int .i64 0, .int .i64 0, .int .i64 0, .int .i64 0, .int .i64 0, .int .i64 0, .int .i64 0, .int .i64 0, .int .i64 0, .int .i64 0, .int .i64 0, .int .i64 0, .int .i64 0, .int .i64 0, .int .i64 0, .int .i64 0, .int .i64 0, .int .i64 0, .int .i64 0, .int .i64 0, .slice none 0 0, .bool false, .int .i64 0] 82)
    rw [z0] at n1
    refine ⟨?_, ?_, ?_, by simp⟩
    · exact (Deep.blk_alloc_lt _ _ _ (by omega)).trans (heap_alloc_new w _)
    · exact n1
    · exact ((Below.refl _ w).alloc (Nat.le_refl _) _).alloc (by omega) _
  go_enter Try.func36, Try.ntmps36
  go_upto_region 1 with fail
  generalize (w.alloc (.cells #[.string p, .int .i64 x, .string q, .int .i64 y] 26)).alloc (.cells #[.int .i64 0, .int .i64 0, .string ⟨#[]⟩, .int .i64 0, .int .i64 0, .int .i64 0, .int .i64 0, .int .i64 0, .int .i64 0, .int .i64 0, .int .i64 0, .int .i64 0, .int .i64 0, .int .i64 0, .int .i64 0, .int .i64 0, .int .i64 0, .int .i64 0, .int .i64 0, .int .i64 0, .int .i64 0, .int .i64 0, .int .i64 0, .int .i64 0, .int .i64 0, .int .i64 0, .int .i64 0, .int .i64 0, .int .i64 0, .int .i64 0, .int .i64 0, .int .i64 0, .int .i64 0, .int .i64 0, .int .i64 0, .slice none 0 0, .bool false, .int .i64 0] 82) = W1 at HS0 ⊢
  obtain ⟨B, hB⟩ : ∃ B, w.heap.size = B := ⟨_, rfl⟩
  rw [hB] at HS0 ⊢
  have HW : Hid (w.heap.size = B) := hB
  clear hB
  have HN1 : Hid (DkAt (W1.alloc (.cells #[.int .i64 0, .int .i64 0, .string ⟨#[]⟩, .int .i64 0, .int .i64 0, .int .i64 0, .int .i64 0, .int .i64 0, .int .i64 0, .int .i64 0, .int .i64 0, .int .i64 0, .int .i64 0, .int .i64 0, .int .i64 0, .int .i64 0, .int .i64 0, .int .i64 0, .int .i64 0, .int .i64 0, .int .i64 0, .int .i64 0, .int .i64 0, .int .i64 0, .int .i64 0, .int .i64 0, .int .i64 0, .int .i64 0, .int .i64 0, .int .i64 0, .int .i64 0, .int .i64 0, .int .i64 0, .int .i64 0, .int .i64 0, .slice none 0 0, .bool false, .int .i64 0] 82)) B p x q y ∧ NwIs (W1.alloc (.cells #[.int .i64 0, .int .i64 0, .string ⟨#[]⟩, .int .i64 0, .int .i64 0, .int .i64 0, .int .i64 0, .int .i64 0, .int .i64 0, .int .i64 0, .int .i64 0, .int .i64 0, .int .i64 0, .int .i64 0, .int .i64 0, .int .i64 0, .int .i64 0, .int .i64 0, .int .i64 0, .int .i64 0, .int .i64 0, .int .i64 0, .int .i64 0, .int .i64 0, .int .i64 0, .int .i64 0, .int .i64 0, .int .i64 0, .int .i64 0, .int .i64 0, .int .i64 0, .int .i64 0, .int .i64 0, .int .i64 0, .int .i64 0, .slice none 0 0, .bool false, .int .i64 0] 82)) B W1.heap.size (0, nilLg) ∧ Below B w (W1.alloc (.cells #[.int .i64 0, .int .i64 0, .string ⟨#[]⟩, .int .i64 0, .int .i64 0, .int .i64 0, .int .i64 0, .int .i64 0, .int .i64 0, .int .i64 0, .int .i64 0, .int .i64 0, .int .i64 0, .int .i64 0, .int .i64 0, .int .i64 0, .int .i64 0, .int .i64 0, .int .i64 0, .int .i64 0, .int .i64 0, .int .i64 0, .int .i64 0, .int .i64 0, .int .i64 0, .int .i64 0, .int .i64 0, .int .i64 0, .int .i64 0, .int .i64 0, .int .i64 0, .int .i64 0, .int .i64 0, .int .i64 0, .int .i64 0, .slice none 0 0, .bool false, .int .i64 0] 82))) := by
    obtain ⟨s1, s2, s3, s4⟩ := HS0.out
    have hb : Below W1.heap.size W1 (W1.alloc (.cells #[.int .i64 0, .int .i64 0, .string ⟨#[]⟩, .int .i64 0, .int .i64 0, .int .i64 0, .int .i64 0, .int .i64 0, .int .i64 0, .int .i64 0, .int .i64 0, .int .i64 0, .int .i64 0, .int .i64 0, .int .i64 0, .int .i64 0, .int .i64 0, .int .i64 0, .int .i64 0, .int .i64 0, .int .i64 0, .int .i64 0, .int .i64 0, .int .i64 0, .int .i64 0, .int .i64 0, .int .i64 0, .int .i64 0, .int .i64 0, .int .i64 0, .int .i64 0, .int .i64 0, .int .i64 0, .int .i64 0, .int .i64 0, .slice none 0 0, .bool false, .int .i64 0] 82)) := (Below.refl _ W1).alloc (Nat.le_refl _) _
    refine ⟨s1.below hb s1.lt, ⟨s2.below hb s2.lt, by omega, .slice none 0 0, [], heap_alloc_new W1 _, rzs_nil _ _, rfl, rfl, rfl⟩, s3.alloc (by omega) _⟩
  clear HS0
  go_upto_region 2 with (refine wpList_store_new rfl 82 _ _ rfl _ _ (by rfl) (by rfl) (by exact infoLg) (by rfl) (by simp [Value.oneCell']) ?_)
  generalize W1.alloc (.cells #[.int .i64 0, .int .i64 0, .string ⟨#[]⟩, .int .i64 0, .int .i64 0, .int .i64 0, .int .i64 0, .int .i64 0, .int .i64 0, .int .i64 0, .int .i64 0, .int .i64 0, .int .i64 0, .int .i64 0, .int .i64 0, .int .i64 0, .int .i64 0, .int .i64 0, .int .i64 0, .int .i64 0, .int .i64 0, .int .i64 0, .int .i64 0, .int .i64 0, .int .i64 0, .int .i64 0, .int .i64 0, .int .i64 0, .int .i64 0, .int .i64 0, .int .i64 0, .int .i64 0, .int .i64 0, .int .i64 0, .int .i64 0, .slice none 0 0, .bool false, .int .i64 0] 82) = W2 at HN1 ⊢
  obtain ⟨C, hC⟩ : ∃ C, W1.heap.size = C := ⟨_, rfl⟩
  rw [hC] at HN1 ⊢
  clear hC
  obtain ⟨d0, d1, d2, d3⟩ := HN1.out.1.cells
  have hBl := HN1.out.1.lt
  go_wp2_with fail
  clear d0 d1 d2 d3 hBl
  go_loopw [5, 14] (fun a i wr => ∃ (k : Nat) (A : Nat × Lg), k ≤ 2 ∧ i = .int .i64 k ∧ a = .int .i64 (A.1 : Nat) ∧ (k = 0 → A = (0, nilLg)) ∧ (k = 1 → A = stepN 0 p.data.toList (0, nilLg)) ∧ (k = 2 → A = newN p.data.toList q.data.toList) ∧ NwIs wr B C A ∧ Below B w wr) (fun _ i _ => 2 - (intOf i).toNat)
  case atStart => exact ⟨0, (0, nilLg), by omega, rfl, rfl, fun _ => rfl, by omega, by omega, HN1.out.2.1, HN1.out.2.2⟩
  case round =>
    rename World => wr
    obtain ⟨k, A, hk, rfl, rfl, hA0, hA1, hA2, hn, hbw⟩ := hrel
    rcases (by omega : k = 0 ∨ k = 1 ∨ k = 2) with rfl | rfl | rfl
    · clear hk hA2 hA1
      have HAk : Hid (A = (0, nilLg)) := hA0 rfl
      clear hA0
      go_wp2_with fail
      with_reducible refine (HRp.out _).mono ?_
      rintro e w1 ⟨v1, xs1, rfl, hz1, hx1, hb1⟩
      obtain ⟨S, hS⟩ : ∃ S, logS (scanL p.data.toList).1 = S := ⟨_, rfl⟩
      obtain ⟨qe, hqe⟩ : ∃ qe, logE (scanL p.data.toList).1 = qe := ⟨_, rfl⟩
      have htabs := logS_tabs p.data.toList
      have HSt : Hid (stepN 0 p.data.toList A = if qe = 0 ∧ S.whole = true ∧ (A.2.whole = false ∨ A.2.gen < S.gen) then (0, S) else A) := by show _ = _; rw [stepN, hS, hqe]
      rw [hS] at hx1 htabs
      rw [hS, hqe]
      clear hS hqe
      have hzr := hbw.size
      have hBr : B ≤ wr.heap.size := by have := HW.out; omega
      have hba : Below wr.heap.size wr (wr.alloc (.cells #[.string p, .int .i64 x] 23)) := (Below.refl _ wr).alloc (Nat.le_refl _) _
      have hb01 := hba.trans (hb1.mono hba.size)
      have HN2 : Hid (NwIs (w1.alloc (.cells (sC S v1 S.good).toArray 82)) B C A) := (hn.below hb01).below ((Below.refl _ w1).alloc (Nat.le_refl _) _)
      have HB2 : Hid (Below B w (w1.alloc (.cells (sC S v1 S.good).toArray 82))) := (hbw.trans (hb01.mono hBr)).alloc (Nat.le_trans hBr hb01.size) _
      have HH2 : Hid (LgAt (w1.alloc (.cells (sC S v1 S.good).toArray 82)) w1.heap.size (sC S v1 S.good)) := heap_alloc_new w1 _
      have HZ2 : Hid (RzsOwn (w1.alloc (.cells (sC S v1 S.good).toArray 82)) B v1 xs1) := (hz1.base (by have := hba.size; omega)).below ((Below.refl _ w1).alloc (Nat.le_refl _) _)
      obtain ⟨va1, vc1, hv1⟩ := rzs_form hz1
      have hone1 : v1.oneCell' = true := by rw [hv1]; rfl
      have HI : Hid _ := log_into (sC_len (v := v1) (gd := S.good) htabs.1 htabs.2) (lgC_one hone1)
      have HNH : Hid (C < w1.heap.size) := by
        obtain ⟨_, _, _, _, t, _⟩ := hn.below hb01
        exact t.lt
      have HX1 : Hid (xs1.map (·.1) = S.revs ∧ S.first.length = 16 ∧ S.table.length = 16) := ⟨hx1, htabs⟩
      clear hz1 hx1 hb1 hba hb01 hn hbw hv1 htabs
      go_upto_region 6 with (refine wpList_store_new rfl 82 _ _ rfl _ (sC S v1 S.good).toArray (by rfl) (by rfl) HI.out.1 (by exact HI.out.2.1) HI.out.2.2.1 ?_)
      generalize w1.alloc (.cells (sC S v1 S.good).toArray 82) = w2 at HN2 HB2 HH2 HZ2 ⊢
      obtain ⟨H, hH⟩ : ∃ H, w1.heap.size = H := ⟨_, rfl⟩
      rw [hH] at HH2 HNH ⊢
      clear hH
      obtain ⟨n0, hBC, vA, xsA, n1, n2, n3, n4, n5⟩ := HN2.out
      obtain ⟨_, hw36, _, _⟩ := lg_at (gen := S.gen) (base := S.base) (text := S.text) (F := S.first) (T := S.table) (rv := v1) (wh := S.whole) (gd := S.good) HX1.out.2.1 HX1.out.2.2
      obtain ⟨_, aw36, _, _⟩ := lg_at (gen := A.2.gen) (base := A.2.base) (text := A.2.text) (F := A.2.first) (T := A.2.table) (rv := vA) (wh := A.2.whole) (gd := A.2.good) n4 n5
      have cH36 : w2.cell? ⟨H, 36, none⟩ = some (.bool S.whole) := HH2.out.cell hw36
      have cH0 : w2.cell? ⟨H, 0, none⟩ = some (.int .i64 S.gen) := HH2.out.cell rfl
      have cC36 : w2.cell? ⟨C, 36, none⟩ = some (.bool A.2.whole) := n1.cell aw36
      have cC0 : w2.cell? ⟨C, 0, none⟩ = some (.int .i64 A.2.gen) := n1.cell rfl
      have hHl := HH2.out.lt
      have hCl := n1.lt
      have HC2 : Hid (LgAt w2 C (sC A.2 vA A.2.good) ∧ LgAt w2 (B + 1) zeroC ∧ B + 1 < C) := ⟨n1, n0, hBC⟩
      have HEN : Hid (∀ A', A' = stepN 0 p.data.toList A → (0 + 1 ≤ 2 ∧ (0 + 1 = 0 → A' = (0, nilLg)) ∧ (0 + 1 = 1 → A' = stepN 0 p.data.toList (0, nilLg)) ∧ (0 + 1 = 2 → A' = newN p.data.toList q.data.toList))) := by
        intro A' eA
        refine ⟨by omega, by omega, fun e => ?_, fun e => ?_⟩
        · rw [eA, HAk.out]
        · omega
      obtain ⟨sw, hsw⟩ : ∃ sw, S.whole = sw := ⟨_, rfl⟩
      obtain ⟨aw, haw⟩ : ∃ aw, A.2.whole = aw := ⟨_, rfl⟩
      rw [hsw] at cH36 HSt
      rw [haw] at cC36 HSt
      have HSW : Hid (S.whole = sw) := hsw
      clear hw36 aw36 n0 n1 n2 n3 n4 n5 hsw haw
      by_cases hq0 : qe = 0 ∧ sw = true ∧ (aw = false ∨ A.2.gen < S.gen)
      · obtain ⟨rfl, rfl, hag⟩ := hq0
        have HT : Hid (stepN 0 p.data.toList A = (0, S)) := by show _ = _; rw [HSt.out, if_pos ⟨rfl, rfl, hag⟩]
        clear HSt
        have HNE : Hid (H ≠ C) := by
          intro e
          have := HNH.out
          omega
        clear hCl hHl
        have hHl := HH2.out.lt
        have hCl := HC2.out.1.lt
        have HL : Hid ((sC S v1 S.good).length = 38) := sC_len HX1.out.2.1 HX1.out.2.2
        obtain ⟨L, hL⟩ : ∃ L, sC S v1 S.good = L := ⟨_, rfl⟩
        have HLE : Hid (sC S v1 S.good = L) := hL
        rw [hL] at HL HH2 HI
        clear hL
        have hinfo : (Try.prog.info? 82).map (·.size) = some L.length := HI.out.2.2.2
        have hinfo2 := HI.out.1
        have hone := HI.out.2.2.1
        have hrg : w2.drew.rangeAt H 0 L := (World.rangeAt_drew _ _ _ _).2 HH2.out.all
        have hth : w2.drew.there C 0 L.toArray.size := (World.there_drew _ _ _ _).2 (HC2.out.1.there (by rw [List.size_toArray, HL.out, sC_len HN2.out.2.2.choose_spec.choose_spec.2.2.2.1 HN2.out.2.2.choose_spec.choose_spec.2.2.2.2]; decide))
        have HEnd : Hid (∃ (k' : Nat) (A' : Nat × Lg), k' ≤ 2 ∧ Value.int .i64 ((0 : Nat) + 1 : Int) = .int .i64 k' ∧ Value.int .i64 (0 : Int) = .int .i64 (A'.1 : Nat) ∧ (k' = 0 → A' = (0, nilLg)) ∧ (k' = 1 → A' = stepN 0 p.data.toList (0, nilLg)) ∧ (k' = 2 → A' = newN p.data.toList q.data.toList) ∧ NwIs (w2.drew.setCells C 0 L) B C A' ∧ Below B w (w2.drew.setCells C 0 L)) := by
          obtain ⟨e1, e2, e3, e4⟩ := HEN.out (0, S) HT.out.symm
          obtain ⟨m0, m1, vB, xsB, m2, m3, m4, m5, m6⟩ := HN2.out
          have hput := LgAt.puts L w2.drew (sC A.2 vB A.2.good) 0 m2
          rw [setL_all (by rw [HL.out, sC_len m5 m6])] at hput
          have has : Aside C w2 (w2.drew.setCells C 0 L) := Aside.puts L w2.drew 0 (Aside.refl C w2).drew
          have hz := HZ2.out.aside m2 (by decide) (by decide) has
          refine ⟨0 + 1, (0, S), e1, by go_num, rfl, e2, e3, e4, ⟨has.block m0 (by omega), m1, v1, xs1, ?_, hz, HX1.out⟩, HB2.out.trans (has.below (by omega) (by have := m0.lt; omega))⟩
          show LgAt _ C (sC S v1 S.good)
          rw [HLE.out]
          exact hput
        cases aw with
        | false =>
          clear hag
          go_upto_region 7 with fail
          refine wp_region_held_drew (S := fun w' => w'.rangeAt H 0 L) (by kernel_rfl) hrg (fun hHeld => ?_)
          refine wpAnyH_take (i := 0) (v := .int .i64 0) rfl (by kernel_rfl) (by kernel_rfl) (by kernel_rfl) (fun _ _ _ h => h) (Or.inl ⟨by kernel_rfl, fun w' hSw => by first | (go_simp; done) | (go_simp; rfl)⟩) hHeld ?_
          simp only [Act.put, List.setIfInBounds_toArray, List.set_cons_zero, List.set_cons_succ]
          refine wpAnyH_take (i := 1) rfl (by kernel_rfl) (by kernel_rfl) (by kernel_rfl) (fun _ _ _ h => h) (yieldsIf_load_mid (by kernel_rfl) 82 _ rfl H 0 rfl L _ (fun w h => h) Try.underlying82 rfl hinfo) hHeld ?_
          simp only [Act.put, List.setIfInBounds_toArray, List.set_cons_zero, List.set_cons_succ]
          refine wpAnyH_take (i := 2) (v := .int .i64 0) rfl (by kernel_rfl) (by kernel_rfl) (by kernel_rfl) (fun _ _ _ h => h) (Or.inl ⟨by kernel_rfl, fun w' hSw => by first | (go_simp; done) | (go_simp; rfl)⟩) hHeld ?_
          simp only [Act.put, List.setIfInBounds_toArray, List.set_cons_zero, List.set_cons_succ]
          refine wpAnyH_ready (rs := [3]) (by kernel_rfl) (by simp) ?_
          refine AllReadyH.cons rfl (fun K hK => ?_) AllReadyH.nil
          refine wp_store_mid 82 _ _ rfl C 0 L.toArray (by rfl) (by rfl) hth hinfo2 hone ?_
          refine hK.out _ _ (World.rangeAt_setCells_apart hrg C 0 _ (.inl HNE.out)) (fun hHeld3 => ?_)
          clear hK K
          try simp only [Act.put, List.setIfInBounds_toArray, List.set_cons_zero, List.set_cons_succ]
          refine wpAnyH_done (by kernel_rfl) ?_ _
          go_wp2_with fail
          go_roundw
          case rel => exact HEnd.out
          case measure => simp [intOf]
        | true =>
          have hgg : (A.2.gen : Int) < (S.gen : Int) := by
            rcases hag with h | h
            · cases h
            · omega
          clear hag
          go_upto_region 7 with fail
          refine wp_region_held_drew (S := fun w' => w'.rangeAt H 0 L) (by kernel_rfl) hrg (fun hHeld => ?_)
          refine wpAnyH_take (i := 0) (v := .int .i64 0) rfl (by kernel_rfl) (by kernel_rfl) (by kernel_rfl) (fun _ _ _ h => h) (Or.inl ⟨by kernel_rfl, fun w' hSw => by first | (go_simp; done) | (go_simp; rfl)⟩) hHeld ?_
          simp only [Act.put, List.setIfInBounds_toArray, List.set_cons_zero, List.set_cons_succ]
          refine wpAnyH_take (i := 1) rfl (by kernel_rfl) (by kernel_rfl) (by kernel_rfl) (fun _ _ _ h => h) (yieldsIf_load_mid (by kernel_rfl) 82 _ rfl H 0 rfl L _ (fun w h => h) Try.underlying82 rfl hinfo) hHeld ?_
          simp only [Act.put, List.setIfInBounds_toArray, List.set_cons_zero, List.set_cons_succ]
          refine wpAnyH_take (i := 2) (v := .int .i64 0) rfl (by kernel_rfl) (by kernel_rfl) (by kernel_rfl) (fun _ _ _ h => h) (Or.inl ⟨by kernel_rfl, fun w' hSw => by first | (go_simp; done) | (go_simp; rfl)⟩) hHeld ?_
          simp only [Act.put, List.setIfInBounds_toArray, List.set_cons_zero, List.set_cons_succ]
          refine wpAnyH_ready (rs := [3]) (by kernel_rfl) (by simp) ?_
          refine AllReadyH.cons rfl (fun K hK => ?_) AllReadyH.nil
          refine wp_store_mid 82 _ _ rfl C 0 L.toArray (by rfl) (by rfl) hth hinfo2 hone ?_
          refine hK.out _ _ (World.rangeAt_setCells_apart hrg C 0 _ (.inl HNE.out)) (fun hHeld3 => ?_)
          clear hK K
          try simp only [Act.put, List.setIfInBounds_toArray, List.set_cons_zero, List.set_cons_succ]
          refine wpAnyH_done (by kernel_rfl) ?_ _
          go_wp2_with fail
          go_roundw
          case rel => exact HEnd.out
          case measure => simp [intOf]
      · have HT : Hid (stepN 0 p.data.toList A = A) := by show _ = _; rw [HSt.out, if_neg hq0]
        clear HSt
        have hend : ∀ wz, Below w2.heap.size w2 wz → (∃ (k' : Nat) (A' : Nat × Lg), k' ≤ 2 ∧ Value.int .i64 ((0 : Nat) + 1 : Int) = .int .i64 k' ∧ Value.int .i64 (A.1 : Nat) = .int .i64 (A'.1 : Nat) ∧ (k' = 0 → A' = (0, nilLg)) ∧ (k' = 1 → A' = stepN 0 p.data.toList (0, nilLg)) ∧ (k' = 2 → A' = newN p.data.toList q.data.toList) ∧ NwIs wz B C A' ∧ Below B w wz) := by
          intro wz hz
          obtain ⟨e1, e2, e3, e4⟩ := HEN.out A HT.out.symm
          exact ⟨0 + 1, A, e1, by go_num, rfl, e2, e3, e4, HN2.out.below hz, HB2.out.trans (hz.mono (by have := HC2.out.2.1.lt; omega))⟩
        have HEnd : Hid _ := hend
        clear hend
        by_cases hqe : qe = 0
        · subst hqe
          cases sw with
          | false =>
            clear hq0
            go_wp2_with fail
            go_roundw
            case rel => exact HEnd.out _ (Below.refl _ w2)
            case measure => simp [intOf]
          | true =>
            have hag : aw = true ∧ ¬ (A.2.gen : Int) < (S.gen : Int) := by
              cases aw with
              | false => exact absurd ⟨rfl, rfl, .inl rfl⟩ hq0
              | true => exact ⟨rfl, fun h => hq0 ⟨rfl, rfl, .inr (by omega)⟩⟩
            obtain ⟨rfl, hgg⟩ := hag
            clear hq0
            go_wp2_with fail
            go_roundw
            case rel => exact HEnd.out _ (Below.refl _ w2)
            case measure => simp [intOf]
        · have hqb : (qe == 0) = false := by simp [hqe]
          clear hq0
          go_wp2_with fail
          go_roundw
          case rel => exact HEnd.out _ (Below.refl _ w2)
          case measure => simp [intOf]
    · clear hk hA2 hA0
      have HAk : Hid (A = stepN 0 p.data.toList (0, nilLg)) := hA1 rfl
      clear hA1
      go_wp2_with fail
      with_reducible refine (HRq.out _).mono ?_
      rintro e w1 ⟨v1, xs1, rfl, hz1, hx1, hb1⟩
      obtain ⟨S, hS⟩ : ∃ S, logS (scanL q.data.toList).1 = S := ⟨_, rfl⟩
      obtain ⟨qe, hqe⟩ : ∃ qe, logE (scanL q.data.toList).1 = qe := ⟨_, rfl⟩
      have htabs := logS_tabs q.data.toList
      have HSt : Hid (stepN 1 q.data.toList A = if qe = 0 ∧ S.whole = true ∧ (A.2.whole = false ∨ A.2.gen < S.gen) then (1, S) else A) := by show _ = _; rw [stepN, hS, hqe]
      rw [hS] at hx1 htabs
      rw [hS, hqe]
      clear hS hqe
      have hzr := hbw.size
      have hBr : B ≤ wr.heap.size := by have := HW.out; omega
      have hba : Below wr.heap.size wr (wr.alloc (.cells #[.string q, .int .i64 y] 23)) := (Below.refl _ wr).alloc (Nat.le_refl _) _
      have hb01 := hba.trans (hb1.mono hba.size)
      have HN2 : Hid (NwIs (w1.alloc (.cells (sC S v1 S.good).toArray 82)) B C A) := (hn.below hb01).below ((Below.refl _ w1).alloc (Nat.le_refl _) _)
      have HB2 : Hid (Below B w (w1.alloc (.cells (sC S v1 S.good).toArray 82))) := (hbw.trans (hb01.mono hBr)).alloc (Nat.le_trans hBr hb01.size) _
      have HH2 : Hid (LgAt (w1.alloc (.cells (sC S v1 S.good).toArray 82)) w1.heap.size (sC S v1 S.good)) := heap_alloc_new w1 _
      have HZ2 : Hid (RzsOwn (w1.alloc (.cells (sC S v1 S.good).toArray 82)) B v1 xs1) := (hz1.base (by have := hba.size; omega)).below ((Below.refl _ w1).alloc (Nat.le_refl _) _)
      obtain ⟨va1, vc1, hv1⟩ := rzs_form hz1
      have hone1 : v1.oneCell' = true := by rw [hv1]; rfl
      have HI : Hid _ := log_into (sC_len (v := v1) (gd := S.good) htabs.1 htabs.2) (lgC_one hone1)
      have HNH : Hid (C < w1.heap.size) := by
        obtain ⟨_, _, _, _, t, _⟩ := hn.below hb01
        exact t.lt
      have HX1 : Hid (xs1.map (·.1) = S.revs ∧ S.first.length = 16 ∧ S.table.length = 16) := ⟨hx1, htabs⟩
      clear hz1 hx1 hb1 hba hb01 hn hbw hv1 htabs
      go_upto_region 6 with (refine wpList_store_new rfl 82 _ _ rfl _ (sC S v1 S.good).toArray (by rfl) (by rfl) HI.out.1 (by exact HI.out.2.1) HI.out.2.2.1 ?_)
      generalize w1.alloc (.cells (sC S v1 S.good).toArray 82) = w2 at HN2 HB2 HH2 HZ2 ⊢
      obtain ⟨H, hH⟩ : ∃ H, w1.heap.size = H := ⟨_, rfl⟩
      rw [hH] at HH2 HNH ⊢
      clear hH
      obtain ⟨n0, hBC, vA, xsA, n1, n2, n3, n4, n5⟩ := HN2.out
      obtain ⟨_, hw36, _, _⟩ := lg_at (gen := S.gen) (base := S.base) (text := S.text) (F := S.first) (T := S.table) (rv := v1) (wh := S.whole) (gd := S.good) HX1.out.2.1 HX1.out.2.2
      obtain ⟨_, aw36, _, _⟩ := lg_at (gen := A.2.gen) (base := A.2.base) (text := A.2.text) (F := A.2.first) (T := A.2.table) (rv := vA) (wh := A.2.whole) (gd := A.2.good) n4 n5
      have cH36 : w2.cell? ⟨H, 36, none⟩ = some (.bool S.whole) := HH2.out.cell hw36
      have cH0 : w2.cell? ⟨H, 0, none⟩ = some (.int .i64 S.gen) := HH2.out.cell rfl
      have cC36 : w2.cell? ⟨C, 36, none⟩ = some (.bool A.2.whole) := n1.cell aw36
      have cC0 : w2.cell? ⟨C, 0, none⟩ = some (.int .i64 A.2.gen) := n1.cell rfl
      have hHl := HH2.out.lt
      have hCl := n1.lt
      have HC2 : Hid (LgAt w2 C (sC A.2 vA A.2.good) ∧ LgAt w2 (B + 1) zeroC ∧ B + 1 < C) := ⟨n1, n0, hBC⟩
      have HEN : Hid (∀ A', A' = stepN 1 q.data.toList A → (1 + 1 ≤ 2 ∧ (1 + 1 = 0 → A' = (0, nilLg)) ∧ (1 + 1 = 1 → A' = stepN 0 p.data.toList (0, nilLg)) ∧ (1 + 1 = 2 → A' = newN p.data.toList q.data.toList))) := by
        intro A' eA
        refine ⟨by omega, by omega, fun e => ?_, fun e => ?_⟩
        · omega
        · rw [eA, HAk.out]; rfl
      obtain ⟨sw, hsw⟩ : ∃ sw, S.whole = sw := ⟨_, rfl⟩
      obtain ⟨aw, haw⟩ : ∃ aw, A.2.whole = aw := ⟨_, rfl⟩
      rw [hsw] at cH36 HSt
      rw [haw] at cC36 HSt
      have HSW : Hid (S.whole = sw) := hsw
      clear hw36 aw36 n0 n1 n2 n3 n4 n5 hsw haw
      by_cases hq0 : qe = 0 ∧ sw = true ∧ (aw = false ∨ A.2.gen < S.gen)
      · obtain ⟨rfl, rfl, hag⟩ := hq0
        have HT : Hid (stepN 1 q.data.toList A = (1, S)) := by show _ = _; rw [HSt.out, if_pos ⟨rfl, rfl, hag⟩]
        clear HSt
        have HNE : Hid (H ≠ C) := by
          intro e
          have := HNH.out
          omega
        clear hCl hHl
        have hHl := HH2.out.lt
        have hCl := HC2.out.1.lt
        have HL : Hid ((sC S v1 S.good).length = 38) := sC_len HX1.out.2.1 HX1.out.2.2
        obtain ⟨L, hL⟩ : ∃ L, sC S v1 S.good = L := ⟨_, rfl⟩
        have HLE : Hid (sC S v1 S.good = L) := hL
        rw [hL] at HL HH2 HI
        clear hL
        have hinfo : (Try.prog.info? 82).map (·.size) = some L.length := HI.out.2.2.2
        have hinfo2 := HI.out.1
        have hone := HI.out.2.2.1
        have hrg : w2.drew.rangeAt H 0 L := (World.rangeAt_drew _ _ _ _).2 HH2.out.all
        have hth : w2.drew.there C 0 L.toArray.size := (World.there_drew _ _ _ _).2 (HC2.out.1.there (by rw [List.size_toArray, HL.out, sC_len HN2.out.2.2.choose_spec.choose_spec.2.2.2.1 HN2.out.2.2.choose_spec.choose_spec.2.2.2.2]; decide))
        have HEnd : Hid (∃ (k' : Nat) (A' : Nat × Lg), k' ≤ 2 ∧ Value.int .i64 ((1 : Nat) + 1 : Int) = .int .i64 k' ∧ Value.int .i64 (1 : Int) = .int .i64 (A'.1 : Nat) ∧ (k' = 0 → A' = (0, nilLg)) ∧ (k' = 1 → A' = stepN 0 p.data.toList (0, nilLg)) ∧ (k' = 2 → A' = newN p.data.toList q.data.toList) ∧ NwIs (w2.drew.setCells C 0 L) B C A' ∧ Below B w (w2.drew.setCells C 0 L)) := by
          obtain ⟨e1, e2, e3, e4⟩ := HEN.out (1, S) HT.out.symm
          obtain ⟨m0, m1, vB, xsB, m2, m3, m4, m5, m6⟩ := HN2.out
          have hput := LgAt.puts L w2.drew (sC A.2 vB A.2.good) 0 m2
          rw [setL_all (by rw [HL.out, sC_len m5 m6])] at hput
          have has : Aside C w2 (w2.drew.setCells C 0 L) := Aside.puts L w2.drew 0 (Aside.refl C w2).drew
          have hz := HZ2.out.aside m2 (by decide) (by decide) has
          refine ⟨1 + 1, (1, S), e1, by go_num, rfl, e2, e3, e4, ⟨has.block m0 (by omega), m1, v1, xs1, ?_, hz, HX1.out⟩, HB2.out.trans (has.below (by omega) (by have := m0.lt; omega))⟩
          show LgAt _ C (sC S v1 S.good)
          rw [HLE.out]
          exact hput
        cases aw with
        | false =>
          clear hag
          go_upto_region 7 with fail
          refine wp_region_held_drew (S := fun w' => w'.rangeAt H 0 L) (by kernel_rfl) hrg (fun hHeld => ?_)
          refine wpAnyH_take (i := 0) (v := .int .i64 1) rfl (by kernel_rfl) (by kernel_rfl) (by kernel_rfl) (fun _ _ _ h => h) (Or.inl ⟨by kernel_rfl, fun w' hSw => by first | (go_simp; done) | (go_simp; rfl)⟩) hHeld ?_
          simp only [Act.put, List.setIfInBounds_toArray, List.set_cons_zero, List.set_cons_succ]
          refine wpAnyH_take (i := 1) rfl (by kernel_rfl) (by kernel_rfl) (by kernel_rfl) (fun _ _ _ h => h) (yieldsIf_load_mid (by kernel_rfl) 82 _ rfl H 0 rfl L _ (fun w h => h) Try.underlying82 rfl hinfo) hHeld ?_
          simp only [Act.put, List.setIfInBounds_toArray, List.set_cons_zero, List.set_cons_succ]
          refine wpAnyH_take (i := 2) (v := .int .i64 1) rfl (by kernel_rfl) (by kernel_rfl) (by kernel_rfl) (fun _ _ _ h => h) (Or.inl ⟨by kernel_rfl, fun w' hSw => by first | (go_simp; done) | (go_simp; rfl)⟩) hHeld ?_
          simp only [Act.put, List.setIfInBounds_toArray, List.set_cons_zero, List.set_cons_succ]
          refine wpAnyH_ready (rs := [3]) (by kernel_rfl) (by simp) ?_
          refine AllReadyH.cons rfl (fun K hK => ?_) AllReadyH.nil
          refine wp_store_mid 82 _ _ rfl C 0 L.toArray (by rfl) (by rfl) hth hinfo2 hone ?_
          refine hK.out _ _ (World.rangeAt_setCells_apart hrg C 0 _ (.inl HNE.out)) (fun hHeld3 => ?_)
          clear hK K
          try simp only [Act.put, List.setIfInBounds_toArray, List.set_cons_zero, List.set_cons_succ]
          refine wpAnyH_done (by kernel_rfl) ?_ _
          go_wp2_with fail
          go_roundw
          case rel => exact HEnd.out
          case measure => simp [intOf]
        | true =>
          have hgg : (A.2.gen : Int) < (S.gen : Int) := by
            rcases hag with h | h
            · cases h
            · omega
          clear hag
          go_upto_region 7 with fail
          refine wp_region_held_drew (S := fun w' => w'.rangeAt H 0 L) (by kernel_rfl) hrg (fun hHeld => ?_)
          refine wpAnyH_take (i := 0) (v := .int .i64 1) rfl (by kernel_rfl) (by kernel_rfl) (by kernel_rfl) (fun _ _ _ h => h) (Or.inl ⟨by kernel_rfl, fun w' hSw => by first | (go_simp; done) | (go_simp; rfl)⟩) hHeld ?_
          simp only [Act.put, List.setIfInBounds_toArray, List.set_cons_zero, List.set_cons_succ]
          refine wpAnyH_take (i := 1) rfl (by kernel_rfl) (by kernel_rfl) (by kernel_rfl) (fun _ _ _ h => h) (yieldsIf_load_mid (by kernel_rfl) 82 _ rfl H 0 rfl L _ (fun w h => h) Try.underlying82 rfl hinfo) hHeld ?_
          simp only [Act.put, List.setIfInBounds_toArray, List.set_cons_zero, List.set_cons_succ]
          refine wpAnyH_take (i := 2) (v := .int .i64 1) rfl (by kernel_rfl) (by kernel_rfl) (by kernel_rfl) (fun _ _ _ h => h) (Or.inl ⟨by kernel_rfl, fun w' hSw => by first | (go_simp; done) | (go_simp; rfl)⟩) hHeld ?_
          simp only [Act.put, List.setIfInBounds_toArray, List.set_cons_zero, List.set_cons_succ]
          refine wpAnyH_ready (rs := [3]) (by kernel_rfl) (by simp) ?_
          refine AllReadyH.cons rfl (fun K hK => ?_) AllReadyH.nil
          refine wp_store_mid 82 _ _ rfl C 0 L.toArray (by rfl) (by rfl) hth hinfo2 hone ?_
          refine hK.out _ _ (World.rangeAt_setCells_apart hrg C 0 _ (.inl HNE.out)) (fun hHeld3 => ?_)
          clear hK K
          try simp only [Act.put, List.setIfInBounds_toArray, List.set_cons_zero, List.set_cons_succ]
          refine wpAnyH_done (by kernel_rfl) ?_ _
          go_wp2_with fail
          go_roundw
          case rel => exact HEnd.out
          case measure => simp [intOf]
      · have HT : Hid (stepN 1 q.data.toList A = A) := by show _ = _; rw [HSt.out, if_neg hq0]
        clear HSt
        have hend : ∀ wz, Below w2.heap.size w2 wz → (∃ (k' : Nat) (A' : Nat × Lg), k' ≤ 2 ∧ Value.int .i64 ((1 : Nat) + 1 : Int) = .int .i64 k' ∧ Value.int .i64 (A.1 : Nat) = .int .i64 (A'.1 : Nat) ∧ (k' = 0 → A' = (0, nilLg)) ∧ (k' = 1 → A' = stepN 0 p.data.toList (0, nilLg)) ∧ (k' = 2 → A' = newN p.data.toList q.data.toList) ∧ NwIs wz B C A' ∧ Below B w wz) := by
          intro wz hz
          obtain ⟨e1, e2, e3, e4⟩ := HEN.out A HT.out.symm
          exact ⟨1 + 1, A, e1, by go_num, rfl, e2, e3, e4, HN2.out.below hz, HB2.out.trans (hz.mono (by have := HC2.out.2.1.lt; omega))⟩
        have HEnd : Hid _ := hend
        clear hend
        by_cases hqe : qe = 0
        · subst hqe
          cases sw with
          | false =>
            clear hq0
            go_wp2_with fail
            go_roundw
            case rel => exact HEnd.out _ (Below.refl _ w2)
            case measure => simp [intOf]
          | true =>
            have hag : aw = true ∧ ¬ (A.2.gen : Int) < (S.gen : Int) := by
              cases aw with
              | false => exact absurd ⟨rfl, rfl, .inl rfl⟩ hq0
              | true => exact ⟨rfl, fun h => hq0 ⟨rfl, rfl, .inr (by omega)⟩⟩
            obtain ⟨rfl, hgg⟩ := hag
            clear hq0
            go_wp2_with fail
            go_roundw
            case rel => exact HEnd.out _ (Below.refl _ w2)
            case measure => simp [intOf]
        · have hqb : (qe == 0) = false := by simp [hqe]
          clear hq0
          go_wp2_with fail
          go_roundw
          case rel => exact HEnd.out _ (Below.refl _ w2)
          case measure => simp [intOf]
    · clear hA0 hA1 hk
      have HA : Hid (A = newN p.data.toList q.data.toList) := hA2 rfl
      obtain ⟨n0, hBC, vA, xsA, n1, n2, n3, n4, n5⟩ := hn
      obtain ⟨_, aw36, _, _⟩ := lg_at (gen := A.2.gen) (base := A.2.base) (text := A.2.text) (F := A.2.first) (T := A.2.table) (rv := vA) (wh := A.2.whole) (gd := A.2.good) n4 n5
      have cC36 : wr.cell? ⟨C, 36, none⟩ = some (.bool A.2.whole) := n1.cell aw36
      have hCl := n1.lt
      have HZ : Hid (LgAt wr (B + 1) zeroC) := n0
      have HC : Hid (LgAt wr C (sC A.2 vA A.2.good)) := n1
      have HX : Hid (RzsOwn wr B vA xsA ∧ xsA.map (·.1) = A.2.revs ∧ A.2.first.length = 16 ∧ A.2.table.length = 16) := ⟨n2, n3, n4, n5⟩
      have HB : Hid (Below B w wr) := hbw
      have HBC : Hid (B + 1 < C) := hBC
      obtain ⟨aw, haw⟩ : ∃ aw, A.2.whole = aw := ⟨_, rfl⟩
      have HAW : Hid (A.2.whole = aw) := haw
      rw [haw] at cC36
      clear haw aw36 n0 n1 n2 n3 n4 n5 hBC hbw hA2
      have HEnd : Hid (∀ (wz : World) (L : List Value) (tmps : Array Value), LgAt wz (B + 1) L → L.length = 38 → tmps.getD 3 undef = .pointer (some ⟨B + 1, 0, none⟩) → (results Try.f36 tmps).run Try.prog wz = .ok (.tuple #[tmps.getD 2 undef, .agg L.toArray, tmps.getD 4 undef]) wz) := fun wz L tmps hr hL hp => results_three Try.results36 tmps wz (B + 1) L _ hp hr.all Try.underlying82 rfl (by rw [hL]; exact infoLg)
      cases aw with
      | false =>
        have HTo : Hid (∀ wz, Below B w wz → NewTo (newN p.data.toList q.data.toList) w (.returned (.tuple #[.int .i64 0, .agg zeroC.toArray, .int .i64 12])) wz) := by
          intro wz hz
          rw [← HA.out]
          have e : (if A.2.whole then A.2 else nilLg) = nilLg := by rw [HAW.out]; rfl
          refine ⟨.slice none 0 0, [], ?_, rzs_nil _ _, ?_, by rw [HW.out]; exact hz⟩
          · rw [HAW.out]; rfl
          · rw [e]; rfl
        have hBl := HZ.out.lt
        go_upto_region 10 with fail
        have HTe : Hid (_ : Prop) := HZ.out.there (o := 0) (n := (#[.int .i64 0, .int .i64 0, .string ⟨#[]⟩, .int .i64 0, .int .i64 0, .int .i64 0, .int .i64 0, .int .i64 0, .int .i64 0, .int .i64 0, .int .i64 0, .int .i64 0, .int .i64 0, .int .i64 0, .int .i64 0, .int .i64 0, .int .i64 0, .int .i64 0, .int .i64 0, .int .i64 0, .int .i64 0, .int .i64 0, .int .i64 0, .int .i64 0, .int .i64 0, .int .i64 0, .int .i64 0, .int .i64 0, .int .i64 0, .int .i64 0, .int .i64 0, .int .i64 0, .int .i64 0, .int .i64 0, .int .i64 0, .slice none 0 0, .bool false, .int .i64 0] : Array Value).size) (by decide)
        go_wp2_with (refine wpList_store_mid rfl 82 _ _ rfl (B + 1) 0 _ rfl rfl HTe.out (by exact infoLg) (by simp [Value.oneCell']) ?_)
        refine bodyPost_ret (v := .tuple #[.int .i64 0, .agg zeroC.toArray, .int .i64 12]) (HEnd.out _ _ _ (zero_puts HZ.out) zeroC_len rfl) rfl (HTo.out _ ?_)
        exact below_cells (by omega) _ _ _ HB.out
      | true =>
        have HL : Hid ((sC A.2 vA A.2.good).length = 38) := sC_len HX.out.2.2.1 HX.out.2.2.2
        obtain ⟨va, vc, hv⟩ := rzs_form HX.out.1
        have HI : Hid _ := log_into HL.out (lgC_one (by rw [hv]; rfl))
        obtain ⟨m, hm⟩ : ∃ m : Int, ((A.1 : Nat) : Int) = m := ⟨_, rfl⟩
        have HM : Hid (((A.1 : Nat) : Int) = m) := hm
        rw [hm]
        obtain ⟨L, hL⟩ : ∃ L, sC A.2 vA A.2.good = L := ⟨_, rfl⟩
        have HLE : Hid (sC A.2 vA A.2.good = L) := hL
        rw [hL] at HL HC HI
        clear hL hm hv
        have hinfo : (Try.prog.info? 82).map (·.size) = some L.length := HI.out.2.2.2
        have hinfo2 := HI.out.1
        have hone := HI.out.2.2.1
        have hrg : wr.drew.rangeAt C 0 L := (World.rangeAt_drew _ _ _ _).2 HC.out.all
        have hth : wr.drew.there (B + 1) 0 L.toArray.size := (World.there_drew _ _ _ _).2 (HZ.out.there (by rw [List.size_toArray, HL.out, zeroC_len]; decide))
        have HNE : Hid (C ≠ B + 1) := by
          intro e
          have := HBC.out
          omega
        have HP : Hid (LgAt (wr.drew.setCells (B + 1) 0 L) (B + 1) L) := by
          have h := LgAt.puts L wr.drew zeroC 0 HZ.out
          rw [setL_all (by rw [HL.out, zeroC_len])] at h
          exact h
        have HTo : Hid (NewTo (newN p.data.toList q.data.toList) w (.returned (.tuple #[.int .i64 m, .agg L.toArray, .int .i64 0])) (wr.drew.setCells (B + 1) 0 L)) := by
          rw [← HA.out]
          have e : (if A.2.whole then A.2 else nilLg) = A.2 := by rw [HAW.out]; rfl
          have has : Aside (B + 1) wr (wr.drew.setCells (B + 1) 0 L) := Aside.puts L wr.drew 0 (Aside.refl (B + 1) wr).drew
          refine ⟨vA, xsA, ?_, ?_, ?_, ?_⟩
          · rw [e, HLE.out, HAW.out, if_pos rfl, if_pos rfl, HM.out]
          · rw [HW.out]
            exact HX.out.1.aside HZ.out (by decide) (by decide) has
          · rw [e]; exact HX.out.2.1
          · rw [HW.out]
            exact HB.out.trans (has.below (by omega) (by have := HZ.out.lt; omega))
        go_upto_region 11 with fail
        refine wp_region_held_drew (S := fun w' => w'.rangeAt C 0 L) (by kernel_rfl) hrg (fun hHeld => ?_)
        refine wpAnyH_take (i := 0) (v := .int .i64 m) rfl (by kernel_rfl) (by kernel_rfl) (by kernel_rfl) (fun _ _ _ h => h) (Or.inl ⟨by kernel_rfl, fun w' hSw => by first | (go_simp; done) | (go_simp; rfl)⟩) hHeld ?_
        simp only [Act.put, List.setIfInBounds_toArray, List.set_cons_zero, List.set_cons_succ]
        refine wpAnyH_take (i := 1) rfl (by kernel_rfl) (by kernel_rfl) (by kernel_rfl) (fun _ _ _ h => h) (yieldsIf_load_mid (by kernel_rfl) 82 _ rfl C 0 rfl L _ (fun w h => h) Try.underlying82 rfl hinfo) hHeld ?_
        simp only [Act.put, List.setIfInBounds_toArray, List.set_cons_zero, List.set_cons_succ]
        refine wpAnyH_take (i := 2) (v := .int .i64 m) rfl (by kernel_rfl) (by kernel_rfl) (by kernel_rfl) (fun _ _ _ h => h) (Or.inl ⟨by kernel_rfl, fun w' hSw => by first | (go_simp; done) | (go_simp; rfl)⟩) hHeld ?_
        simp only [Act.put, List.setIfInBounds_toArray, List.set_cons_zero, List.set_cons_succ]
        refine wpAnyH_ready (rs := [3]) (by kernel_rfl) (by simp) ?_
        refine AllReadyH.cons rfl (fun K hK => ?_) AllReadyH.nil
        refine wp_store_mid 82 _ _ rfl (B + 1) 0 L.toArray (by rfl) (by rfl) hth hinfo2 hone ?_
        refine hK.out _ _ (World.rangeAt_setCells_apart hrg (B + 1) 0 _ (.inl HNE.out)) (fun hHeld3 => ?_)
        clear hK K
        try simp only [Act.put, List.setIfInBounds_toArray, List.set_cons_zero, List.set_cons_succ]
        refine wpAnyH_take (i := 4) (v := .int .i64 0) rfl (by kernel_rfl) (by kernel_rfl) (by kernel_rfl) (fun _ _ _ h => h) (Or.inl ⟨by kernel_rfl, fun w' hSw => by first | (go_simp; done) | (go_simp; rfl)⟩) hHeld3 ?_
        try simp only [Act.put, List.setIfInBounds_toArray, List.set_cons_zero, List.set_cons_succ]
        refine wpAnyH_done (by kernel_rfl) ?_ _
        go_wp2_with fail
        refine bodyPost_ret (v := .tuple #[.int .i64 m, .agg L.toArray, .int .i64 0]) (HEnd.out _ _ _ HP.out HL.out rfl) rfl HTo.out
end Go.Proofs.Ytgffippimmokiaa
