/- What shop.Open answers. -/
import Derived.Test.YtgffippimmokiaaShNewest
import Derived.Test.YtgffippimmokiaaShDo
import Derived.Test.YtgffippimmokiaaHotHead
namespace Go.Proofs.Ytgffippimmokiaa
open Go.RowKit
set_option linter.unusedSimpArgs false
set_option linter.unusedVariables false

theorem infoSh : (Try.prog.info? 92).map (·.size) = some 47 := by kernel_rfl
theorem wpList_built3 {P : Program} {ops : Array Oper} {rest : List Oper} {op : Oper} {a : Act} {w : World} {Q : Exit → Act → World → Prop} (hgd : op.guard = none) (ty : TypeId) (i j k : Nat) (x y z : Operand) (ho : op.op = .build ty #[(i, x), (j, y), (k, z)])
    (cells : Array Value) (hb : P.built ty [(i, a.eval x), (j, a.eval y), (k, a.eval z)] = some cells) (h : wpList P ops Q rest (a.put op.dst (.agg cells)) w) : wpList P ops Q (op :: rest) a w :=
  wpList_plain hgd fun _ hK => by
    have hb2 : P.built ty ((#[(i, x), (j, y), (k, z)] : Array (Nat × Operand)).map fun (n, u) => (n, a.eval u)).toList = some cells := by simpa using hb
    unfold Oper.wp execOp
    simp only [ho, Sem.run_bind, run_build w ty _ cells hb2, Result.andThen_ok]
    exact hK _ _ h
set_option maxRecDepth 20000 in
theorem sh_built {L : List Value} (h : L.length = 38) (a : ByteArray) (x : Int) (b : ByteArray) (y n : Int) : Try.prog.built 92 [(0, dkV a x b y), (1, Value.int .i64 n), (2, Value.agg L.toArray)] = some (shL a x b y n L 0 0 0 0).toArray := by
  match L, h with
  | x0 :: x1 :: x2 :: x3 :: x4 :: x5 :: x6 :: x7 :: x8 :: x9 :: x10 :: x11 :: x12 :: x13 :: x14 :: x15 :: x16 :: x17 :: x18 :: x19 :: x20 :: x21 :: x22 :: x23 :: x24 :: x25 :: x26 :: x27 :: x28 :: x29 :: x30 :: x31 :: x32 :: x33 :: x34 :: x35 :: x36 :: x37 :: [], _ =>
    show Try.prog.built 92 [(0, Value.agg #[.string a, .int .i64 x, .string b, .int .i64 y]), (1, Value.int .i64 n), (2, Value.agg #[x0, x1, x2, x3, x4, x5, x6, x7, x8, x9, x10, x11, x12, x13, x14, x15, x16, x17, x18, x19, x20, x21, x22, x23, x24, x25, x26, x27, x28, x29, x30, x31, x32, x33, x34, x35, x36, x37])] = some #[.string a, .int .i64 x, .string b, .int .i64 y, .int .i64 n, x0, x1, x2, x3, x4, x5, x6, x7, x8, x9, x10, x11, x12, x13, x14, x15, x16, x17, x18, x19, x20, x21, x22, x23, x24, x25, x26, x27, x28, x29, x30, x31, x32, x33, x34, x35, x36, x37, .int .i64 0, .int .i64 0, .int .i64 0, .int .i64 0]
    kernel_rfl
theorem shL_one {a b : ByteArray} {x y n f st fl sd : Int} {L : List Value} (h : ∀ u ∈ L, u.oneCell' = true) : ∀ u ∈ shL a x b y n L f st fl sd, u.oneCell' = true := by
  intro u hu
  simp only [shL, List.mem_cons, List.mem_append, List.not_mem_nil, or_false] at hu
  rcases hu with rfl | rfl | rfl | rfl | rfl | hu | rfl | rfl | rfl | rfl
  · rfl
  · rfl
  · rfl
  · rfl
  · rfl
  · exact h u hu
  · rfl
  · rfl
  · rfl
  · rfl

theorem DkBox {w : World} {a b : ByteArray} {x y : Int} : DkAt (w.alloc (.cells #[.string a, .int .i64 x, .string b, .int .i64 y] 26)) w.heap.size a x b y := heap_alloc_new w _
/-- a disk that is written over -/
theorem dk_over {w : World} {B : Nat} {a b : ByteArray} {x y : Int} (h : DkAt w B a x b y) (c : ByteArray) (u : Int) (d : ByteArray) (v : Int) :
    DkAt ((((w.setCell ⟨B, 0, none⟩ (.string c)).setCell ⟨B, 1, none⟩ (.int .i64 u)).setCell ⟨B, 2, none⟩ (.string d)).setCell ⟨B, 3, none⟩ (.int .i64 v)) B c u d v ∧ Aside B w ((((w.setCell ⟨B, 0, none⟩ (.string c)).setCell ⟨B, 1, none⟩ (.int .i64 u)).setCell ⟨B, 2, none⟩ (.string d)).setCell ⟨B, 3, none⟩ (.int .i64 v)) :=
  ⟨(((h.put0 c).put1 u).put2 d).put3 v, ((((Aside.refl B w).put 0 _).put 1 _).put 2 _).put 3 _⟩
/-- what is held while a disk is trimmed -/
def OpIs (w0 w : World) (B H : Nat) (a : ByteArray) (x : Int) (b : ByteArray) (y : Int) (L : List Value) (v : Value) (xs : List (Rv × Option Addr × Nat)) : Prop :=
  DkAt w B a x b y ∧ LgAt w H L ∧ RzsOwn w B v xs ∧ Below B w0 w ∧ B < H
theorem OpIs.below {w0 w w' : World} {B H : Nat} {a b : ByteArray} {x y : Int} {L : List Value} {v : Value} {xs : List (Rv × Option Addr × Nat)} (h : OpIs w0 w B H a x b y L v xs) (hb : Below w.heap.size w w') : OpIs w0 w' B H a x b y L v xs :=
  ⟨h.1.below hb h.1.lt, h.2.1.below hb h.2.1.lt, h.2.2.1.below hb, h.2.2.2.1.trans (hb.mono (Nat.le_of_lt h.1.lt)), h.2.2.2.2⟩
theorem OpIs.over {w0 w : World} {B H : Nat} {a b : ByteArray} {x y : Int} {L : List Value} {v : Value} {xs : List (Rv × Option Addr × Nat)} (h : OpIs w0 w B H a x b y L v xs) (c : ByteArray) (u : Int) (d : ByteArray) (z : Int) :
    OpIs w0 ((((w.setCell ⟨B, 0, none⟩ (.string c)).setCell ⟨B, 1, none⟩ (.int .i64 u)).setCell ⟨B, 2, none⟩ (.string d)).setCell ⟨B, 3, none⟩ (.int .i64 z)) B H c u d z L v xs := by
  obtain ⟨h1, h2, h3, h4, h5⟩ := h
  obtain ⟨d1, d2⟩ := dk_over h1 c u d z
  exact ⟨d1, d2.block h2 (by omega), h3.aside h1 (by decide) (by decide) d2, h4.trans (d2.below (Nat.le_refl _) (Nat.le_of_lt h1.lt)), h5⟩
/-- what Open answers, where it finds a log that is whole -/
def OpTo (T : Sh) (w : World) (e : Ending) (w' : World) : Prop :=
  ∃ g, e = .returned (.tuple #[.pointer (some ⟨g, 0, none⟩), .int .i64 0]) ∧ w.heap.size ≤ g ∧ ShIs w' g T ∧ Below w.heap.size w w'
set_option maxRecDepth 20000 in
set_option maxHeartbeats 4000000 in
theorem Open_walk (p : ByteArray) (x : Int) (q : ByteArray) (y : Int) (a1 : ByteArray) (x1 : Int) (b1 : ByteArray) (y1 : Int) (a2 : ByteArray) (x2 : Int) (b2 : ByteArray) (y2 : Int) (a3 : ByteArray) (x3 : Int) (b3 : ByteArray) (y3 m m' : Int) (S : Lg) (T : Sh) (w : World) (hTT : T.p0 = a3 ∧ T.x0 = x3 ∧ T.p1 = b3 ∧ T.x1 = y3 ∧ (T.cur : Int) = m ∧ T.log = S ∧ T.safe = S.base + S.revs.length ∧ T.stage = 0 ∧ T.floor = 0 ∧ T.said = 0)
    (h0 : dkE p x q y = 0) (hp : p.size ≤ 1048576) (hq : q.size ≤ 1048576) (hm : IntKind.i64.wrap (1 - m) = m') (hF : S.first.length = 16) (hT : S.table.length = 16) (h64 : S.revs.length ≤ 64) (hend : S.base + S.revs.length ≤ 2147483647)
    (hN : ∀ w : World, Calls Try.prog 36 #[dkV p x q y] w fun e w' => ∃ v xs, e = .returned (.tuple #[.int .i64 m, .agg (sC S v S.good).toArray, .int .i64 0]) ∧ RzsOwn w' w.heap.size v xs ∧ xs.map (·.1) = S.revs ∧ Below w.heap.size w w')
    (hA : ∀ w : World, Calls Try.prog 37 #[dkV p x q y, .int .i64 m, .int .i64 (S.good : Nat)] w fun e w' => e = .returned (.tuple #[dkV a1 x1 b1 y1, .int .i64 0]) ∧ Below w.heap.size w w')
    (hB : ∀ w : World, Calls Try.prog 38 #[dkV a1 x1 b1 y1, .int .i64 m] w fun e w' => e = .returned (.tuple #[dkV a2 x2 b2 y2, .int .i64 0]) ∧ Below w.heap.size w w')
    (hC : ∀ w : World, Calls Try.prog 37 #[dkV a2 x2 b2 y2, .int .i64 m', .int .i64 0] w fun e w' => e = .returned (.tuple #[dkV a3 x3 b3 y3, .int .i64 0]) ∧ Below w.heap.size w w') :
    Calls Try.prog 9 #[dkV p x q y] w fun e w' => OpTo T w e w' := by
  have HTT : Hid _ := hTT
  clear hTT
  have HCk : Hid (∀ w, Calls Try.prog 35 #[dkV p x q y] w fun e w' => e = .returned (.int .i64 0) ∧ Below w.heap.size w w') := fun w => by
    have h := DCheck_any p x q y w (by omega) (by omega)
    rw [h0] at h
    exact h
  have HN : Hid _ := hN
  have HA : Hid _ := hA
  have HB : Hid _ := hB
  have HC : Hid _ := hC
  have HFT : Hid (S.first.length = 16 ∧ S.table.length = 16) := ⟨hF, hT⟩
  have HBd : Hid (S.revs.length ≤ 64 ∧ S.base + S.revs.length ≤ 2147483647) := ⟨h64, hend⟩
  clear hN hA hB hC hF hT h64 hend h0 hp hq
  obtain ⟨B, hB⟩ : ∃ B, w.heap.size = B := ⟨_, rfl⟩
  have HW : Hid (w.heap.size = B) := hB
  have HD0 : Hid (DkAt (w.alloc (.cells #[.string p, .int .i64 x, .string q, .int .i64 y] 26)) B p x q y ∧ Below B w (w.alloc (.cells #[.string p, .int .i64 x, .string q, .int .i64 y] 26))) := by
    rw [← hB]
    exact ⟨DkBox, (Below.refl _ w).alloc (Nat.le_refl _) _⟩
  go_enter Try.func9, Try.ntmps9
  go_upto_region 1 with fail
  generalize w.alloc (.cells #[.string p, .int .i64 x, .string q, .int .i64 y] 26) = w0 at HD0 ⊢
  obtain ⟨c0, c1, c2, c3⟩ := HD0.out.1.cells
  have hl := HD0.out.1.lt
  clear hB
  go_wp2_with fail
  with_reducible refine (HCk.out _).mono ?_
  rintro e w1 ⟨rfl, hb1⟩
  have HD1 : Hid (DkAt w1 B p x q y ∧ Below B w w1) := ⟨HD0.out.1.below hb1 hl, HD0.out.2.trans (hb1.mono (by omega))⟩
  clear c0 c1 c2 c3 hl hb1
  obtain ⟨c0, c1, c2, c3⟩ := HD1.out.1.cells
  have hl := HD1.out.1.lt
  go_wp2_with fail
  with_reducible refine (HN.out _).mono ?_
  rintro e w2 ⟨v, xs, rfl, hz, hx, hb2⟩
  obtain ⟨va, vc, hv⟩ := rzs_form hz
  have HI : Hid _ := log_into (sC_len (v := v) (gd := (S.good : Int)) HFT.out.1 HFT.out.2) (lgC_one (by rw [hv]; rfl))
  have HL : Hid ((sC S v S.good).length = 38) := sC_len HFT.out.1 HFT.out.2
  have hba : Below w2.heap.size w2 (w2.alloc (.cells (sC S v S.good).toArray 82)) := (Below.refl _ w2).alloc (Nat.le_refl _) _
  have HG2 : Hid (LgAt (w2.alloc (.cells (sC S v S.good).toArray 82)) w2.heap.size (sC S v S.good)) := heap_alloc_new w2 _
  have HD2 : Hid (DkAt (w2.alloc (.cells (sC S v S.good).toArray 82)) B p x q y ∧ Below B w (w2.alloc (.cells (sC S v S.good).toArray 82))) := by
    have h := HD1.out.1.below hb2 hl
    exact ⟨h.below hba h.lt, (HD1.out.2.trans (hb2.mono (by omega))).trans (hba.mono (by have := h.lt; omega))⟩
  have HZ2 : Hid (RzsOwn (w2.alloc (.cells (sC S v S.good).toArray 82)) B v xs ∧ xs.map (·.1) = S.revs) := ⟨(hz.base (by omega)).below hba, hx⟩
  have HVf : Hid (v.oneCell' = true ∧ v = .slice va S.revs.length vc) := ⟨by rw [hv]; rfl, by rw [hv, ← hx, List.length_map]⟩
  have HBH : Hid (B < w2.heap.size) := (HD1.out.1.below hb2 hl).lt
  clear hz hx hb2 hba hv c0 c1 c2 c3 hl
  obtain ⟨L, hL⟩ : ∃ L, sC S v S.good = L := ⟨_, rfl⟩
  have HLE : Hid (sC S v S.good = L) := hL
  rw [hL] at HI HL HG2 HD2 HZ2 ⊢
  clear hL
  go_upto_region 5 with (refine wpList_store_new rfl 82 _ _ rfl _ L.toArray (by rfl) (by rfl) HI.out.1 (by exact HI.out.2.1) HI.out.2.2.1 ?_)
  generalize w2.alloc (.cells L.toArray 82) = w3 at HG2 HD2 HZ2 ⊢
  obtain ⟨H, hH⟩ : ∃ H, w2.heap.size = H := ⟨_, rfl⟩
  rw [hH] at HG2 HBH ⊢
  clear hH
  obtain ⟨_, _, l37, _⟩ := lg_at (gen := S.gen) (base := S.base) (text := S.text) (F := S.first) (T := S.table) (rv := v) (wh := S.whole) (gd := S.good) HFT.out.1 HFT.out.2
  have HG37 : Hid (L[37]? = some (.int .i64 S.good)) := by show _ = _; rw [← HLE.out]; exact l37
  clear l37
  have g37 := HG2.out.cell HG37.out
  obtain ⟨c0, c1, c2, c3⟩ := HD2.out.1.cells
  have hl := HD2.out.1.lt
  have hl2 := HG2.out.lt
  go_wp2_with fail
  with_reducible refine (HA.out _).mono ?_
  rintro e w4 ⟨rfl, hb4⟩
  have HO2 : Hid (OpIs w w3 B H p x q y L v xs) := ⟨HD2.out.1, HG2.out, HZ2.out.1, HD2.out.2, HBH.out⟩
  have HO4 : Hid (OpIs w w4 B H p x q y L v xs) := HO2.out.below hb4
  clear c0 c1 c2 c3 hl hl2 hb4 g37 HD2 HG2
  obtain ⟨c0, c1, c2, c3⟩ := HO4.out.1.cells
  obtain ⟨f0, f1, f2, f3⟩ := HO4.out.1.free
  have hl := HO4.out.1.lt
  have HO5 : Hid (OpIs w ((((w4.setCell ⟨B, 0, none⟩ (.string a1)).setCell ⟨B, 1, none⟩ (.int .i64 x1)).setCell ⟨B, 2, none⟩ (.string b1)).setCell ⟨B, 3, none⟩ (.int .i64 y1)) B H a1 x1 b1 y1 L v xs) := HO4.out.over a1 x1 b1 y1
  go_upto_region 8 with fail
  generalize (((w4.setCell ⟨B, 0, none⟩ (.string a1)).setCell ⟨B, 1, none⟩ (.int .i64 x1)).setCell ⟨B, 2, none⟩ (.string b1)).setCell ⟨B, 3, none⟩ (.int .i64 y1) = w5 at HO5 ⊢
  clear c0 c1 c2 c3 f0 f1 f2 f3 hl
  obtain ⟨c0, c1, c2, c3⟩ := HO5.out.1.cells
  have hl := HO5.out.1.lt
  go_wp2_with fail
  with_reducible refine (HB.out _).mono ?_
  rintro e w6 ⟨rfl, hb6⟩
  have HO6 : Hid (OpIs w w6 B H a1 x1 b1 y1 L v xs) := HO5.out.below hb6
  clear c0 c1 c2 c3 hl hb6
  obtain ⟨c0, c1, c2, c3⟩ := HO6.out.1.cells
  obtain ⟨f0, f1, f2, f3⟩ := HO6.out.1.free
  have hl := HO6.out.1.lt
  have HO7 : Hid (OpIs w ((((w6.setCell ⟨B, 0, none⟩ (.string a2)).setCell ⟨B, 1, none⟩ (.int .i64 x2)).setCell ⟨B, 2, none⟩ (.string b2)).setCell ⟨B, 3, none⟩ (.int .i64 y2)) B H a2 x2 b2 y2 L v xs) := HO6.out.over a2 x2 b2 y2
  go_upto_region 9 with fail
  generalize (((w6.setCell ⟨B, 0, none⟩ (.string a2)).setCell ⟨B, 1, none⟩ (.int .i64 x2)).setCell ⟨B, 2, none⟩ (.string b2)).setCell ⟨B, 3, none⟩ (.int .i64 y2) = w7 at HO7 ⊢
  clear c0 c1 c2 c3 f0 f1 f2 f3 hl
  obtain ⟨c0, c1, c2, c3⟩ := HO7.out.1.cells
  have hl := HO7.out.1.lt
  go_wp2_with fail
  with_reducible refine (HC.out _).mono ?_
  rintro e w8 ⟨rfl, hb8⟩
  have HO8 : Hid (OpIs w w8 B H a2 x2 b2 y2 L v xs) := HO7.out.below hb8
  clear c0 c1 c2 c3 hl hb8
  obtain ⟨c0, c1, c2, c3⟩ := HO8.out.1.cells
  obtain ⟨f0, f1, f2, f3⟩ := HO8.out.1.free
  have hl := HO8.out.1.lt
  have HO9 : Hid (OpIs w ((((w8.setCell ⟨B, 0, none⟩ (.string a3)).setCell ⟨B, 1, none⟩ (.int .i64 x3)).setCell ⟨B, 2, none⟩ (.string b3)).setCell ⟨B, 3, none⟩ (.int .i64 y3)) B H a3 x3 b3 y3 L v xs) := HO8.out.over a3 x3 b3 y3
  go_upto_region 10 with fail
  generalize (((w8.setCell ⟨B, 0, none⟩ (.string a3)).setCell ⟨B, 1, none⟩ (.int .i64 x3)).setCell ⟨B, 2, none⟩ (.string b3)).setCell ⟨B, 3, none⟩ (.int .i64 y3) = w9 at HO9 ⊢
  clear c0 c1 c2 c3 f0 f1 f2 f3 hl
  obtain ⟨c0, c1, c2, c3⟩ := HO9.out.1.cells
  have hl := HO9.out.1.lt
  have HA9 : Hid (w9.rangeAt H 0 L) := HO9.out.2.1.all
  have hbx : Below w9.heap.size w9 (w9.alloc (.cells (shL a3 x3 b3 y3 m L 0 0 0 0).toArray 92)) := (Below.refl _ w9).alloc (Nat.le_refl _) _
  have HG10 : Hid (ShAt (w9.alloc (.cells (shL a3 x3 b3 y3 m L 0 0 0 0).toArray 92)) w9.heap.size (shL a3 x3 b3 y3 m L 0 0 0 0) ∧ RzsOwn (w9.alloc (.cells (shL a3 x3 b3 y3 m L 0 0 0 0).toArray 92)) B v xs ∧ Below B w (w9.alloc (.cells (shL a3 x3 b3 y3 m L 0 0 0 0).toArray 92)) ∧ B ≤ w9.heap.size) :=
    ⟨heap_alloc_new w9 _, HO9.out.2.2.1.below hbx, HO9.out.2.2.2.1.trans (hbx.mono (Nat.le_of_lt hl)), Nat.le_of_lt hl⟩
  clear hbx
  go_upto_region 11 with (first | refine wpList_load_mid rfl 82 _ rfl H 0 rfl L _ HA9.out Try.underlying82 rfl HI.out.2.2.2 ?_ | refine wpList_built3 rfl 92 _ _ _ _ _ _ rfl (shL a3 x3 b3 y3 m L 0 0 0 0).toArray (by exact sh_built HL.out _ _ _ _ _) ?_)
  generalize w9.alloc (.cells (shL a3 x3 b3 y3 m L 0 0 0 0).toArray 92) = w10 at HG10 ⊢
  obtain ⟨g, hg⟩ : ∃ g, w9.heap.size = g := ⟨_, rfl⟩
  rw [hg] at HG10 ⊢
  obtain ⟨t0, t1, t2, t3, t4, t5, t6, t7, t8, t9⟩ := HTT.out
  have HC0 : Hid (shC { T with safe := 0 } v = shL a3 x3 b3 y3 m L 0 0 0 0) := by
    show shL T.p0 T.x0 T.p1 T.x1 T.cur (sC T.log v T.log.good) ((0 : Nat) : Int) T.stage T.floor T.said = _
    rw [t0, t1, t2, t3, t4, t5, t7, t8, t9, HLE.out]; rfl
  have HS10 : Hid (ShOf w10 g { T with safe := 0 } v xs) := by
    refine ⟨?_, HG10.out.2.1.base (Nat.zero_le _), HZ2.out.2.trans ?_, ?_, ?_⟩
    · rw [HC0.out]; exact HG10.out.1
    · show S.revs = T.log.revs; rw [t5]
    · show T.log.first.length = 16; rw [t5]; exact HFT.out.1
    · show T.log.table.length = 16; rw [t5]; exact HFT.out.2
  have HI10 : Hid (ShIs w10 g { T with safe := 0 }) := ⟨v, xs, HS10.out⟩
  have HB10 : Hid (Below B w w10 ∧ B ≤ g) := ⟨HG10.out.2.2.1, HG10.out.2.2.2⟩
  have HHd : Hid _ := fun w h => ShHead_any { T with safe := 0 } g w h (by show T.log.revs.length ≤ 64; rw [t5]; exact HBd.out.1) (by show T.log.base + T.log.revs.length ≤ _; rw [t5]; exact HBd.out.2)
  have HTE : Hid (headN { T with safe := 0 } = T.safe) := by show T.log.base + T.log.revs.length = T.safe; rw [t5, t6]
  rw [HTE.out] at HHd
  clear hg c0 c1 c2 c3 hl t0 t1 t2 t3 t4 t5 t6 t7 t8 t9 HA9 HG10
  go_wp2_with fail
  with_reducible refine (HHd.out _ HI10.out).mono ?_
  rintro e w11 ⟨rfl, hb11⟩
  have HS11 : Hid (ShOf w11 g { T with safe := 0 } v xs) := HS10.out.below hb11
  have HB11 : Hid (Below B w w11 ∧ B ≤ g) := ⟨HB10.out.1.trans (hb11.mono (by have := HS10.out.1.lt; have := HB10.out.2; omega)), HB10.out.2⟩
  clear hb11
  obtain ⟨_, _, c43, _⟩ := HS11.out.cells
  have f43 := HS11.out.1.free 43
  go_wp2_with fail
  go_ret2
  have hF := HS11.out.2.2.2.1
  have hTb := HS11.out.2.2.2.2
  have has : Aside g w11 (w11.setCell ⟨g, 43, none⟩ (.int .i64 (T.safe : Nat))) := (Aside.refl g w11).put 43 _
  have hput := HS11.out.1.put 43 (.int .i64 (T.safe : Nat))
  have e43 : (shC { T with safe := 0 } v).set 43 (.int .i64 (T.safe : Nat)) = shC T v := (shL_set (sC_len hF hTb)).2.1 (T.safe : Nat)
  rw [e43] at hput
  exact ⟨g, rfl, by rw [HW.out]; exact HB11.out.2, ⟨v, xs, HS11.out.revs has hput rfl hF hTb⟩, by rw [HW.out]; exact HB11.out.1.trans (has.below HB11.out.2 (by have := HS11.out.1.lt; have := HB11.out.2; omega))⟩
end Go.Proofs.Ytgffippimmokiaa

/- shop.Open, whatever lies on the disk. -/
namespace Go.Proofs.Ytgffippimmokiaa
open Go.RowKit
set_option linter.unusedSimpArgs false
set_option linter.unusedVariables false

theorem step_facts (k : Nat) (l : List UInt8) (A : Nat × Lg) : stepN k l A = A ∨ (stepN k l A = (k, logS (scanL l).1) ∧ logE (scanL l).1 = 0 ∧ (logS (scanL l).1).whole = true) := by
  unfold stepN
  split
  · rename_i h; exact .inr ⟨rfl, h.1, h.2.1⟩
  · exact .inl rfl
theorem new_facts {p q : List UInt8} (h : (newN p q).2.whole = true) : ((newN p q) = (0, logS (scanL p).1) ∧ logE (scanL p).1 = 0) ∨ ((newN p q) = (1, logS (scanL q).1) ∧ logE (scanL q).1 = 0) := by
  unfold newN at h ⊢
  rcases step_facts 1 q (stepN 0 p (0, nilLg)) with h1 | ⟨h1, h2, _⟩
  · rw [h1] at h ⊢
    rcases step_facts 0 p (0, nilLg) with h3 | ⟨h3, h4, _⟩
    · rw [h3] at h; cases h
    · exact .inl ⟨h3, h4⟩
  · exact .inr ⟨h1, h2⟩
/-- the archive that lies on a disk -/
noncomputable def openS (p q : ByteArray) : Sh :=
  { c := (if (newN p.data.toList q.data.toList).1 = 0 then p else q).extract 0 (newN p.data.toList q.data.toList).2.good, x := (newN p.data.toList q.data.toList).2.good, o := ⟨#[]⟩, y := 0, cur := (newN p.data.toList q.data.toList).1, log := (newN p.data.toList q.data.toList).2,
    safe := (newN p.data.toList q.data.toList).2.base + (newN p.data.toList q.data.toList).2.revs.length, stage := 0, floor := 0, said := 0 }
theorem Open_ok (p : ByteArray) (x : Int) (q : ByteArray) (y : Int) (w : World) (h0 : dkE p x q y = 0) (hw : (newN p.data.toList q.data.toList).2.whole = true) :
    Calls Try.prog 9 #[dkV p x q y] w fun e w' => OpTo (openS p q) w e w' := by
  obtain ⟨k1, k2⟩ := dk_zero h0
  obtain ⟨m0, m1, m2⟩ := sl_zero k1
  obtain ⟨l0, l1, l2⟩ := sl_zero k2
  obtain ⟨A, hA⟩ : ∃ A, newN p.data.toList q.data.toList = A := ⟨_, rfl⟩
  have hN : ∀ w : World, Calls Try.prog 36 #[dkV p x q y] w fun e w' => ∃ v xs, e = .returned (.tuple #[.int .i64 (A.1 : Nat), .agg (sC A.2 v A.2.good).toArray, .int .i64 0]) ∧ RzsOwn w' w.heap.size v xs ∧ xs.map (·.1) = A.2.revs ∧ Below w.heap.size w w' := by
    intro w
    refine (newest_any p x q y w (by omega) (by omega)).mono fun e w' h => ?_
    obtain ⟨v, xs, h1, h2, h3, h4⟩ := h
    rw [hA] at h1 h3 hw
    rw [hw] at h1 h3
    exact ⟨v, xs, h1, h2, h3, h4⟩
  have hOS : openS p q = { c := (if A.1 = 0 then p else q).extract 0 A.2.good, x := A.2.good, o := ⟨#[]⟩, y := 0, cur := A.1, log := A.2, safe := A.2.base + A.2.revs.length, stage := 0, floor := 0, said := 0 } := by
    unfold openS; rw [hA]
  have hpl : p.data.toList.length = p.size := Array.length_toList
  have hql : q.data.toList.length = q.size := Array.length_toList
  rcases new_facts hw with ⟨hN0, he⟩ | ⟨hN0, he⟩
  · rw [hA] at hN0
    obtain ⟨n, ok⟩ := logS_ok he
    have hgd := log_good he
    rw [hN0] at hN hOS
    rw [hOS]
    generalize logS (scanL p.data.toList).1 = S at *
    have hsz : (p.extract 0 S.good).size = S.good := by rw [ByteArray.size_extract]; omega
    have hs1 : slE (p.extract 0 S.good) (min x (S.good : Int)) = 0 := sl_of (by omega) (by omega) (by omega)
    have hs2 : slE (p.extract 0 S.good) ((p.extract 0 S.good).size : Nat) = 0 := sl_of (by omega) (by omega) (by omega)
    refine Open_walk p x q y (p.extract 0 S.good) (min x (S.good : Int)) q y (p.extract 0 S.good) ((p.extract 0 S.good).size : Nat) q y (p.extract 0 S.good) ((p.extract 0 S.good).size : Nat) ⟨#[]⟩ 0 0 1 S _ w ⟨rfl, ?_, rfl, rfl, rfl, rfl, rfl, rfl, rfl, rfl⟩ h0 m0 l0 (by decide) ok.first ok.table ok.revs ok.ends hN
      (fun w => DTrim_ok0 p x q y S.good (dks_of h0 (.inl rfl)) (by omega) w (by omega) (by omega))
      (fun w => DSync_ok0 _ _ q y (dks_of (dk_of hs1 k2) (.inl rfl)) w (by omega) (by omega)) (fun w => ?_)
    · show ((S.good : Nat) : Int) = _; rw [hsz]
    · have h := DTrim_ok1 (p.extract 0 S.good) ((p.extract 0 S.good).size : Nat) q y 0 (dks_of (dk_of hs2 k2) (.inr rfl)) (Nat.zero_le _) w (by omega) (by omega)
      rw [extract_none, show min y ((0 : Nat) : Int) = 0 by omega] at h
      exact h
  · rw [hA] at hN0
    obtain ⟨n, ok⟩ := logS_ok he
    have hgd := log_good he
    rw [hN0] at hN hOS
    rw [hOS]
    generalize logS (scanL q.data.toList).1 = S at *
    have hsz : (q.extract 0 S.good).size = S.good := by rw [ByteArray.size_extract]; omega
    have hs1 : slE (q.extract 0 S.good) (min y (S.good : Int)) = 0 := sl_of (by omega) (by omega) (by omega)
    have hs2 : slE (q.extract 0 S.good) ((q.extract 0 S.good).size : Nat) = 0 := sl_of (by omega) (by omega) (by omega)
    refine Open_walk p x q y p x (q.extract 0 S.good) (min y (S.good : Int)) p x (q.extract 0 S.good) ((q.extract 0 S.good).size : Nat) ⟨#[]⟩ 0 (q.extract 0 S.good) ((q.extract 0 S.good).size : Nat) 1 0 S _ w ⟨rfl, rfl, rfl, ?_, rfl, rfl, rfl, rfl, rfl, rfl⟩ h0 m0 l0 (by decide) ok.first ok.table ok.revs ok.ends hN
      (fun w => DTrim_ok1 p x q y S.good (dks_of h0 (.inr rfl)) (by omega) w (by omega) (by omega))
      (fun w => DSync_ok1 p x _ _ (dks_of (dk_of k1 hs1) (.inr rfl)) w (by omega) (by omega)) (fun w => ?_)
    · show ((S.good : Nat) : Int) = _; rw [hsz]
    · have h := DTrim_ok0 p x (q.extract 0 S.good) ((q.extract 0 S.good).size : Nat) 0 (dks_of (dk_of k1 hs2) (.inl rfl)) (Nat.zero_le _) w (by omega) (by omega)
      rw [extract_none, show min x ((0 : Nat) : Int) = 0 by omega] at h
      exact h
/-- what is wrong with a disk as an archive -/
noncomputable def openE (p : ByteArray) (x : Int) (q : ByteArray) (y : Int) : Int := if dkE p x q y = 0 then (if (newN p.data.toList q.data.toList).2.whole then 0 else 12) else dkE p x q y
set_option maxRecDepth 20000 in
set_option maxHeartbeats 2000000 in
theorem Open_not (p : ByteArray) (x : Int) (q : ByteArray) (y : Int) (w : World) (hp : p.size ≤ 9223372036854775807) (hq : q.size ≤ 9223372036854775807) (h : openE p x q y ≠ 0) :
    Calls Try.prog 9 #[dkV p x q y] w fun e w' => e = .returned (.tuple #[.pointer none, .int .i64 (openE p x q y)]) ∧ Below w.heap.size w w' := by
  have HCk : Hid _ := fun w => DCheck_any p x q y w hp hq
  have HD0 : Hid (DkAt (w.alloc (.cells #[.string p, .int .i64 x, .string q, .int .i64 y] 26)) w.heap.size p x q y ∧ Below w.heap.size w (w.alloc (.cells #[.string p, .int .i64 x, .string q, .int .i64 y] 26))) :=
    ⟨DkBox, (Below.refl _ w).alloc (Nat.le_refl _) _⟩
  by_cases h0 : dkE p x q y = 0
  · have hw : (newN p.data.toList q.data.toList).2.whole = false := by
      cases hx : (newN p.data.toList q.data.toList).2.whole with
      | false => rfl
      | true => exact absurd (by rw [openE, if_pos h0, hx]; rfl) h
    have he : openE p x q y = 12 := by rw [openE, if_pos h0, hw]; rfl
    rw [he]
    rw [h0] at HCk
    have HN : Hid (∀ w : World, Calls Try.prog 36 #[dkV p x q y] w fun e w' => ∃ v : Value, v.oneCell' = true ∧ e = .returned (.tuple #[.int .i64 0, .agg (sC nilLg v nilLg.good).toArray, .int .i64 12]) ∧ Below w.heap.size w w') := by
      intro w
      refine (newest_any p x q y w hp hq).mono fun e w' h => ?_
      obtain ⟨v, xs, h1, h2, h3, h4⟩ := h
      rw [hw] at h1 h3
      obtain ⟨va, vc, hv⟩ := rzs_form h2
      exact ⟨v, by rw [hv]; rfl, h1, h4⟩
    clear hw he h h0 hp hq
    go_enter Try.func9, Try.ntmps9
    go_upto_region 1 with fail
    generalize w.alloc (.cells #[.string p, .int .i64 x, .string q, .int .i64 y] 26) = w0 at HD0 ⊢
    obtain ⟨c0, c1, c2, c3⟩ := HD0.out.1.cells
    have hl := HD0.out.1.lt
    go_wp2_with fail
    with_reducible refine (HCk.out _).mono ?_
    rintro e w1 ⟨rfl, hb1⟩
    have HD1 : Hid (DkAt w1 w.heap.size p x q y ∧ Below w.heap.size w w1) := ⟨HD0.out.1.below hb1 hl, HD0.out.2.trans (hb1.mono (by omega))⟩
    clear c0 c1 c2 c3 hl hb1
    obtain ⟨c0, c1, c2, c3⟩ := HD1.out.1.cells
    have hl := HD1.out.1.lt
    go_wp2_with fail
    with_reducible refine (HN.out _).mono ?_
    rintro e w2 ⟨v, hv, rfl, hb2⟩
    have HI : Hid _ := log_into (sC_len (S := nilLg) (v := v) (gd := (nilLg.good : Int)) rfl rfl) (lgC_one hv)
    have HB2 : Hid (Below w.heap.size w (w2.alloc (.cells (sC nilLg v nilLg.good).toArray 82))) := (HD1.out.2.trans (hb2.mono (by omega))).alloc (by have := hb2.size; omega) _
    clear hb2 c0 c1 c2 c3 hl
    obtain ⟨L, hL⟩ : ∃ L, sC nilLg v nilLg.good = L := ⟨_, rfl⟩
    rw [hL] at HI HB2 ⊢
    clear hL
    go_upto_region 5 with (refine wpList_store_new rfl 82 _ _ rfl _ L.toArray (by rfl) (by rfl) HI.out.1 (by exact HI.out.2.1) HI.out.2.2.1 ?_)
    generalize w2.alloc (.cells L.toArray 82) = w3 at HB2 ⊢
    go_wp2_with fail
    go_ret2
    exact ⟨rfl, HB2.out⟩
  · have he : openE p x q y = dkE p x q y := by rw [openE, if_neg h0]
    rw [he]
    have hq' : (dkE p x q y != 0) = true := by simp [h0]
    generalize dkE p x q y = d at *
    clear he h h0
    go_enter Try.func9, Try.ntmps9
    go_upto_region 1 with fail
    generalize w.alloc (.cells #[.string p, .int .i64 x, .string q, .int .i64 y] 26) = w0 at HD0 ⊢
    obtain ⟨c0, c1, c2, c3⟩ := HD0.out.1.cells
    have hl := HD0.out.1.lt
    go_wp2_with fail
    with_reducible refine (HCk.out _).mono ?_
    rintro e w1 ⟨rfl, hb1⟩
    have HB1 : Hid (Below w.heap.size w w1) := HD0.out.2.trans (hb1.mono (by omega))
    clear hb1 c0 c1 c2 c3 hl
    go_wp2_with fail
    go_ret2
    exact ⟨rfl, HB1.out⟩
end Go.Proofs.Ytgffippimmokiaa

/- What an archive's slot says: a head with any table, revisions, Done, revisions: no program in it. -/
namespace Go.Proofs.Ytgffippimmokiaa
set_option linter.unusedSimpArgs false
set_option linter.unusedVariables false

/-- a table that can be written -/
def TabOk (F : List Int) : Prop := F.length = 16 ∧ ∀ x ∈ F, 0 ≤ x ∧ x ≤ 2147483647
def headF (gen base : Nat) (F : List Int) (text : List UInt8) : Fr := ⟨1, numsL (gen :: base :: F.map Int.toNat) ++ text⟩
def headS (gen base : Nat) (F : List Int) (text : List UInt8) : Lg := ⟨gen, base, text, F, F, [], false, rowN [headF gen base F text]⟩
theorem wn_all {l : List Int} (h : ∀ x ∈ l, 0 ≤ x ∧ x ≤ 2147483647) : wnE l = 0 := by
  induction l with
  | nil => rfl
  | cons n l ih => rw [wnE, if_pos (h n (by simp)), ih (fun x hx => h x (by simp [hx]))]
theorem back_nat {F : List Int} (h : ∀ x ∈ F, 0 ≤ x ∧ x ≤ 2147483647) : (F.map Int.toNat).map (fun n : Nat => (n : Int)) = F := by
  induction F with
  | nil => rfl
  | cons x F ih =>
    rw [List.map_cons, List.map_cons, ih (fun y hy => h y (by simp [hy]))]
    have := h x (by simp)
    congr 1
    omega
theorem head_all {gen base : Nat} {F : List Int} {text : List UInt8} (hg : gen ≤ 2147483647) (hb : base ≤ 2147483647) (hF : TabOk F) (ht : text.length ≤ 500) :
    hdE ((gen : Int) :: (base : Int) :: F) text = 0 ∧ hdT ((gen : Int) :: (base : Int) :: F) text = rowL [headF gen base F text] ∧ frOk (headF gen base F text) = true ∧ hdL (headF gen base F text) = some (headS gen base F text) := by
  have h1 : wnE ((gen : Int) :: (base : Int) :: F) = 0 := wn_all (by
    intro x hx
    rcases List.mem_cons.1 hx with rfl | hx
    · omega
    · rcases List.mem_cons.1 hx with rfl | hx
      · omega
      · exact hF.2 x hx)
  have h2 : wnT ((gen : Int) :: (base : Int) :: F) = numsL (gen :: base :: F.map Int.toNat) := by
    rw [wnT, if_pos h1]
    congr 1
  have hl := wn_len ((gen : Int) :: (base : Int) :: F)
  rw [h2] at hl
  have h16 := hF.1
  have hl2 : (numsL (gen :: base :: F.map Int.toNat)).length ≤ 90 := by simp only [List.length_cons] at hl; omega
  have hp : putE 1 (numsL (gen :: base :: F.map Int.toNat) ++ text) = 0 := putE_of (by decide) (by decide) (by rw [List.length_append]; omega)
  refine ⟨by rw [hdE, if_pos h1, if_neg (by omega), h2, hp], ?_, ?_, ?_⟩
  · rw [hdT, if_pos ⟨h1, ht⟩, h2, putT, if_pos hp]
    simp [rowL, headF]
  · simp only [frOk, decide_eq_true_eq]
    exact hp
  · have hn := nums_get (gen :: base :: F.map Int.toNat) (by
      intro n hn
      rcases List.mem_cons.1 hn with rfl | hn
      · exact hg
      · rcases List.mem_cons.1 hn with rfl | hn
        · exact hb
        · obtain ⟨x, hx, rfl⟩ := List.mem_map.1 hn
          have := hF.2 x hx
          omega) text
    have hlen : (gen :: base :: F.map Int.toNat).length = 18 := by simp [h16]
    rw [hlen] at hn
    rw [hdL, if_pos (show (headF gen base F text).k = 1 from rfl), show (headF gen base F text).t = numsL (gen :: base :: F.map Int.toNat) ++ text from rfl, hn]
    simp only
    rw [if_pos ht]
    simp only [List.getElem?_cons_zero, List.getElem?_cons_succ, Option.getD_some, List.drop_succ_cons, List.drop_zero, back_nat hF.2]
    rfl
/-! Revisions, one after the other. -/
def addR (S : Lg) (r : Rv) : Lg := { S with table := tabPut S.table r.who r.seq (S.base + (S.revs.length + 1)), revs := S.revs ++ [r], good := S.good + ((revB r).length + 7) }
def addL : Lg → List Rv → Lg
  | S, [] => S
  | S, r :: l => addL (addR S r) l
/-- may they come, one after the other? -/
def mayL : Lg → Int → List Rv → Prop
  | _, _, [] => True
  | S, n, r :: l => nextE S.table S.base S.revs.length n r = 0 ∧ mayL (addR S r) (outI r.d) l
def lastN : Int → List Rv → Int
  | n, [] => n
  | _, r :: l => lastN (outI r.d) l
theorem walk_may (l : List Rv) : ∀ (S : Lg) (n : Int) (fs : List Fr), mayL S n l → walkL S n (l.map revFr ++ fs) = walkL (addL S l) (lastN n l) fs := by
  induction l with
  | nil => intro S n fs _; rfl
  | cons r l ih =>
    intro S n fs h
    rw [List.map_cons, List.cons_append, walk_some _ (step_rev h.1)]
    exact ih _ _ fs h.2
theorem add_facts (l : List Rv) : ∀ S : Lg, (addL S l).revs = S.revs ++ l ∧ (addL S l).base = S.base ∧ (addL S l).gen = S.gen ∧ (addL S l).text = S.text ∧ (addL S l).first = S.first ∧ (addL S l).whole = S.whole ∧ (addL S l).good = S.good + rowN (l.map revFr) := by
  induction l with
  | nil => intro S; exact ⟨by rw [List.append_nil]; rfl, rfl, rfl, rfl, rfl, rfl, rfl⟩
  | cons r l ih =>
    intro S
    obtain ⟨h1, h2, h3, h4, h5, h6, h7⟩ := ih (addR S r)
    refine ⟨by show (addL (addR S r) l).revs = _; rw [h1]; simp [addR], h2, h3, h4, h5, h6, ?_⟩
    show (addL (addR S r) l).good = _
    rw [h7]
    show S.good + ((revB r).length + 7) + rowN (l.map revFr) = S.good + (((revB r).length + 7) + rowN (l.map revFr))
    omega
theorem add_app (a b : List Rv) : ∀ S : Lg, addL S (a ++ b) = addL (addL S a) b := by
  induction a with
  | nil => intro S; rfl
  | cons r a ih => intro S; exact ih (addR S r)
theorem last_app (a b : List Rv) : ∀ n : Int, lastN n (a ++ b) = lastN (lastN n a) b := by
  induction a with
  | nil => intro n; rfl
  | cons r a ih => intro n; exact ih (outI r.d)
theorem may_app (a b : List Rv) : ∀ (S : Lg) (n : Int), mayL S n (a ++ b) ↔ mayL S n a ∧ mayL (addL S a) (lastN n a) b := by
  induction a with
  | nil => intro S n; exact ⟨fun h => ⟨trivial, h⟩, fun h => h.2⟩
  | cons r a ih =>
    intro S n
    have h := ih (addR S r) (outI r.d)
    exact ⟨fun x => ⟨⟨x.1, (h.1 x.2).1⟩, (h.1 x.2).2⟩, fun x => ⟨x.1.1, h.2 ⟨x.1.2, x.2⟩⟩⟩
/-- a log that begins later bears what the elder one bears -/
theorem may_move (l : List Rv) : ∀ (S T : Lg) (n : Int), S.table = T.table → S.base + S.revs.length = T.base + T.revs.length → S.revs.length ≤ T.revs.length → mayL T n l → mayL S n l ∧ (addL S l).table = (addL T l).table := by
  induction l with
  | nil => intro S T n ht _ _ _; exact ⟨trivial, ht⟩
  | cons r l ih =>
    intro S T n ht hb hr h
    obtain ⟨h1, h2⟩ := h
    obtain ⟨n1, n2, n3, n4, n5, n6⟩ := next_zero h1
    have h0 : nextE S.table S.base S.revs.length n r = 0 := by
      rw [nextE, if_pos n1, if_neg (by rw [ht]; omega), if_neg (by omega), fitsE, if_pos n5, if_pos n6]
    have e : ((S.base : Int) + ((S.revs.length : Int) + 1)) = (T.base : Int) + ((T.revs.length : Int) + 1) := by omega
    obtain ⟨i1, i2⟩ := ih (addR S r) (addR T r) (outI r.d) (by show tabPut _ _ _ _ = tabPut _ _ _ _; rw [ht, e]) (by show S.base + (S.revs ++ [r]).length = T.base + (T.revs ++ [r]).length; simp only [List.length_append, List.length_singleton]; omega) (by show (S.revs ++ [r]).length ≤ (T.revs ++ [r]).length; simp only [List.length_append, List.length_singleton]; omega) h2
    exact ⟨⟨h0, i1⟩, i2⟩
/-- whether it is whole makes no difference -/
theorem may_whole (l : List Rv) (S : Lg) (n : Int) (w : Bool) (g : Nat) (h : mayL S n l) : mayL { S with whole := w, good := g } n l ∧ (addL { S with whole := w, good := g } l).table = (addL S l).table :=
  may_move l { S with whole := w, good := g } S n rfl rfl (Nat.le_refl _) h
/-- what may come is right -/
theorem may_ok (l : List Rv) : ∀ (S : Lg) (n : Int), LOk S n → mayL S n l → LOk (addL S l) (lastN n l) := by
  induction l with
  | nil => intro S n h _; exact h
  | cons r l ih =>
    intro S n h hm
    exact ih _ _ (lstep_ok h (f := revFr r) (rev_len (next_zero hm.1).1) (step_rev hm.1)) hm.2
/-- numbers in a table stay in their bounds -/
theorem tab_ok (l : List Rv) : ∀ (S : Lg) (n : Int), TabOk S.table → mayL S n l → TabOk (addL S l).table := by
  induction l with
  | nil => intro S n h _; exact h
  | cons r l ih =>
    intro S n h hm
    obtain ⟨n1, n2, n3, n4, n5, n6⟩ := next_zero hm.1
    obtain ⟨⟨o1, o2, o3, o4⟩, _⟩ := one_zero n1
    refine ih _ _ ⟨by show (tabPut _ _ _ _).length = 16; rw [tabPut_len]; exact h.1, fun x hx => ?_⟩ hm.2
    have hx : x ∈ tabPut S.table r.who r.seq (S.base + (S.revs.length + 1)) := hx
    rw [tabPut] at hx
    rcases List.mem_or_eq_of_mem_set hx with hx | rfl
    · rcases List.mem_or_eq_of_mem_set hx with hx | rfl
      · exact h.2 x hx
      · exact ⟨o3, o4⟩
    · omega
theorem revs_frames {l : List Rv} (h : ∀ r ∈ l, oneE r = 0) : ∀ f ∈ l.map revFr, frOk f = true := by
  intro f hf
  obtain ⟨r, hr, rfl⟩ := List.mem_map.1 hf
  exact rev_fr_ok (h r hr)
theorem may_one (l : List Rv) : ∀ (S : Lg) (n : Int), mayL S n l → ∀ r ∈ l, oneE r = 0 := by
  induction l with
  | nil => intro S n _ r hr; cases hr
  | cons x l ih =>
    intro S n h r hr
    rcases List.mem_cons.1 hr with rfl | hr
    · exact (next_zero h.1).1
    · exact ih _ _ h.2 r hr
/-- what a slot says: a head, revisions, and, when it is whole, Done and more revisions -/
def slotF (gen base : Nat) (F : List Int) (text : List UInt8) (a : List Rv) (w : Bool) (b : List Rv) : List Fr := headF gen base F text :: (a.map revFr ++ (if w then doneFr :: b.map revFr else []))
/-- it is read as it was written -/
theorem slot_read {gen base : Nat} {F : List Int} {text : List UInt8} {a b : List Rv} {w : Bool} (hg : gen ≤ 2147483647) (hb : base ≤ 2147483647) (hF : TabOk F) (ht : text.length ≤ 500)
    (hm : mayL (headS gen base F text) (text.length : Nat) (a ++ b)) (hw : w = false → b = []) :
    logE (scanL (rowL (slotF gen base F text a w b))).1 = 0 ∧ logS (scanL (rowL (slotF gen base F text a w b))).1 = { addL (headS gen base F text) (a ++ b) with whole := w, good := rowN (slotF gen base F text a w b) } ∧ (∀ f ∈ slotF gen base F text a w b, frOk f = true) := by
  obtain ⟨_, _, h3, h4⟩ := head_all hg hb hF ht
  obtain ⟨m1, m2⟩ := (may_app a b _ _).1 hm
  have hall := may_one _ _ _ hm
  have hfr : ∀ f ∈ slotF gen base F text a w b, frOk f = true := by
    intro f hf
    rcases List.mem_cons.1 hf with rfl | hf
    · exact h3
    · rcases List.mem_append.1 hf with hf | hf
      · exact revs_frames (fun r hr => hall r (by simp [hr])) f hf
      · cases w with
        | false => cases hf
        | true =>
          rcases List.mem_cons.1 hf with rfl | hf
          · exact done_ok
          · exact revs_frames (fun r hr => hall r (by simp [hr])) f hf
  have hs := scan_row (r := []) (by decide) (slotF gen base F text a w b) hfr
  rw [List.append_nil] at hs
  obtain ⟨l1, l2⟩ := log_of (f := headF gen base F text) (a := a.map revFr ++ (if w then doneFr :: b.map revFr else [])) (by rw [hs]; rfl) h4
  refine ⟨l1, ?_, hfr⟩
  rw [l2]
  have e1 := walk_may a (headS gen base F text) (text.length : Nat) (if w then doneFr :: b.map revFr else []) m1
  have e1' : walkL (headS gen base F text) ((headS gen base F text).text.length : Nat) (a.map revFr ++ (if w then doneFr :: b.map revFr else [])) = _ := e1
  rw [e1']
  obtain ⟨f1, f2, f3, f4, f5, f6, f7⟩ := add_facts a (headS gen base F text)
  cases w with
  | false =>
    have hb0 := hw rfl
    subst hb0
    have hg2 : rowN (slotF gen base F text a false []) = (addL (headS gen base F text) a).good := by
      rw [f7]
      show rowN (headF gen base F text :: (a.map revFr ++ [])) = rowN [headF gen base F text] + rowN (a.map revFr)
      rw [List.append_nil, ← rowN_app]; rfl
    rw [List.append_nil, hg2]
    show addL (headS gen base F text) a = _
    have hwf : (addL (headS gen base F text) a).whole = false := f6
    rw [← hwf]
  | true =>
    have hd := step_done (S := addL (headS gen base F text) a) (n := lastN (text.length : Nat) a) (by rw [f6]; rfl)
    show (walkL (addL (headS gen base F text) a) (lastN (text.length : Nat) a) (doneFr :: b.map revFr)).1 = _
    rw [walk_some _ hd]
    obtain ⟨v1, v2⟩ := may_whole b (addL (headS gen base F text) a) (lastN (text.length : Nat) a) true ((addL (headS gen base F text) a).good + 7) m2
    have e2 := walk_may b { addL (headS gen base F text) a with whole := true, good := (addL (headS gen base F text) a).good + 7 } (lastN (text.length : Nat) a) [] v1
    rw [List.append_nil] at e2
    simp only
    rw [e2]
    obtain ⟨g1, g2, g3, g4, g5, g6, g7⟩ := add_facts b { addL (headS gen base F text) a with whole := true, good := (addL (headS gen base F text) a).good + 7 }
    obtain ⟨k1, k2, k3, k4, k5, k6, k7⟩ := add_facts b (addL (headS gen base F text) a)
    have hg2 : rowN (slotF gen base F text a true b) = (addL (headS gen base F text) a).good + 7 + rowN (b.map revFr) := by
      rw [f7]
      show rowN (headF gen base F text :: (a.map revFr ++ doneFr :: b.map revFr)) = rowN [headF gen base F text] + rowN (a.map revFr) + 7 + rowN (b.map revFr)
      rw [show headF gen base F text :: (a.map revFr ++ doneFr :: b.map revFr) = [headF gen base F text] ++ (a.map revFr ++ ([doneFr] ++ b.map revFr)) from rfl, rowN_app, rowN_app, rowN_app]
      have : rowN [doneFr] = 7 := rfl
      omega
    show addL { addL (headS gen base F text) a with whole := true, good := (addL (headS gen base F text) a).good + 7 } b = _
    rw [add_app, hg2]
    have ext : ∀ X Y : Lg, X.gen = Y.gen → X.base = Y.base → X.text = Y.text → X.first = Y.first → X.table = Y.table → X.revs = Y.revs → X.whole = Y.whole → X.good = Y.good → X = Y := by
      intro X Y a1 a2 a3 a4 a5 a6 a7 a8
      cases X; cases Y
      simp only at a1 a2 a3 a4 a5 a6 a7 a8
      subst a1 a2 a3 a4 a5 a6 a7 a8
      rfl
    exact ext _ _ (g3.trans k3.symm) (g2.trans k2.symm) (g4.trans k4.symm) (g5.trans k5.symm) v2 (g1.trans k1.symm) g6 g7
end Go.Proofs.Ytgffippimmokiaa

/- What is left of a slot behind a crash: no program in it. -/
namespace Go.Proofs.Ytgffippimmokiaa
set_option linter.unusedSimpArgs false
set_option linter.unusedVariables false

theorem scans_app (r : List UInt8) : ∀ l : List Fr, (∀ f ∈ l, frOk f = true) → (scanL (rowL l ++ r)).1 = l ++ (scanL r).1
  | [], _ => rfl
  | f :: l, h => by
    have h1 := h f (by simp)
    simp only [frOk, decide_eq_true_eq] at h1
    obtain ⟨a1, a2, a3⟩ := putE_ok h1
    have e : rowL (f :: l) ++ r = frameL f.k.toNat f.t ++ (rowL l ++ r) := by simp [rowL]
    obtain ⟨g1, g2, g3, g4⟩ := got_frame (k := f.k.toNat) (b := f.t) (by omega) (by omega) a3 (rowL l ++ r)
    rw [e, scans_good g1, g2, g3, g4]
    have hd : (frameL f.k.toNat f.t ++ (rowL l ++ r)).drop (frameL f.k.toNat f.t).length = rowL l ++ r := List.drop_left
    rw [hd, scans_app r l (fun g hg => h g (by simp [hg]))]
    have hk : ((f.k.toNat : Nat) : Int) = f.k := by omega
    rw [hk]
    rfl
/-- the frames that are left of frames that are cut -/
theorem row_pre {fs : List Fr} (hf : ∀ f ∈ fs, frOk f = true) (k : Nat) : ∃ m, m ≤ fs.length ∧ (scanL ((rowL fs).take k)).1 = fs.take m ∧ rowN (fs.take m) ≤ k ∧ ∀ j, j ≤ fs.length → rowN (fs.take j) ≤ k → j ≤ m := by
  have h0 := scan_row (r := []) (by decide) fs hf
  rw [List.append_nil] at h0
  obtain ⟨b, hb⟩ := scan_cut (rowL fs).length (rowL fs) (Nat.le_refl _) k
  rw [h0] at hb
  have hb : fs = (scanL ((rowL fs).take k)).1 ++ b := hb
  obtain ⟨p, hp⟩ : ∃ p, (scanL ((rowL fs).take k)).1 = p := ⟨_, rfl⟩
  have hl := scan_len ((rowL fs).take k)
  have hle := (scan_le ((rowL fs).take k).length ((rowL fs).take k) (Nat.le_refl _)).1
  rw [List.length_take] at hle
  have hpt : fs.take p.length = p := by rw [hb, hp, List.take_left]
  refine ⟨p.length, by rw [hb, hp, List.length_append]; omega, by rw [hpt, hp], ?_, fun j hj hk => ?_⟩
  · rw [hpt, ← hp, ← hl]; omega
  · have e : rowL fs = rowL (fs.take j) ++ rowL (fs.drop j) := by rw [← row_app, List.take_append_drop]
    have e2 : (rowL fs).take k = rowL (fs.take j) ++ (rowL (fs.drop j)).take (k - rowN (fs.take j)) := by
      rw [e, List.take_append, row_len, List.take_of_length_le (by rw [row_len]; exact hk)]
    have h1 := scans_app ((rowL (fs.drop j)).take (k - rowN (fs.take j))) (fs.take j) (fun f hx => hf f (List.mem_of_mem_take hx))
    rw [← e2, hp] at h1
    have h2 := congrArg List.length h1
    rw [List.length_append, List.length_take, Nat.min_eq_left hj] at h2
    omega
/-- what is left of a slot's frames -/
theorem slot_take (gen base : Nat) (F : List Int) (text : List UInt8) (a : List Rv) (w : Bool) (b : List Rv) (m : Nat) : (slotF gen base F text a w b).take m = [] ∨
    (∃ j, j ≤ a.length ∧ m = j + 1 ∧ (slotF gen base F text a w b).take m = slotF gen base F text (a.take j) false []) ∨ (w = true ∧ ∃ j, m = a.length + 2 + j ∧ (slotF gen base F text a w b).take m = slotF gen base F text a true (b.take j)) ∨ (slotF gen base F text a w b).take m = slotF gen base F text a w b := by
  cases m with
  | zero => exact .inl rfl
  | succ j =>
    rcases Nat.lt_or_ge a.length j with h | h
    · cases w with
      | false =>
        refine .inr (.inr (.inr ?_))
        rw [List.take_of_length_le]
        simp only [slotF, List.length_cons, List.length_append, List.length_map, Bool.false_eq_true, if_false, List.length_nil]
        omega
      | true =>
        refine .inr (.inr (.inl ⟨rfl, j - a.length - 1, by omega, ?_⟩))
        simp only [slotF, List.take_succ_cons, if_true]
        rw [List.take_append, List.length_map, List.take_of_length_le (by rw [List.length_map]; omega)]
        obtain ⟨i, hi⟩ : ∃ i, j - a.length = i + 1 := ⟨j - a.length - 1, by omega⟩
        rw [hi, List.take_succ_cons, List.map_take, Nat.add_sub_cancel]
    · refine .inr (.inl ⟨j, h, rfl, ?_⟩)
      simp only [slotF, List.take_succ_cons, Bool.false_eq_true, if_false, List.append_nil]
      rw [List.take_append_of_le_length (by rw [List.length_map]; exact h), List.map_take]
/-! The log from a floor on. -/
theorem textAt_beg (k : Nat) : ∀ (l : List Rv) (s : List UInt8), k ≤ l.length → textAt s (l.take k) (l.take k).length = textAt s l k := by
  induction k with
  | zero => intro l s _; simp [text_zero]
  | succ k ih =>
    intro l s h
    cases l with
    | nil => simp at h
    | cons r l =>
      have h2 := ih l (doL r.d s) (by simpa using h)
      simpa [textAt] using h2
theorem head_sok {gen base : Nat} {F : List Int} {text : List UInt8} (hg : gen ≤ 2147483647) (hb : base ≤ 2147483647) (hF : TabOk F) (ht : text.length ≤ 500) : LOk (headS gen base F text) (text.length : Nat) := by
  obtain ⟨_, _, h3, h4⟩ := head_all hg hb hF ht
  exact hd_ok h4 (fr_len h3)
/-- the table at a revision -/
def tableAt (gen base : Nat) (F : List Int) (text : List UInt8) (l : List Rv) (k : Nat) : List Int := (addL (headS gen base F text) (l.take k)).table
theorem floor_ok {gen gen' base : Nat} {F : List Int} {text : List UInt8} {l : List Rv} (hg : gen ≤ 2147483647) (hb : base ≤ 2147483647) (hF : TabOk F) (ht : text.length ≤ 500) (hm : mayL (headS gen base F text) (text.length : Nat) l) {k : Nat} (hk : k ≤ l.length) :
    TabOk (tableAt gen base F text l k) ∧ (textAt text l k).length ≤ 500 ∧ mayL (headS gen' (base + k) (tableAt gen base F text l k) (textAt text l k)) ((textAt text l k).length : Nat) (l.drop k) ∧
    (addL (headS gen' (base + k) (tableAt gen base F text l k) (textAt text l k)) (l.drop k)).table = (addL (headS gen base F text) l).table := by
  have hl : l.take k ++ l.drop k = l := List.take_append_drop k l
  rw [← hl] at hm
  obtain ⟨m1, m2⟩ := (may_app (l.take k) (l.drop k) _ _).1 hm
  have hok0 := head_sok hg hb hF ht
  have hok := may_ok (l.take k) _ _ hok0 m1
  obtain ⟨f1, f2, f3, f4, f5, f6, f7⟩ := add_facts (l.take k) (headS gen base F text)
  have f1' : (addL (headS gen base F text) (l.take k)).revs = l.take k := by rw [f1]; rfl
  have f4' : (addL (headS gen base F text) (l.take k)).text = text := f4
  have hsz := hok.size
  have hhi := hok.hist
  rw [f1', f4'] at hsz hhi
  rw [textAt_beg k l text hk] at hsz
  have h500 := text_le hhi ht (l.take k).length
  rw [textAt_beg k l text hk] at h500
  rw [hsz] at m2
  obtain ⟨v1, v2⟩ := may_move (l.drop k) (headS gen' (base + k) (tableAt gen base F text l k) (textAt text l k)) (addL (headS gen base F text) (l.take k)) ((textAt text l k).length : Nat) rfl (by
      rw [f1', f2, List.length_take, Nat.min_eq_left hk]
      rfl) (Nat.zero_le _) m2
  refine ⟨tab_ok (l.take k) _ _ hF m1, h500, v1, ?_⟩
  rw [v2, ← add_app, hl]
/-! A slot that is cut, as it is read. -/
theorem slot_beg {gen base : Nat} {F : List Int} {text : List UInt8} {a b : List Rv} {m : Nat} (h : a.length + 2 ≤ m) : (slotF gen base F text a true b).take m = slotF gen base F text a true (b.take (m - a.length - 2)) := by
  obtain ⟨j, rfl⟩ : ∃ j, m = j + 1 := ⟨m - 1, by omega⟩
  simp only [slotF, List.take_succ_cons, if_true]
  rw [List.take_append, List.length_map, List.take_of_length_le (by rw [List.length_map]; omega)]
  obtain ⟨i, hi⟩ : ∃ i, j - a.length = i + 1 := ⟨j - a.length - 1, by omega⟩
  rw [hi, List.take_succ_cons, List.map_take, show j + 1 - a.length - 2 = i by omega]
/-- a whole slot that is cut behind so many revisions is whole, and has these at least -/
theorem slot_kept {gen base : Nat} {F : List Int} {text : List UInt8} {a b : List Rv} (hg : gen ≤ 2147483647) (hb : base ≤ 2147483647) (hF : TabOk F) (ht : text.length ≤ 500) (hm : mayL (headS gen base F text) (text.length : Nat) (a ++ b)) {i k : Nat} (hi : i ≤ b.length)
    (hk : rowN (slotF gen base F text a true (b.take i)) ≤ k) : ∃ j, i ≤ j ∧ j ≤ b.length ∧ logE (scanL ((rowL (slotF gen base F text a true b)).take k)).1 = 0 ∧
      logS (scanL ((rowL (slotF gen base F text a true b)).take k)).1 = { addL (headS gen base F text) (a ++ b.take j) with whole := true, good := rowN (slotF gen base F text a true (b.take j)) } := by
  obtain ⟨_, _, hfr⟩ := slot_read (w := true) hg hb hF ht hm (fun h => by cases h)
  obtain ⟨m, m1, m2, m3, m4⟩ := row_pre hfr k
  have hlen : (slotF gen base F text a true b).length = a.length + 2 + b.length := by
    simp only [slotF, List.length_cons, List.length_append, List.length_map, if_true]; omega
  have hj := m4 (a.length + 2 + i) (by omega) (by
    rw [slot_beg (by omega), show a.length + 2 + i - a.length - 2 = i by omega]; exact hk)
  have hmb : mayL (headS gen base F text) (text.length : Nat) (a ++ b.take (m - a.length - 2)) := by
    have e : a ++ b = (a ++ b.take (m - a.length - 2)) ++ b.drop (m - a.length - 2) := by rw [List.append_assoc, List.take_append_drop]
    rw [e] at hm
    exact ((may_app _ _ _ _).1 hm).1
  obtain ⟨r1, r2, r3⟩ := slot_read (w := true) hg hb hF ht hmb (fun h => by cases h)
  have hs := scan_row (r := []) (by decide) _ r3
  rw [List.append_nil] at hs
  rw [hs] at r1 r2
  refine ⟨m - a.length - 2, by omega, by omega, ?_, ?_⟩
  · rw [m2, slot_beg (by omega)]; exact r1
  · rw [m2, slot_beg (by omega)]; exact r2
/-- a slot that is not whole is none, wherever it is cut -/
theorem slot_torn {gen base : Nat} {F : List Int} {text : List UInt8} {a : List Rv} (hg : gen ≤ 2147483647) (hb : base ≤ 2147483647) (hF : TabOk F) (ht : text.length ≤ 500) (hm : mayL (headS gen base F text) (text.length : Nat) a) (k : Nat) :
    logE (scanL ((rowL (slotF gen base F text a false [])).take k)).1 ≠ 0 ∨ (logS (scanL ((rowL (slotF gen base F text a false [])).take k)).1).whole = false := by
  obtain ⟨_, _, hfr⟩ := slot_read (a := a) (b := []) (w := false) hg hb hF ht (by rw [List.append_nil]; exact hm) (fun _ => rfl)
  obtain ⟨m, m1, m2, m3, m4⟩ := row_pre hfr k
  rw [m2]
  have hj : ∀ j, logE (slotF gen base F text (a.take j) false []) = 0 ∧ (logS (slotF gen base F text (a.take j) false [])).whole = false := by
    intro j
    have hmb : mayL (headS gen base F text) (text.length : Nat) (a.take j) := by
      rw [← List.take_append_drop j a] at hm
      exact ((may_app _ _ _ _).1 hm).1
    obtain ⟨r1, r2, r3⟩ := slot_read (a := a.take j) (b := []) (w := false) hg hb hF ht (by rw [List.append_nil]; exact hmb) (fun _ => rfl)
    have hs := scan_row (r := []) (by decide) _ r3
    rw [List.append_nil] at hs
    rw [hs] at r1 r2
    exact ⟨r1, by rw [r2]⟩
  rcases slot_take gen base F text a false [] m with h | ⟨j, _, _, h⟩ | ⟨h, _⟩ | h
  · rw [h]; left; decide
  · rw [h]; right; exact (hj j).2
  · cases h
  · rw [h]
    right
    have h2 := (hj a.length).2
    rw [List.take_length] at h2
    exact h2
end Go.Proofs.Ytgffippimmokiaa

/- shop.New. -/
namespace Go.Proofs.Ytgffippimmokiaa
open Go.RowKit
set_option linter.unusedSimpArgs false
set_option linter.unusedVariables false

theorem zero_tab : TabOk zeroT := ⟨rfl, by decide⟩
/-- what a new archive's slot has -/
def newP : ByteArray := ⟨(rowL (slotF 1 0 zeroT [] [] true [])).toArray⟩
noncomputable def newS : Sh := openS newP ⟨#[]⟩
theorem new_head : hdE (1 :: 0 :: zeroT) [] = 0 ∧ hdT (1 :: 0 :: zeroT) [] = rowL [headF 1 0 zeroT []] := by
  obtain ⟨h1, h2, _⟩ := head_all (gen := 1) (base := 0) (F := zeroT) (text := []) (by decide) (by decide) zero_tab (by decide)
  exact ⟨h1, h2⟩
theorem new_row : rowL (slotF 1 0 zeroT [] [] true []) = rowL [headF 1 0 zeroT []] ++ frameL 3 [] := by
  show rowL ([headF 1 0 zeroT []] ++ [doneFr]) = _
  rw [row_app]
  congr 1
theorem new_read : logE (scanL newP.data.toList).1 = 0 ∧ logS (scanL newP.data.toList).1 = { headS 1 0 zeroT [] with whole := true, good := rowN (slotF 1 0 zeroT [] [] true []) } := by
  obtain ⟨h1, h2, _⟩ := slot_read (gen := 1) (base := 0) (F := zeroT) (text := []) (a := []) (b := []) (w := true) (by decide) (by decide) zero_tab (by decide) trivial (fun h => by cases h)
  exact ⟨h1, h2⟩
theorem new_len : newP.size = rowN (slotF 1 0 zeroT [] [] true []) := by
  show (rowL _).toArray.size = _
  rw [List.size_toArray, row_len]
theorem new_newN : newN newP.data.toList [] = (0, { headS 1 0 zeroT [] with whole := true, good := rowN (slotF 1 0 zeroT [] [] true []) }) := by
  obtain ⟨h1, h2⟩ := new_read
  have e0 : stepN 0 newP.data.toList (0, nilLg) = (0, { headS 1 0 zeroT [] with whole := true, good := rowN (slotF 1 0 zeroT [] [] true []) }) := by
    rw [stepN, h2, if_pos ⟨h1, rfl, .inl rfl⟩]
  rw [newN, e0, stepN, if_neg]
  intro h
  exact absurd h.1 (by decide)
theorem newS_is : newS = { c := newP, x := newP.size, o := ⟨#[]⟩, y := 0, cur := 0, log := { headS 1 0 zeroT [] with whole := true, good := newP.size }, safe := 0, stage := 0, floor := 0, said := 0 } := by
  unfold newS openS
  rw [show (⟨#[]⟩ : ByteArray).data.toList = [] from rfl, new_newN]
  simp only [if_true, new_len.symm]
  rw [extract_self]
  rfl
theorem new_small : newP.size ≤ 1048576 := by
  have h1 := wn_len (1 :: 0 :: zeroT)
  have h2 : wnE (1 :: 0 :: zeroT) = 0 := by decide
  rw [new_len]
  show (headF 1 0 zeroT []).t.length + 7 + (0 + 7 + 0) ≤ _
  have e : (headF 1 0 zeroT []).t = wnT (1 :: 0 :: zeroT) := by
    rw [wnT, if_pos h2]
    show numsL _ ++ [] = _
    rw [List.append_nil]; rfl
  rw [e]
  have : (1 :: 0 :: zeroT).length = 18 := rfl
  omega
set_option maxRecDepth 20000 in
set_option maxHeartbeats 2000000 in
theorem New_any (w : World) :
    Calls Try.prog 23 #[] w fun e w' => ∃ g, e = .returned (.pointer (some ⟨g, 0, none⟩)) ∧ w.heap.size ≤ g ∧ ShIs w' g newS ∧ Below w.heap.size w w' := by
  have HH : Hid (∀ w, Calls Try.prog 63 #[.int .i64 1, .int .i64 0, .string ⟨#[]⟩, .agg #[.int .i64 0, .int .i64 0, .int .i64 0, .int .i64 0, .int .i64 0, .int .i64 0, .int .i64 0, .int .i64 0, .int .i64 0, .int .i64 0, .int .i64 0, .int .i64 0, .int .i64 0, .int .i64 0, .int .i64 0, .int .i64 0]] w fun e w' => e = .returned (.tuple #[.string ⟨(rowL [headF 1 0 zeroT []]).toArray⟩, .int .i64 0]) ∧ Below w.heap.size w w') := fun w => by
    have h := Head_any 1 0 ⟨#[]⟩ zeroT rfl (by decide) w
    rw [show (⟨#[]⟩ : ByteArray).data.toList = [] from rfl, new_head.1, new_head.2] at h
    exact h
  have HD : Hid _ := fun w => Done_any w
  have hs := new_small
  have hE : (⟨(rowL [headF 1 0 zeroT []]).toArray⟩ : ByteArray) ++ ⟨(frameL 3 []).toArray⟩ = newP := by
    unfold newP
    rw [new_row]
    apply ByteArray.ext
    simp
  have HO : Hid (∀ w, Calls Try.prog 9 #[dkV newP 0 ⟨#[]⟩ 0] w fun e w' => OpTo newS w e w') := fun w =>
    Open_ok newP 0 ⟨#[]⟩ 0 w (dk_of (sl_of hs (by decide) (by omega)) (sl_of (by decide) (by decide) (by decide))) (by rw [show (⟨#[]⟩ : ByteArray).data.toList = [] from rfl, new_newN])
  obtain ⟨P, hP⟩ : ∃ P, newP = P := ⟨_, rfl⟩
  obtain ⟨h1, hh1⟩ : ∃ h1, (⟨(rowL [headF 1 0 zeroT []]).toArray⟩ : ByteArray) = h1 := ⟨_, rfl⟩
  rw [hP] at HO hE hs
  rw [hh1] at HH hE
  have hadd : ∀ w : World, (Op.stringOp .add h1 ⟨(frameL 3 []).toArray⟩).run Try.prog w = .ok (.string P) w := fun w => by
    rw [run_string_add_sum _ _ _ (by rw [← ByteArray.size_append, hE]; omega), hE]
  clear hP hh1 hE hs
  go_enter Try.func23, Try.ntmps23
  go_wp2_with fail
  with_reducible refine (HH.out _).mono ?_
  rintro e w1 ⟨rfl, hb1⟩
  have HB1 : Hid (Below w.heap.size w w1) := hb1
  clear hb1
  go_wp2_with fail
  with_reducible refine (HD.out _).mono ?_
  rintro e w2 ⟨rfl, hb2⟩
  have HB2 : Hid (Below w.heap.size w w2) := HB1.out.trans (hb2.mono HB1.out.size)
  clear hb2
  go_wp2_with fail
  with_reducible refine (HO.out _).mono ?_
  rintro e w3 ⟨g, rfl, hg, hs, hb3⟩
  have HB3 : Hid (Below w.heap.size w w3 ∧ w.heap.size ≤ g ∧ ShIs w3 g newS) := ⟨HB2.out.trans (hb3.mono HB2.out.size), Nat.le_trans HB2.out.size hg, hs⟩
  clear hb3 hg hs
  go_wp2_with fail
  go_ret
  exact ⟨g, rfl, HB3.out.2.1, HB3.out.2.2, HB3.out.1⟩
end Go.Proofs.Ytgffippimmokiaa
