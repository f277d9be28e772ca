/- The law HotMore, walked: it answers true. -/
import Derived.Test.YtkihanmodfnpcabHotLaw
import Derived.Test.YtkihanmodfnpcabHotHead
import Derived.Test.YtkihanmodfnpcabFirstRev
import Derived.Test.YtkihanmodfnpcabRevText
import Derived.Test.YtkihanmodfnpcabLogMem
import Derived.Deep.RegionHeld3
import Derived.Deep.DeepCutAuto
import Derived.BigQuiet
namespace Go.Proofs.Ytkihanmodfnpcab
open Go.RowKit
set_option linter.unusedSimpArgs false
set_option linter.unusedVariables false

def oneRv : Rv := ⟨1, 1, [⟨2, 0, ⟨#[97]⟩⟩]⟩
theorem one_is : oneE oneRv = 0 := by decide
theorem one_next : nextE zeroT 0 0 0 oneRv = 0 := by decide
/-- the log of a head and a revision -/
theorem one_read : logE (scanL (rowL [headFr 1 0 [], revFr oneRv])).1 = 0 ∧ (logS (scanL (rowL [headFr 1 0 [], revFr oneRv])).1).revs = [oneRv] ∧ (logS (scanL (rowL [headFr 1 0 [], revFr oneRv])).1).whole = false ∧
    (logS (scanL (rowL [headFr 1 0 [], revFr oneRv])).1).table[2]? = some 1 ∧ (logS (scanL (rowL [headFr 1 0 [], revFr oneRv])).1).table[3]? = some 1 := by
  obtain ⟨h1, h2⟩ := rows_read (gen := 1) (base := 0) (text := []) (by decide) (by decide) (by decide) (fs := [revFr oneRv]) (by
    intro f hf
    rw [List.mem_singleton.1 hf]
    exact rev_fr_ok one_is)
  have hs : stepL (headLg 1 0 []) (([] : List UInt8).length : Nat) (revFr oneRv) = _ := step_rev (by exact one_next)
  refine ⟨h1, ?_⟩
  rw [h2, walk_some _ hs]
  exact ⟨rfl, rfl, rfl, rfl⟩
theorem cat_beg (s : ByteArray) (n : Nat) (t : List UInt8) : (s.extract 0 n ++ ⟨t.toArray⟩ : ByteArray).data.toList = s.data.toList.take n ++ t := by
  rw [ByteArray.data_append, Array.toList_append, Lib.extract_data]
  simp
theorem sess_eqs (x y : Int) : (∀ w : World, (binOp .eql 30 (.agg #[.int .i64 x, .int .i64 y]) (.agg #[.int .i64 x, .int .i64 y])).run Try.prog w = .ok (.bool true) w) ∧ ∀ w : World, (binOp .neq 30 (.agg #[.int .i64 x, .int .i64 y]) (.agg #[.int .i64 x, .int .i64 y])).run Try.prog w = .ok (.bool false) w :=
  ⟨fun w => by rw [run_eql_struct, sess_in 9998]; rfl, fun w => by rw [run_neq_struct, sess_in 9998]; rfl⟩
theorem went11 {w w' : World} (hb : Below w.drew.heap.size w.drew w') : Below w.heap.size w w' := ((Below.refl w.heap.size w).drew).trans hb
/-- all that the last region reads -/
theorem more_held {w w' : World} {g h m b off k n' : Nat} {R M : Lg} {a2 a3 a ai : Option Addr} {c2 c3 c ci : Nat} {r : Rv} {B' G' : Int} (hg : RlAt w g R a2 c2) (hm : RlAt w m M a3 c3) (hh : RBox w h r a c) (hb : Below w.heap.size w w')
    (hv : RvAt w w.heap.size b (off + R.revs.length * 3) r ai ci) (hbl : b < w.heap.size) (hk : r.who = (k : Int)) (hn : M.revs.length = n') (hG : (M.good : Int) = G') (ht : M.table[k * 2]? = some r.seq ∧ M.table[k * 2 + 1]? = some B') :
    w'.cell? ⟨m, 35, none⟩ = some (.slice a3 n' c3) ∧ w'.cell? ⟨m, 37, none⟩ = some (.int .i64 G') ∧ w'.cell? ⟨m, 19 + k * 2, none⟩ = some (.int .i64 r.seq) ∧ w'.cell? ⟨m, 19 + k * 2 + 1, none⟩ = some (.int .i64 B') ∧ w'.cell? ⟨g, 1, none⟩ = some (.int .i64 R.base) ∧ w'.cell? ⟨g, 35, none⟩ = some (.slice a2 R.revs.length c2) ∧ w'.cell? ⟨g, 37, none⟩ = some (.int .i64 R.good) ∧ w'.cell? ⟨h, 0, none⟩ = some (.int .i64 k) ∧ w'.cell? ⟨h, 1, none⟩ = some (.int .i64 r.seq) ∧ w'.cell? ⟨h, 2, none⟩ = some (.slice a r.d.length c) ∧ w'.cell? ⟨b, off + R.revs.length * 3, none⟩ = some (.int .i64 k) ∧ w'.cell? ⟨b, off + R.revs.length * 3 + 1, none⟩ = some (.int .i64 r.seq) ∧ w'.cell? ⟨b, off + R.revs.length * 3 + 2, none⟩ = some (.slice ai r.d.length ci) := by
  obtain ⟨x0, x1, x2, x35, x36, x37⟩ := (hg.next hb).cells
  obtain ⟨y0, y1, y2, y35, y36, y37⟩ := (hm.next hb).cells
  obtain ⟨z0, z1, z2, _⟩ := hh.below hb
  obtain ⟨v0, v1, v2, _, _⟩ := hv
  have t0 := (hm.next hb).table ht.1
  have t1 := (hm.next hb).table ht.2
  rw [hk] at z0 v0
  rw [hn] at y35
  rw [hG] at y37
  exact ⟨y35, y37, t0, by rw [Nat.add_assoc]; exact t1, x1, x35, x37, z0, z1, z2, (hb.cell (p := ⟨b, _, none⟩) hbl).trans v0, (hb.cell (p := ⟨b, _, none⟩) hbl).trans v1, (hb.cell (p := ⟨b, _, none⟩) hbl).trans v2⟩
set_option maxRecDepth 100000 in
set_option maxHeartbeats 8000000 in
theorem HotMore_any (s : ByteArray) (r : Rv) (a : Option Addr) (c : Nat) (w : World) (hp : PartsAt w w.heap.size a r.d) (hs : s.size ≤ 140737488355328) :
    Calls Try.prog 7 #[.string s, .agg #[.int .i64 r.who, .int .i64 r.seq, .slice a r.d.length c]] w fun e w' => e = .returned (.bool true) ∧ Below w.heap.size w w' := by
  have hl : s.data.toList.length = s.size := Array.length_toList
  obtain ⟨u, hu⟩ : ∃ u : ByteArray, (⟨(rowL [headFr 1 0 []]).toArray⟩ : ByteArray) = u := ⟨_, rfl⟩
  obtain ⟨v, hv⟩ : ∃ v : ByteArray, (⟨(frameL 2 (revB oneRv)).toArray⟩ : ByteArray) = v := ⟨_, rfl⟩
  have hus : u.size ≤ 4007 := by
    rw [← hu]
    show (rowL [headFr 1 0 []]).toArray.size ≤ _
    rw [List.size_toArray, row_len]
    have := fr_len (head_zero (gen := 1) (base := 0) (text := []) (by decide) (by decide) (by decide)).2.2.1
    show (headFr 1 0 []).t.length + 7 + 0 ≤ 4007
    omega
  have hvs : v.size ≤ 4007 := by
    rw [← hv]
    show (frameL 2 (revB oneRv)).toArray.size ≤ _
    rw [List.size_toArray, frameL_len]
    have := rev_len one_is
    omega
  have HHd : Hid (∀ w, Calls Try.prog 9 #[.int .i64 1, .int .i64 0, .string ⟨#[]⟩, .agg #[.int .i64 0, .int .i64 0, .int .i64 0, .int .i64 0, .int .i64 0, .int .i64 0, .int .i64 0, .int .i64 0, .int .i64 0, .int .i64 0, .int .i64 0, .int .i64 0, .int .i64 0, .int .i64 0, .int .i64 0, .int .i64 0]] w fun e w' => e = .returned (.tuple #[.string u, .int .i64 0]) ∧ Below w.heap.size w w') := fun w => by
    have h := Head_any 1 0 ⟨#[]⟩ zeroT rfl (by decide) w
    obtain ⟨e1, e2, _, _⟩ := head_zero (gen := 1) (base := 0) (text := []) (by decide) (by decide) (by decide)
    have e1' : hdE (1 :: 0 :: zeroT) (⟨#[]⟩ : ByteArray).data.toList = 0 := e1
    have e2' : hdT (1 :: 0 :: zeroT) (⟨#[]⟩ : ByteArray).data.toList = rowL [headFr 1 0 []] := e2
    rw [e1', e2', hu] at h
    exact h
  have HFi : Hid _ := fun w => first_any ⟨#[97]⟩ w (by decide)
  have HRo : Hid (∀ ad w, PartsAt w w.heap.size (some ad) [⟨2, 0, ⟨#[97]⟩⟩] → Calls Try.prog 12 #[.agg #[.int .i64 1, .int .i64 1, .slice (some ad) 1 1]] w fun e w' => e = .returned (.tuple #[.string v, .int .i64 0]) ∧ Below w.heap.size w w') := fun ad w hp => by
    have h := HRev_any oneRv (some ad) 1 w hp
    rw [(rvf_ok one_is).1, (rvf_ok one_is).2, hv] at h
    exact h
  obtain ⟨S1, hS1⟩ : ∃ S, logS (scanL (rowL [headFr 1 0 [], revFr oneRv])).1 = S := ⟨_, rfl⟩
  have h1 := one_read
  have HS1 : Hid (S1.first.length = 16 ∧ S1.table.length = 16) := by show _ ∧ _; rw [← hS1]; exact logS_tabs _
  have HX : Hid (∀ w, Calls Try.prog 16 #[.string (u ++ v)] w fun e w' => ReadTo S1 0 w e w') := fun w => by
    have h := Read_to (u ++ v) w (by rw [ByteArray.size_append]; omega)
    have e : (u ++ v).data.toList = rowL [headFr 1 0 [], revFr oneRv] := by
      rw [← hu, ← hv, ByteArray.data_append, Array.toList_append]
      show rowL [headFr 1 0 []] ++ frameL 2 (revB oneRv) = _
      rw [show [headFr 1 0 [], revFr oneRv] = [headFr 1 0 []] ++ [revFr oneRv] from rfl, row_app, row_one (revFr oneRv)]
      rfl
    rw [e, h1.1, hS1] at h
    exact h
  rw [hS1] at h1
  have HSF : Hid (S1.revs.length = 1 ∧ S1.whole = false ∧ S1.table[2]? = some 1 ∧ S1.table[3]? = some 1) := ⟨by rw [h1.2.1]; rfl, h1.2.2⟩
  have HR : Hid _ := fun w => Read_to s w (by omega)
  have HRv : Hid _ := fun w hp => HRev_any r a c w hp
  have HCut : Hid (∀ k t w, t.length ≤ 4007 → Calls Try.prog 16 #[.string (s.extract 0 k ++ ⟨t.toArray⟩)] w fun e w' => ReadTo (logS (scanL (s.data.toList.take k ++ t)).1) (logE (scanL (s.data.toList.take k ++ t)).1) w e w') := fun k t w ht => by
    have h := Read_to (s.extract 0 k ++ ⟨t.toArray⟩) w (by
      rw [ByteArray.size_append, ByteArray.size_extract]
      have : (⟨t.toArray⟩ : ByteArray).size = t.length := by show t.toArray.size = _; simp
      omega)
    rw [cat_beg] at h
    exact h
  obtain ⟨l, hll⟩ : ∃ l, s.data.toList = l := ⟨_, rfl⟩
  rw [hll] at HR HCut hl
  have HL : Hid (l.length = s.size) := hl
  obtain ⟨R, hR⟩ : ∃ S, logS (scanL l).1 = S := ⟨_, rfl⟩
  obtain ⟨q, hq⟩ : ∃ q, logE (scanL l).1 = q := ⟨_, rfl⟩
  have HS : Hid (R.first.length = 16 ∧ R.table.length = 16) := by show _ ∧ _; rw [← hR]; exact logS_tabs _
  have HSQ : Hid (logS (scanL l).1 = R ∧ logE (scanL l).1 = q) := ⟨hR, hq⟩
  rw [hR, hq] at HR
  have HX1 : Hid (RBox (w.alloc (.cells #[.int .i64 r.who, .int .i64 r.seq, .slice a r.d.length c] 25)) w.heap.size r a c ∧ PartsAt (w.alloc (.cells #[.int .i64 r.who, .int .i64 r.seq, .slice a r.d.length c] 25)) (w.alloc (.cells #[.int .i64 r.who, .int .i64 r.seq, .slice a r.d.length c] 25)).heap.size a r.d) := ⟨rbox_new w r a c, hp.here ((Below.refl _ w).alloc (Nat.le_refl _) _) (Nat.le_refl _)⟩
  have HB1 : Hid (Below w.heap.size w (w.alloc (.cells #[.int .i64 r.who, .int .i64 r.seq, .slice a r.d.length c] 25))) := (Below.refl _ w).alloc (Nat.le_refl _) _
  clear hR hq hll hl hS1 h1 hp hu hv
  go_enter Try.func7, Try.ntmps7
  go_upto_region 1 with fail
  generalize w.alloc (.cells #[.int .i64 r.who, .int .i64 r.seq, .slice a r.d.length c] 25) = w1 at HX1 HB1 ⊢
  obtain ⟨h, hh⟩ : ∃ h, w.heap.size = h := ⟨_, rfl⟩
  have HW : Hid (w.heap.size = h) := hh
  rw [hh] at HX1 HB1 ⊢
  clear hh
  go_wp2_with fail
  with_reducible refine (HHd.out _).mono ?_
  rintro e w2 ⟨rfl, hb2⟩
  have HX2 : Hid (RBox w2 h r a c ∧ PartsAt w2 w2.heap.size a r.d) := ⟨HX1.out.1.below hb2, HX1.out.2.here hb2 (Nat.le_refl _)⟩
  have HB2 : Hid (Below h w w2) := HB1.out.trans (hb2.mono (Nat.le_of_lt HX1.out.1.2.2.2))
  clear hb2
  go_wp2_with fail
  with_reducible refine (HFi.out _).mono ?_
  rintro e w3 ⟨ad, rfl, hpa, hb3⟩
  have HX3 : Hid (RBox w3 h r a c ∧ PartsAt w3 w3.heap.size a r.d) := ⟨HX2.out.1.below hb3, HX2.out.2.here hb3 (Nat.le_refl _)⟩
  have HB3 : Hid (Below h w w3) := HB2.out.trans (hb3.mono (Nat.le_of_lt HX2.out.1.2.2.2))
  have HPA : Hid (PartsAt w3 w3.heap.size (some ad) [⟨2, 0, ⟨#[97]⟩⟩]) := hpa
  clear hb3 hpa
  go_wp2_with fail
  with_reducible refine (HRo.out ad _ HPA.out).mono ?_
  rintro e w4 ⟨rfl, hb4⟩
  have HX4 : Hid (RBox w4 h r a c ∧ PartsAt w4 w4.heap.size a r.d) := ⟨HX3.out.1.below hb4, HX3.out.2.here hb4 (Nat.le_refl _)⟩
  have HB4 : Hid (Below h w w4) := HB3.out.trans (hb4.mono (Nat.le_of_lt HX3.out.1.2.2.2))
  clear hb4 HPA
  go_wp2_with fail
  with_reducible refine (HX.out _).mono ?_
  rintro e w5 ⟨a1, c1, rfl, hr, hc, hb5⟩
  have HB5 : Hid (Below h w (w5.alloc (.cells (rlC S1 a1 c1).toArray 38))) := (HB4.out.trans (hb5.mono (Nat.le_of_lt HX4.out.1.2.2.2))).alloc (Nat.le_trans (Nat.le_of_lt HX4.out.1.2.2.2) hb5.size) _
  have HX5 : Hid (RBox (w5.alloc (.cells (rlC S1 a1 c1).toArray 38)) h r a c ∧ PartsAt (w5.alloc (.cells (rlC S1 a1 c1).toArray 38)) (w5.alloc (.cells (rlC S1 a1 c1).toArray 38)).heap.size a r.d) := ⟨(HX4.out.1.below hb5).below ((Below.refl _ w5).alloc (Nat.le_refl _) _), (HX4.out.2.here hb5 (Nat.le_refl _)).here ((Below.refl _ w5).alloc (Nat.le_refl _) _) (Nat.le_refl _)⟩
  have HR5 : Hid (RlAt (w5.alloc (.cells (rlC S1 a1 c1).toArray 38)) w5.heap.size S1 a1 c1) := rl_new hr hc HS1.out.1 HS1.out.2
  have HI0 : Hid _ := log_into (sC_len HS1.out.1 HS1.out.2) (rl_one S1 a1 c1)
  clear hb5 hr hc
  go_upto_region 4 with (refine wpList_store_new rfl 38 _ _ rfl _ (rlC S1 a1 c1).toArray (by rfl) (by rfl) HI0.out.1 (by exact HI0.out.2.1) HI0.out.2.2.1 ?_)
  generalize w5.alloc (.cells (rlC S1 a1 c1).toArray 38) = w6 at HB5 HX5 HR5 ⊢
  obtain ⟨g0, hg0⟩ : ∃ g, w5.heap.size = g := ⟨_, rfl⟩
  rw [hg0] at HR5 ⊢
  clear hg0
  obtain ⟨-, -, -, z35, z36, -⟩ := HR5.out.cells
  rw [HSF.out.1] at z35
  rw [HSF.out.2.1] at z36
  have t2 : w6.cell? ⟨g0, 21, none⟩ = some (.int .i64 1) := HR5.out.table (k := 2) HSF.out.2.2.1
  have t3 : w6.cell? ⟨g0, 22, none⟩ = some (.int .i64 1) := HR5.out.table (k := 3) HSF.out.2.2.2
  have hgl := HR5.out.lt
  have heq := (sess_eqs 1 1).2
  go_wp2_with fail
  clear z35 z36 t2 t3 heq hgl
  with_reducible refine (HR.out _).mono ?_
  rintro e w7 ⟨a2, c2, rfl, hr, hc, hb7⟩
  have HB7 : Hid (Below h w (w7.alloc (.cells (rlC R a2 c2).toArray 38))) := (HB5.out.trans (hb7.mono (Nat.le_of_lt HX5.out.1.2.2.2))).alloc (Nat.le_trans (Nat.le_of_lt HX5.out.1.2.2.2) hb7.size) _
  have HX7 : Hid (RBox (w7.alloc (.cells (rlC R a2 c2).toArray 38)) h r a c ∧ PartsAt (w7.alloc (.cells (rlC R a2 c2).toArray 38)) (w7.alloc (.cells (rlC R a2 c2).toArray 38)).heap.size a r.d) := ⟨(HX5.out.1.below hb7).below ((Below.refl _ w7).alloc (Nat.le_refl _) _), (HX5.out.2.here hb7 (Nat.le_refl _)).here ((Below.refl _ w7).alloc (Nat.le_refl _) _) (Nat.le_refl _)⟩
  have HR7 : Hid (RlAt (w7.alloc (.cells (rlC R a2 c2).toArray 38)) w7.heap.size R a2 c2) := rl_new hr hc HS.out.1 HS.out.2
  have HI : Hid _ := log_into (sC_len HS.out.1 HS.out.2) (rl_one R a2 c2)
  clear hb7 hr hc HR5 HI0
  go_upto_region 7 with (refine wpList_store_new rfl 38 _ _ rfl _ (rlC R a2 c2).toArray (by rfl) (by rfl) HI.out.1 (by exact HI.out.2.1) HI.out.2.2.1 ?_)
  generalize w7.alloc (.cells (rlC R a2 c2).toArray 38) = w8 at HB7 HX7 HR7 ⊢
  obtain ⟨g, hg⟩ : ∃ g, w7.heap.size = g := ⟨_, rfl⟩
  rw [hg] at HR7 ⊢
  clear hg
  by_cases hq0 : q = 0
  · subst hq0
    obtain ⟨R', n, hRR, hok, hgl, hmore⟩ := log_more HSQ.out.2
    rw [HSQ.out.1] at hRR
    subst hRR
    obtain ⟨g7, -, -, -⟩ := log_good HSQ.out.2
    rw [HSQ.out.1] at g7
    have HOK : Hid (LOk R n) := hok
    have HMo : Hid (∀ r, nextE R.table R.base R.revs.length n r = 0 → logE (scanL (l.take R.good ++ frameL 2 (revB r))).1 = 0 ∧ logS (scanL (l.take R.good ++ frameL 2 (revB r))).1 = { R with table := tabPut R.table r.who r.seq (R.base + (R.revs.length + 1)), revs := R.revs ++ [r], good := R.good + ((revB r).length + 7) }) := hmore
    have hls := HL.out
    have hgs : (R.good : Int) ≤ (s.size : Int) := by omega
    have hg0 : decide (0 < R.good) = true := decide_eq_true (by omega)
    obtain ⟨-, x1, x2, x35, -, x37⟩ := HR7.out.cells
    have hgl8 := HR7.out.lt
    clear hok hmore hgl g7 hls
    by_cases hb : (2147483576 : Int) < (R.base : Int)
    · go_wp2_with fail
      go_ret
      exact ⟨rfl, by rw [HW.out]; exact HB7.out⟩
    · have hcap := HR7.out.revs.2
      have hck : checkE R.text R.revs = 0 := by
        have h1 := HOK.out.text
        have h2 := HOK.out.revs
        rw [checkE, if_neg (by omega)]
        exact HOK.out.hist
      obtain ⟨Tx, hTx⟩ : ∃ T, textAt R.text R.revs R.revs.length = T := ⟨_, rfl⟩
      have HTx : Hid (∀ w, RevsAt w w.heap.size a2 R.revs → Calls Try.prog 23 #[.string ⟨R.text.toArray⟩, .slice a2 R.revs.length c2, .int .i64 (R.revs.length : Int)] w fun e w' => e = .returned (.tuple #[.string ⟨Tx.toArray⟩, .int .i64 0]) ∧ Below w.heap.size w w') := fun w h => by
        have h2 := Text_ok ⟨R.text.toArray⟩ a2 R.revs c2 R.revs.length w h hcap hck (Nat.le_refl _)
        change Calls Try.prog 23 #[.string ⟨R.text.toArray⟩, .slice a2 R.revs.length c2, .int .i64 (R.revs.length : Int)] w fun e w' => e = .returned (.tuple #[.string ⟨(textAt R.text R.revs R.revs.length).toArray⟩, .int .i64 0]) ∧ Below w.heap.size w w' at h2
        rw [hTx] at h2
        exact h2
      have hnT : n = (Tx.length : Int) := by rw [← hTx]; exact HOK.out.size
      have htl : (⟨Tx.toArray⟩ : ByteArray).size = Tx.length := by show Tx.toArray.size = _; simp
      obtain ⟨y, hy⟩ : ∃ y, nextE R.table R.base R.revs.length n r = y := ⟨_, rfl⟩
      have HN : Hid (∀ w, PartsAt w w.heap.size a r.d → Calls Try.prog 24 #[.agg (rlC R a2 c2).toArray, .int .i64 (Tx.length : Int), .agg #[.int .i64 r.who, .int .i64 r.seq, .slice a r.d.length c]] w fun e w' => e = .returned (.int .i64 y) ∧ Below w.heap.size w w') := fun w hp => by
        have h := Next_any (rlC R a2 c2).toArray R.base R.revs.length a2 c2 R.table (Tx.length : Int) r a c w hp rfl (by rw [List.getElem?_toArray]; exact (lg_at HS.out.1 HS.out.2).1) (fun k q hk => by rw [List.getElem?_toArray]; exact (lg_at HS.out.1 HS.out.2).2.2.2 k q hk) HS.out.2 (by have := HOK.out.revs; omega)
        rw [← hnT, hy] at h
        rw [← hnT]
        exact h
      have HA8 : Hid (∀ w, Below w8.heap.size w8 w → w.rangeAt g 0 (rlC R a2 c2)) := fun w hb => (HR7.out.next hb).all
      clear hck hnT
      by_cases hy0 : y = 0
      · subst hy0
        obtain ⟨n1, n2, n3, n4, n5, n6⟩ := next_zero hy
        obtain ⟨⟨o1, o2, o3, o4⟩, _⟩ := one_zero n1
        obtain ⟨m1, m2⟩ := HMo.out r hy
        obtain ⟨k, hk⟩ : ∃ k : Nat, r.who = (k : Int) := ⟨r.who.toNat, by omega⟩
        have hk8 : k ≤ 7 := by omega
        obtain ⟨M, hM⟩ : ∃ M : Lg, ({ R with table := tabPut R.table r.who r.seq (R.base + (R.revs.length + 1)), revs := R.revs ++ [r], good := R.good + ((revB r).length + 7) } : Lg) = M := ⟨_, rfl⟩
        rw [hM] at m2
        obtain ⟨F, hF⟩ : ∃ F : ByteArray, (⟨(frameL 2 (revB r)).toArray⟩ : ByteArray) = F := ⟨_, rfl⟩
        have hFl : F.size = (revB r).length + 7 := by
          rw [← hF]
          show (frameL 2 (revB r)).toArray.size = _
          rw [List.size_toArray, frameL_len]
        have hF4 := rev_len n1
        have HRv2 : Hid (∀ w, PartsAt w w.heap.size a r.d → Calls Try.prog 12 #[.agg #[.int .i64 r.who, .int .i64 r.seq, .slice a r.d.length c]] w fun e w' => e = .returned (.tuple #[.string F, .int .i64 0]) ∧ Below w.heap.size w w') := fun w hp => by
          have h := HRv.out w hp
          rw [(rvf_ok n1).1, (rvf_ok n1).2, hF] at h
          exact h
        have HRd : Hid (∀ w, Calls Try.prog 16 #[.string (s.extract 0 R.good ++ F)] w fun e w' => ReadTo M 0 w e w') := fun w => by
          have h := HCut.out R.good (frameL 2 (revB r)) w (by rw [frameL_len]; omega)
          rw [hF, m1, m2] at h
          exact h
        have HMT : Hid (M.first.length = 16 ∧ M.table.length = 16) := by show _ ∧ _; rw [← hM]; exact ⟨HS.out.1, by show (tabPut _ _ _ _).length = 16; rw [tabPut_len]; exact HS.out.2⟩
        obtain ⟨n', hn'⟩ : ∃ n' : Nat, R.revs.length + 1 = n' := ⟨_, rfl⟩
        obtain ⟨B', hB'⟩ : ∃ B' : Int, (R.base : Int) + (n' : Int) = B' := ⟨_, rfl⟩
        obtain ⟨G', hG'⟩ : ∃ G' : Int, (R.good : Int) + (F.size : Int) = G' := ⟨_, rfl⟩
        have HNN : Hid (M.revs.length = n') := by show _ = _; rw [← hM, ← hn']; simp
        have HGG : Hid ((M.good : Int) = G') := by show _ = _; rw [← hM, ← hG']; simp only; omega
        have HTT : Hid (M.table[k * 2]? = some r.seq ∧ M.table[k * 2 + 1]? = some B') := by
          have hT := HS.out.2
          have e : (R.base : Int) + ((R.revs.length : Int) + 1) = B' := by rw [← hB', ← hn']; omega
          show _ ∧ _
          rw [← hM]
          simp only [tabPut, hk, Int.toNat_natCast, Nat.mul_comm 2 k, e]
          exact ⟨by rw [List.getElem?_set_ne (by omega), List.getElem?_set_self (by omega)], by rw [List.getElem?_set_self (by rw [List.length_set]; omega)]⟩
        have HKK : Hid (r.who = (k : Int)) := hk
        have HMR : Hid (M.revs = R.revs ++ [r]) := by show _ = _; rw [← hM]
        have hr64 := HOK.out.revs
        have hgd4 := HOK.out.good
        have hw1 : IntKind.i64.wrap ((R.revs.length : Int) + 1) = (n' : Int) := by rw [IntWalk.i64_in _ ⟨by omega, by omega⟩]; omega
        have hw2 : IntKind.i64.wrap ((R.good : Int) + (F.size : Int)) = G' := by rw [IntWalk.i64_in _ ⟨by omega, by omega⟩]; omega
        have hw3 : IntKind.i64.wrap ((R.base : Int) + (n' : Int)) = B' := by rw [IntWalk.i64_in _ ⟨by omega, by omega⟩]; omega
        have HWW : Hid (IntKind.i64.wrap ((R.revs.length : Int) + 1) = (n' : Int) ∧ IntKind.i64.wrap ((R.good : Int) + (F.size : Int)) = G' ∧ IntKind.i64.wrap ((R.base : Int) + (n' : Int)) = B') := ⟨hw1, hw2, hw3⟩
        have HLT : Hid (R.revs.length < n' ∧ F.size ≤ 4007) := ⟨by omega, by omega⟩
        have hFs := HLT.out.2
        clear hw1 hw2 hw3 hy n1 n2 n3 n4 n5 n6 o1 o2 o3 o4 m1 m2 hM hF hFl hF4 hn' hB' hG' hr64 hgd4 hk
        go_wp2_with fail
        with_reducible refine (HTx.out _ HR7.out.revs.1).mono ?_
        rintro e w9 ⟨rfl, hb9⟩
        have HB9 : Hid (Below h w w9) := HB7.out.trans (hb9.mono (Nat.le_of_lt HX7.out.1.2.2.2))
        have HX9 : Hid (RBox w9 h r a c ∧ PartsAt w9 w9.heap.size a r.d) := ⟨HX7.out.1.below hb9, HX7.out.2.here hb9 (Nat.le_refl _)⟩
        have HR9 : Hid (RlAt w9 g R a2 c2) := HR7.out.next hb9
        clear hb9 x1 x2 x35 x37
        obtain ⟨z0, z1, z2, hhl⟩ := HX9.out.1
        go_wp2_with fail
        with_reducible refine (HRv2.out _ HX9.out.2).mono ?_
        rintro e w9' ⟨rfl, hb9⟩
        have HB9' : Hid (Below h w w9') := HB9.out.trans (hb9.mono (Nat.le_of_lt HX9.out.1.2.2.2))
        have HX9' : Hid (RBox w9' h r a c ∧ PartsAt w9' w9'.heap.size a r.d) := ⟨HX9.out.1.below hb9, HX9.out.2.here hb9 (Nat.le_refl _)⟩
        have HR9' : Hid (RlAt w9' g R a2 c2) := HR9.out.next hb9
        clear hb9 z0 z1 z2 hhl
        obtain ⟨z0, z1, z2, hhl⟩ := HX9'.out.1
        have HA9 : Hid (w9'.rangeAt g 0 (rlC R a2 c2)) := HR9'.out.all
        go_wp2_with (refine wpList_load_mid rfl 38 _ rfl g 0 rfl (rlC R a2 c2) _ HA9.out Try.underlying38 rfl HI.out.2.2.2 ?_)
        with_reducible refine (HN.out _ HX9'.out.2).mono ?_
        rintro e w9 ⟨rfl, hb9⟩
        have HB9 : Hid (Below h w w9) := HB9'.out.trans (hb9.mono (Nat.le_of_lt HX9'.out.1.2.2.2))
        have HX9 : Hid (RBox w9 h r a c ∧ PartsAt w9 w9.heap.size a r.d) := ⟨HX9'.out.1.below hb9, HX9'.out.2.here hb9 (Nat.le_refl _)⟩
        have HR9 : Hid (RlAt w9 g R a2 c2) := HR9'.out.next hb9
        clear hb9 z0 z1 z2 hhl HA9
        obtain ⟨-, -, -, -, -, x37⟩ := HR9.out.cells
        have hgl9 := HR9.out.lt
        go_wp2_with fail
        with_reducible refine (HRd.out _).mono ?_
        rintro e w9'' ⟨a3, c3, rfl, hr, hc, hb9⟩
        have HB10 : Hid (Below h w (w9''.alloc (.cells (rlC M a3 c3).toArray 38))) := (HB9.out.trans (hb9.mono (Nat.le_of_lt HX9.out.1.2.2.2))).alloc (Nat.le_trans (Nat.le_of_lt HX9.out.1.2.2.2) hb9.size) _
        have HX10 : Hid (RBox (w9''.alloc (.cells (rlC M a3 c3).toArray 38)) h r a c ∧ PartsAt (w9''.alloc (.cells (rlC M a3 c3).toArray 38)) (w9''.alloc (.cells (rlC M a3 c3).toArray 38)).heap.size a r.d) := ⟨(HX9.out.1.below hb9).below ((Below.refl _ w9'').alloc (Nat.le_refl _) _), (HX9.out.2.here hb9 (Nat.le_refl _)).here ((Below.refl _ w9'').alloc (Nat.le_refl _) _) (Nat.le_refl _)⟩
        have HR10 : Hid (RlAt (w9''.alloc (.cells (rlC M a3 c3).toArray 38)) g R a2 c2) := (HR9.out.next hb9).next ((Below.refl _ w9'').alloc (Nat.le_refl _) _)
        have HQ10 : Hid (RlAt (w9''.alloc (.cells (rlC M a3 c3).toArray 38)) w9''.heap.size M a3 c3) := rl_new hr hc HMT.out.1 HMT.out.2
        have HI3 : Hid _ := log_into (sC_len HMT.out.1 HMT.out.2) (rl_one M a3 c3)
        clear hb9 hr hc x37 hgl9
        go_upto_region 16 with (refine wpList_store_new rfl 38 _ _ rfl _ (rlC M a3 c3).toArray (by rfl) (by rfl) HI3.out.1 (by exact HI3.out.2.1) HI3.out.2.2.1 ?_)
        generalize w9''.alloc (.cells (rlC M a3 c3).toArray 38) = w10 at HB10 HX10 HR10 HQ10 ⊢
        obtain ⟨m, hm⟩ : ∃ m, w9''.heap.size = m := ⟨_, rfl⟩
        rw [hm] at HQ10 ⊢
        clear hm
        obtain ⟨b, off, ai, ci, rfl, hbl, hv⟩ := HQ10.out.revs.1.mem (i := R.revs.length) (r := r) (by rw [HMR.out]; simp)
        have HVL : Hid (RvAt w10 w10.heap.size b (off + R.revs.length * 3) r ai ci ∧ b < w10.heap.size) := ⟨hv, hbl⟩
        have HTk : Hid (∀ w', RevsAt w' w'.heap.size (some ⟨b, off, none⟩) M.revs → RevsAt w' w'.heap.size (some ⟨b, off, none⟩) R.revs) := fun w' h => by
          have h2 := h.take R.revs.length
          rw [HMR.out, List.take_left] at h2
          exact h2
        have hrun : ∀ w' : World, (Instr.slice 36 (.slice (some ⟨b, off, none⟩) n' c3) none (some (.int .i64 (R.revs.length : Int))) none).run Try.prog w' = .ok (.slice (some ⟨b, off, none⟩) R.revs.length c3) w' := by
          obtain ⟨l2, e1, e2, _, hrun⟩ := run_to HQ10.out.revs.1 HQ10.out.revs.2 (k := R.revs.length) (by rw [HMR.out]; simp)
          rw [e2, HNN.out] at hrun
          exact hrun
        have HS1' : Hid _ := fun w h1 h2 => SameRvs_yes (some ⟨b, off, none⟩) a2 R.revs c3 c2 w h1 h2
        have HS2' : Hid (∀ w, PartsAt w w.heap.size ai r.d → PartsAt w w.heap.size a r.d → Calls Try.prog 25 #[.agg #[.int .i64 (k : Int), .int .i64 r.seq, .slice ai r.d.length ci], .agg #[.int .i64 (k : Int), .int .i64 r.seq, .slice a r.d.length c]] w fun e w' => e = .returned (.bool true) ∧ Below w.heap.size w w') := fun w h1 h2 => by
          have h := SameRv_yes r ai a ci c w h1 h2
          rw [HKK.out] at h
          exact h
        have HPm : Hid (PartsAt w10 w10.heap.size ai r.d) := hv.2.2.2.1
        obtain ⟨hw1, hw2, hw3⟩ := HWW.out
        have heq := (sess_eqs r.seq B').1
        have i1 : (0 : Int) ≤ (R.revs.length : Int) := by omega
        have i2 : (R.revs.length : Int) < (n' : Int) := by have := HLT.out.1; omega
        have i3 : (0 : Int) ≤ (k : Int) := by omega
        have i4 : (k : Int) < 8 := by omega
        clear hv hbl hFs
        go_wp2_with fail
        go_region_held3 (fun w' => w'.cell? ⟨m, 35, none⟩ = some (.slice (some ⟨b, off, none⟩) n' c3) ∧ w'.cell? ⟨m, 37, none⟩ = some (.int .i64 G') ∧ w'.cell? ⟨m, 19 + k * 2, none⟩ = some (.int .i64 r.seq) ∧ w'.cell? ⟨m, 19 + k * 2 + 1, none⟩ = some (.int .i64 B') ∧ w'.cell? ⟨g, 1, none⟩ = some (.int .i64 R.base) ∧ w'.cell? ⟨g, 35, none⟩ = some (.slice a2 R.revs.length c2) ∧ w'.cell? ⟨g, 37, none⟩ = some (.int .i64 R.good) ∧ w'.cell? ⟨h, 0, none⟩ = some (.int .i64 k) ∧ w'.cell? ⟨h, 1, none⟩ = some (.int .i64 r.seq) ∧ w'.cell? ⟨h, 2, none⟩ = some (.slice a r.d.length c) ∧ w'.cell? ⟨b, off + R.revs.length * 3, none⟩ = some (.int .i64 k) ∧ w'.cell? ⟨b, off + R.revs.length * 3 + 1, none⟩ = some (.int .i64 r.seq) ∧ w'.cell? ⟨b, off + R.revs.length * 3 + 2, none⟩ = some (.slice ai r.d.length ci)) (first | exact more_held HR10.out HQ10.out HX10.out.1 (Below.refl _ w10).drew HVL.out.1 HVL.out.2 HKK.out HNN.out HGG.out HTT.out | exact more_held HR10.out HQ10.out HX10.out.1 (went11 hb11) HVL.out.1 HVL.out.2 HKK.out HNN.out HGG.out HTT.out | exact more_held HR10.out HQ10.out HX10.out.1 ((went11 hb11).trans (hb12.mono (went11 hb11).size)) HVL.out.1 HVL.out.2 HKK.out HNN.out HGG.out HTT.out | fail)
          (first | (go_at_call 21; with_reducible refine (HS1'.out _ (HTk.out _ (HQ10.out.next (Below.refl _ w10).drew).revs.1) (HR10.out.next (Below.refl _ w10).drew).revs.1).mono ?_; rintro e w11 ⟨rfl, hb11⟩) | (go_at_call 25; with_reducible refine (HS2'.out _ (HPm.out.here (went11 hb11) (Nat.le_refl _)) (HX10.out.2.here (went11 hb11) (Nat.le_refl _))).mono ?_; rintro e w12 ⟨rfl, hb12⟩) | fail)
        go_wp2_with fail
        go_ret
        exact ⟨rfl, by rw [HW.out]; exact HB10.out.trans (((went11 hb11).trans (hb12.mono (went11 hb11).size)).mono (Nat.le_of_lt HX10.out.1.2.2.2))⟩
      · have hyb : (y != 0) = true := by simp [hy0]
        have hgz := HOK.out.good
        clear hy0 hy
        obtain ⟨p, hp⟩ : ∃ p, rvfE r = p := ⟨_, rfl⟩
        obtain ⟨F, hF⟩ : ∃ F : ByteArray, (⟨(rvfT r).toArray⟩ : ByteArray) = F := ⟨_, rfl⟩
        have HRv2 : Hid (∀ w, PartsAt w w.heap.size a r.d → Calls Try.prog 12 #[.agg #[.int .i64 r.who, .int .i64 r.seq, .slice a r.d.length c]] w fun e w' => e = .returned (.tuple #[.string F, .int .i64 p]) ∧ Below w.heap.size w w') := fun w hh => by
          have h := HRv.out w hh
          rw [hp, hF] at h
          exact h
        clear hp hF
        go_wp2_with fail
        with_reducible refine (HTx.out _ HR7.out.revs.1).mono ?_
        rintro e w9 ⟨rfl, hb9⟩
        have HB9 : Hid (Below h w w9) := HB7.out.trans (hb9.mono (Nat.le_of_lt HX7.out.1.2.2.2))
        have HX9 : Hid (RBox w9 h r a c ∧ PartsAt w9 w9.heap.size a r.d) := ⟨HX7.out.1.below hb9, HX7.out.2.here hb9 (Nat.le_refl _)⟩
        have HR9 : Hid (RlAt w9 g R a2 c2) := HR7.out.next hb9
        clear hb9 x1 x2 x35 x37
        obtain ⟨z0, z1, z2, hhl⟩ := HX9.out.1
        go_wp2_with fail
        with_reducible refine (HRv2.out _ HX9.out.2).mono ?_
        rintro e w9' ⟨rfl, hb9⟩
        have HB9' : Hid (Below h w w9') := HB9.out.trans (hb9.mono (Nat.le_of_lt HX9.out.1.2.2.2))
        have HX9' : Hid (RBox w9' h r a c ∧ PartsAt w9' w9'.heap.size a r.d) := ⟨HX9.out.1.below hb9, HX9.out.2.here hb9 (Nat.le_refl _)⟩
        have HR9' : Hid (RlAt w9' g R a2 c2) := HR9.out.next hb9
        clear hb9 z0 z1 z2 hhl
        obtain ⟨z0, z1, z2, hhl⟩ := HX9'.out.1
        have HA9 : Hid (w9'.rangeAt g 0 (rlC R a2 c2)) := HR9'.out.all
        go_wp2_with (refine wpList_load_mid rfl 38 _ rfl g 0 rfl (rlC R a2 c2) _ HA9.out Try.underlying38 rfl HI.out.2.2.2 ?_)
        with_reducible refine (HN.out _ HX9'.out.2).mono ?_
        rintro e w9 ⟨rfl, hb9⟩
        have HB9 : Hid (Below h w w9) := HB9'.out.trans (hb9.mono (Nat.le_of_lt HX9'.out.1.2.2.2))
        clear hb9 z0 z1 z2 hhl HA9
        go_wp2_with fail
        go_ret
        exact ⟨rfl, by rw [HW.out]; exact HB9.out⟩
  · have hqb : (q != 0) = true := by simp [hq0]
    go_wp2_with fail
    go_ret
    exact ⟨rfl, by rw [HW.out]; exact HB7.out⟩
end Go.Proofs.Ytkihanmodfnpcab
