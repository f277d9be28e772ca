/- One more revision: Clip, lastSize, append onto a clipped row. -/
import Derived.Test.YtgffippimmokiaaShDo
import Derived.Test.YtgffippimmokiaaShNew
import Derived.Test.YtgffippimmokiaaLogMem
import Derived.Deep.AppendLies
import Derived.Test.YtgffippimmokiaaHotHead
namespace Go.Proofs.Ytgffippimmokiaa
open Go.RowKit
set_option linter.unusedSimpArgs false
set_option linter.unusedVariables false

theorem Clip_any (a : Option Addr) (n c : Nat) (hn : n ≤ c) (hc : n ≤ 1000000) (w : World) :
    Calls Try.prog 60 #[.slice a n c] w fun e w' => e = .returned (.slice a n n) ∧ w' = w := by
  have hs : ∀ w : World, (Instr.slice 36 (.slice a n c) none (some (.int .i64 (n : Int))) (some (.int .i64 (n : Int)))).run Try.prog w = .ok (.slice a n n) w := by
    intro w
    have h1 : (0 : Int) ≤ (n : Int) := by omega
    have h2 : (n : Int) ≤ (c : Int) := by omega
    cases a <;> simp [Instr.slice, Instr.sliceBounds, run_underlying elemRev, Try.sizeRev, h1, h2, go_sem, sliced, Addr.add]
  go_enter Try.func60, Try.ntmps60
  go_wp2_with fail
  go_ret
  exact ⟨rfl, rfl⟩
/-- how many bytes the last text has -/
def lastZ (S : Lg) : Int := lastN (S.text.length : Nat) S.revs
theorem last_get {l : List Rv} : ∀ {n : Int} {k : Nat} {r : Rv}, l.length = k + 1 → l[k]? = some r → lastN n l = outI r.d := by
  induction l with
  | nil => intro n k r h; simp at h
  | cons x l ih =>
    intro n k r h hk
    cases k with
    | zero =>
      have : l = [] := List.length_eq_zero_iff.1 (by simpa using h)
      subst this
      simp only [List.getElem?_cons_zero, Option.some.injEq] at hk
      subst hk
      rfl
    | succ k => exact ih (by simpa using h) (by simpa using hk)
set_option maxRecDepth 20000 in
set_option maxHeartbeats 2000000 in
theorem LastSize_any (S : Lg) (a : Option Addr) (c : Nat) (gd : Int) (w : World) (hl : RevsAt w w.heap.size a S.revs) (hc : S.revs.length ≤ c) (hF : S.first.length = 16) (hT : S.table.length = 16) (h64 : S.revs.length ≤ 64) (h1 : ∀ r ∈ S.revs, oneE r = 0) (ht : S.text.length ≤ 500) :
    Calls Try.prog 56 #[.agg (sC S (.slice a S.revs.length c) gd).toArray] w fun e w' => e = .returned (.int .i64 (lastZ S)) ∧ Below w.heap.size w w' := by
  obtain ⟨L, hL⟩ : ∃ L, sC S (.slice a S.revs.length c) gd = L := ⟨_, rfl⟩
  obtain ⟨l0, s0, s1, s2, s35, _⟩ := sC_at (S := S) (v := .slice a S.revs.length c) (gd := gd) hF hT
  rw [hL] at l0 s0 s1 s2 s35 ⊢
  have HR : Hid (RevsAt w w.heap.size a S.revs) := hl
  have HG : Hid (LgAt (w.alloc (.cells L.toArray 82)) w.heap.size L) := heap_alloc_new w _
  have HB : Hid (Below w.heap.size w (w.alloc (.cells L.toArray 82))) := (Below.refl _ w).alloc (Nat.le_refl _) _
  have H1 : Hid _ := h1
  have HS : Hid (L[2]? = some (.string ⟨S.text.toArray⟩) ∧ L[35]? = some (.slice a S.revs.length c)) := ⟨s2, s35⟩
  have HZ : Hid (lastZ S = lastN (S.text.length : Nat) S.revs) := rfl
  clear hL hl h1 l0 s0 s1 s2 s35
  go_enter Try.func56, Try.ntmps56
  go_upto_region 1 with fail
  generalize w.alloc (.cells L.toArray 82) = w0 at HG HB ⊢
  have c2 := HG.out.cell HS.out.1
  have c35 := HG.out.cell HS.out.2
  have hgl := HG.out.lt
  rcases Nat.eq_zero_or_pos S.revs.length with h0 | h0
  · have hn : S.revs = [] := List.length_eq_zero_iff.1 h0
    have HE : Hid (lastZ S = (S.text.length : Nat)) := by show _ = _; rw [HZ.out, hn]; rfl
    have htl : (⟨S.text.toArray⟩ : ByteArray).size = S.text.length := List.size_toArray
    have hb0 : ((S.revs.length : Int) == 0) = true := by rw [h0]; rfl
    clear hn h0
    go_wp2_with fail
    go_ret
    exact ⟨by rw [HE.out]; rfl, HB.out⟩
  · obtain ⟨k, hk⟩ : ∃ k, S.revs.length = k + 1 := ⟨S.revs.length - 1, by omega⟩
    obtain ⟨r, hr⟩ : ∃ r, S.revs[k]? = some r := ⟨_, List.getElem?_eq_getElem (by omega)⟩
    have HE : Hid (lastZ S = outI r.d) := by show _ = _; rw [HZ.out, last_get hk hr]
    have hone := H1.out r (List.mem_of_getElem? hr)
    obtain ⟨⟨o1, o2, o3, o4⟩, h00⟩ := one_zero hone
    obtain ⟨z1, z2, z3⟩ := sizes_zero h00
    obtain ⟨b, off, ai, ci, rfl, hbl, d0, d1, d2, d3, d4⟩ := (HR.out.here HB.out (Nat.le_refl _)).mem hr
    have HSz : Hid _ := fun w hp => Sizes_any ai r.d ci w hp
    rw [h00, z3] at HSz
    have HP : Hid _ := d3
    have hw1 : IntKind.i64.wrap ((S.revs.length : Int) - 1) = (k : Int) := by
      rw [show ((S.revs.length : Int) - 1) = (k : Int) by omega]
      exact IntWalk.i64_in _ ⟨by omega, by omega⟩
    have hb0 : ((S.revs.length : Int) == 0) = false := by rw [beq_eq_false_iff_ne]; omega
    have hki : (k : Int) < (S.revs.length : Int) := by omega
    have hk0 : (0 : Int) ≤ (k : Int) := by omega
    clear hone o1 o2 o3 o4 h00 z1 z2 z3 hr hk d3 d4 h0
    go_wp2_with fail
    refine (HSz.out _ HP.out).mono ?_
    rintro e w1 ⟨rfl, hb1⟩
    have HB1 : Hid (Below w.heap.size w w1) := HB.out.trans (hb1.mono HB.out.size)
    clear hb1
    go_wp2_with fail
    go_ret
    exact ⟨by rw [HE.out]; rfl, HB1.out⟩
/-- a revision more behind a row that has no room left: the row lies anew -/
theorem run_more {w : World} {B n c b : Nat} {la : Option Addr} {cs : List Value} {u0 u1 u2 : Value} {fz : Nat × Nat} (h : w.ownsRow B 40 3 (.slice la n c) n cs) (hb : w.heap[b]? = some (.cells #[u0, u1, u2] 40 fz)) (hn : n ≤ 64) :
    ∃ cap w', (Builtin.append_ #[36, 36] 36 #[.slice la n n, .slice (some ⟨b, 0, none⟩) 1 1]).run Try.prog w = .ok (.slice (some ⟨w.heap.size, 0, none⟩) (n + 1) cap) w' ∧
      w'.ownsRow w.heap.size 40 3 (.slice (some ⟨w.heap.size, 0, none⟩) (n + 1) cap) (n + 1) (cs ++ [u0, u1, u2]) ∧ Below w.heap.size w w' := by
  obtain ⟨ip, hip, hp0, hp1, hp2⟩ := info_parts infoRev
  have hnew : ∀ j u, [u0, u1, u2][j]? = some u → w.cell? ((⟨b, 0, none⟩ : Addr).add j) = some u := fun j u hu => World.news_of_block hb j u (by simpa using hu)
  have hown : ∀ (old : Nat), (w.drew.alloc (.cells (cs.toArray ++ [u0, u1, u2].toArray ++ Builtin.zeroCells (Value.agg #[.int .i64 0, .int .i64 0, .slice none 0 0]).cells (grownCap w (n + 1) old 40 - (n + 1))) 40)).ownsRow w.heap.size 40 3 (.slice (some ⟨w.heap.size, 0, none⟩) (n + 1) (grownCap w (n + 1) old 40)) (n + 1) (cs ++ [u0, u1, u2]) ∧
      Below w.heap.size w (w.drew.alloc (.cells (cs.toArray ++ [u0, u1, u2].toArray ++ Builtin.zeroCells (Value.agg #[.int .i64 0, .int .i64 0, .slice none 0 0]).cells (grownCap w (n + 1) old 40 - (n + 1))) 40)) := by
    intro old
    have g1 := grownCap_ge w (n + 1) old 40
    have g2 := grownCap_le_maxLen w (n + 1) old 40 (by unfold maxLen; omega)
    have hl : (cs ++ [u0, u1, u2]).length = (n + 1) * 3 := by rw [List.length_append, h.1]; simp only [List.length_cons, List.length_nil]; omega
    refine ⟨⟨hl, .inr ⟨w.heap.size, _, _, rfl, Nat.le_refl _, heap_alloc_new w.drew _, g1, g2, ?_, ?_⟩⟩, ((Below.refl _ w).drew).alloc (Nat.le_refl _) _⟩
    · rw [Array.size_append, Array.size_append, size_zeroCells, List.size_toArray, List.size_toArray, h.1]
      show n * 3 + 3 + _ * 3 = _
      omega
    · rw [Array.toList_append, Array.toList_append, ← hl]
      exact List.take_left
  rcases h.2 with ⟨hv, h0⟩ | ⟨g, cap, cur, hv, _⟩
  · subst h0
    simp only [Value.slice.injEq, true_and] at hv
    obtain ⟨rfl, _⟩ := hv
    have hcs : cs = [] := List.length_eq_zero_iff.1 (by simpa using h.1)
    subst hcs
    refine ⟨_, _, ?_, hown 0⟩
    have hr := run_append_nil (P := Try.prog) w 36 36 40 ip _ Try.underlying36 hip hp0 ⟨b, 0, none⟩ 1 1 [u0, u1, u2] (by rw [hp1]; rfl) hnew (by decide) (by decide) (by rw [hp2]; decide)
    simpa using hr
  · simp only [Value.slice.injEq, true_and] at hv
    obtain ⟨rfl, rfl⟩ := hv
    refine ⟨_, _, ?_, hown n⟩
    exact run_append_grow (P := Try.prog) w 36 36 40 ip _ Try.underlying36 hip hp0 ⟨g, 0, none⟩ n n cs (by rw [hp1]; exact h.1) (h.cells (g := g) rfl) ⟨b, 0, none⟩ 1 1 [u0, u1, u2] (by rw [hp1]; rfl) hnew (by omega) (by omega)
      (by have := nextslicecap_le (need := n + 1) (old := n) (by omega); rw [hp2]; omega)
theorem wp_more {op : Oper} {a : Act} {w : World} {K : Act → World → Prop} {Q : Exit → Act → World → Prop} (s x : Operand) (ho : op.op = .call { callee := .builtin .append, args := #[s, x], argTypes := #[36, 36] }) (hty : op.type = 36)
    {B n c b : Nat} {la : Option Addr} {cs : List Value} {u0 u1 u2 : Value} {fz : Nat × Nat} (hs : a.eval s = .slice la n n) (hx : a.eval x = .slice (some ⟨b, 0, none⟩) 1 1) (h : w.ownsRow B 40 3 (.slice la n c) n cs) (hb : w.heap[b]? = some (.cells #[u0, u1, u2] 40 fz)) (hn : n ≤ 64)
    (hK : ∀ cap w', w'.ownsRow w.heap.size 40 3 (.slice (some ⟨w.heap.size, 0, none⟩) (n + 1) cap) (n + 1) (cs ++ [u0, u1, u2]) → Below w.heap.size w w' → K (a.put op.dst (.slice (some ⟨w.heap.size, 0, none⟩) (n + 1) cap)) w') : op.wp Try.prog a w K Q := by
  obtain ⟨cap, w', hr, h2, h3⟩ := run_more h hb hn
  unfold Oper.wp execOp
  simp only [ho, hty, resolve, invoke, builtin, Sem.run_bind, Sem.run_pure, Result.andThen_ok, List.map_toArray, List.map_cons, List.map_nil, hs, hx, hr]
  exact hK cap w' h2 h3
end Go.Proofs.Ytgffippimmokiaa

/- What Add does. -/
namespace Go.Proofs.Ytgffippimmokiaa
open Go.RowKit
set_option linter.unusedSimpArgs false
set_option linter.unusedVariables false

theorem Twofold_any (st fl sd : Int) (w : World) :
    Calls Try.prog 58 #[.agg #[.int .i64 st, .int .i64 fl, .int .i64 sd]] w fun e w' => e = .returned (.bool (st == 3 || st == 4)) ∧ Below w.heap.size w w' := by
  have HB : Hid (Below w.heap.size w (w.alloc (.cells #[.int .i64 st, .int .i64 fl, .int .i64 sd] 90))) := (Below.refl _ w).alloc (Nat.le_refl _) _
  by_cases h3 : st = 3
  · subst h3
    go_enter Try.func58, Try.ntmps58
    go_wp2_with fail
    go_ret
    exact ⟨rfl, HB.out⟩
  · have h3' : (st == 3) = false := by rw [beq_eq_false_iff_ne]; exact h3
    go_enter Try.func58, Try.ntmps58
    go_wp2_with fail
    go_ret
    exact ⟨by rw [h3']; rfl, HB.out⟩
/-- an archive that is right -/
structure ShOk (S : Sh) : Prop where
  dk : DkOk S
  log : ∃ n, LOk S.log n
/-- what a revision's frame is -/
def frB (r : Rv) : ByteArray := ⟨(frameL 2 (revB r)).toArray⟩
def twoB (S : Sh) : Bool := ((S.stage : Nat) : Int) == 3 || ((S.stage : Nat) : Int) == 4
def addLg (S : Lg) (r : Rv) : Lg := { S with table := tabPut S.table r.who r.seq (S.base + (S.revs.length + 1)), revs := S.revs ++ [r] }
def addS (S : Sh) (r : Rv) : Sh := { S with c := S.c ++ frB r, o := if twoB S then S.o ++ frB r else S.o, log := addLg S.log r }
def addE (S : Sh) (r : Rv) : Int := nextE S.log.table S.log.base S.log.revs.length (lastZ S.log) r
def addT (S : Sh) (r : Rv) : Sh := if addE S r = 0 then addS S r else S
def addN (S : Sh) (r : Rv) : Int := if addE S r = 0 then (headN S : Int) + 1 else 0
theorem revFrame_ok {r : Rv} (h : oneE r = 0) : rvfE r = 0 ∧ (⟨(rvfT r).toArray⟩ : ByteArray) = frB r := by
  obtain ⟨h1, h2⟩ := rvf_ok h
  exact ⟨h1, by rw [h2]; rfl⟩
theorem frB_len {r : Rv} (h : oneE r = 0) : (frB r).size ≤ 4007 := by
  have h2 := rev_len h
  show (frameL 2 (revB r)).toArray.size ≤ _
  rw [List.size_toArray, frameL_len]
  omega
theorem hist_ones {l : List Rv} {s : List UInt8} (h : histE s l = 0) : ∀ r ∈ l, oneE r = 0 := by
  intro r hr
  obtain ⟨i, hi⟩ := List.getElem?_of_mem hr
  exact (hist_at h hi).1
theorem RBox.aside {w w' : World} {g h : Nat} {r : Rv} {a : Option Addr} {c : Nat} (hx : RBox w h r a c) (ha : Aside g w w') (hne : h ≠ g) : RBox w' h r a c := by
  obtain ⟨x0, x1, x2, x3⟩ := hx
  have e := World.grownBy.block ha h x3 (fun e => hne (Option.some.inj e))
  exact ⟨(World.cell?_of_block e).trans x0, (World.cell?_of_block e).trans x1, (World.cell?_of_block e).trans x2, Nat.lt_of_lt_of_le x3 ha.size⟩
/-- parts that are not in a block: whatever is done to that -/
def PartsFar (w : World) (g : Nat) (a : Option Addr) (l : List Pt) : Prop := ∀ w', Aside g w w' → PartsAt w' w'.heap.size a l
theorem PartsFar.on {w w' : World} {g : Nat} {a : Option Addr} {l : List Pt} (h : PartsFar w g a l) (ha : Aside g w w') : PartsFar w' g a l := fun w2 h2 => h w2 (ha.trans h2)
theorem PartsFar.here {w : World} {g : Nat} {a : Option Addr} {l : List Pt} (h : PartsFar w g a l) : PartsAt w w.heap.size a l := h w (Aside.refl g w)
theorem parts_far {w : World} {B g : Nat} {a : Option Addr} {l : List Pt} (h : PartsAt w B a l) (hg : B ≤ g) : PartsFar w g a l := fun w' ha => h.here (ha.below hg h.2.1) (Nat.le_refl _)
theorem part_small {r : Rv} (h : oneE r = 0) : ∀ p ∈ r.d, p.t.size ≤ 281474976710656 := by
  intro p hp
  obtain ⟨h1, h2⟩ := sizes_zero (one_zero h).2
  have h3 := h1.2 p hp
  obtain ⟨k1, k2⟩ := h3
  omega
theorem sl_more {b t : ByteArray} {y : Int} (h : slE b y = 0) (ht : b.size + t.size ≤ 1048576) : slE (b ++ t) y = 0 := by
  obtain ⟨_, h2, h3⟩ := sl_zero h
  exact sl_of (by rw [ByteArray.size_append]; exact ht) h2 (by rw [ByteArray.size_append]; omega)
/-- the row of revisions that lies anew, in its archive -/
theorem ShOf.more {w w' : World} {g n cap : Nat} {S : Sh} {v : Value} {xs : List (Rv × Option Addr × Nat)} {r : Rv} {la : Option Addr} {lc : Nat} (h : ShOf w g S v xs) (hb : Below w.heap.size w w') (hone : oneE r = 0)
    (ho : w'.ownsRow 0 138 3 (.slice la r.d.length lc) r.d.length (allCells r.d))
    (hown : w'.ownsRow w.heap.size 40 3 (.slice (some ⟨n, 0, none⟩) (xs.length + 1) cap) (xs.length + 1) (rvAll xs ++ [.int .i64 r.who, .int .i64 r.seq, .slice la r.d.length lc])) :
    ShOf (w'.setCell ⟨g, 40, none⟩ (.slice (some ⟨n, 0, none⟩) (xs.length + 1) cap)) g { S with log := { S.log with revs := S.log.revs ++ [r] } } (.slice (some ⟨n, 0, none⟩) (xs.length + 1) cap) (xs ++ [(r, la, lc)]) ∧ Aside g w (w'.setCell ⟨g, 40, none⟩ (.slice (some ⟨n, 0, none⟩) (xs.length + 1) cap)) := by
  have h' := h.below hb
  obtain ⟨h1, h2, h3, hF, hT⟩ := h'
  have has : Aside g w' (w'.setCell ⟨g, 40, none⟩ (.slice (some ⟨n, 0, none⟩) (xs.length + 1) cap)) := (Aside.refl g w').put 40 _
  have hput := h1.put 40 (.slice (some ⟨n, 0, none⟩) (xs.length + 1) cap)
  have e40 : (shC S v).set 40 (.slice (some ⟨n, 0, none⟩) (xs.length + 1) cap) = shC { S with log := { S.log with revs := S.log.revs ++ [r] } } (.slice (some ⟨n, 0, none⟩) (xs.length + 1) cap) := by
    have e := (shL_set (p := S.p0) (x := S.x0) (q := S.p1) (y := S.x1) (n := S.cur) (f := S.safe) (st := S.stage) (fl := S.floor) (sd := S.said) (sC_len (v := v) (gd := S.log.good) hF hT)).1 35 (.slice (some ⟨n, 0, none⟩) (xs.length + 1) cap) (by omega)
    have e2 := (lg_set (gen := S.log.gen) (base := S.log.base) (text := S.log.text) (F := S.log.first) (T := S.log.table) (rv := v) (wh := S.log.whole) (gd := S.log.good) hF hT []).1 (.slice (some ⟨n, 0, none⟩) (xs.length + 1) cap)
    rw [List.append_nil, List.append_nil] at e2
    have e3 : (sC S.log v S.log.good).set 35 (.slice (some ⟨n, 0, none⟩) (xs.length + 1) cap) = sC { S.log with revs := S.log.revs ++ [r] } (.slice (some ⟨n, 0, none⟩) (xs.length + 1) cap) S.log.good := e2
    rw [e3] at e
    exact e
  rw [e40] at hput
  refine ⟨⟨hput, ⟨fun x hx => ?_, ?_⟩, ?_, hF, hT⟩, (below_aside hb g).trans has⟩
  · rcases List.mem_append.1 hx with hx | hx
    · exact (h2.1 x hx).aside h1 (by decide) has
    · rw [List.mem_singleton.1 hx]
      exact ⟨hone, ho.kept has (.inr (own_ne' ho h1 (by decide)))⟩
  · have e : rvAll (xs ++ [(r, la, lc)]) = rvAll xs ++ [.int .i64 r.who, .int .i64 r.seq, .slice la r.d.length lc] := by rw [rvAll_app]; rfl
    rw [e, List.length_append, List.length_singleton]
    exact (rz_base hown (Nat.zero_le _)).kept has (.inr (own_ne' hown h1 (by decide)))
  · rw [List.map_append, h3]; rfl
/-- .. and its table -/
theorem ShOf.tabbed {w : World} {g k : Nat} {S : Sh} {v : Value} {xs : List (Rv × Option Addr × Nat)} {m : Int} {r : Rv} (h : ShOf w g S v xs) (hk : r.who = (k : Int)) (hk7 : k ≤ 7) :
    ShOf ((w.setCell ⟨g, 24 + k * 2, none⟩ (.int .i64 r.seq)).setCell ⟨g, 24 + k * 2 + 1, none⟩ (.int .i64 m)) g { S with log := { S.log with table := tabPut S.log.table r.who r.seq m } } v xs ∧ Aside g w ((w.setCell ⟨g, 24 + k * 2, none⟩ (.int .i64 r.seq)).setCell ⟨g, 24 + k * 2 + 1, none⟩ (.int .i64 m)) := by
  obtain ⟨h1, h2, h3, hF, hT⟩ := h
  have has : Aside g w ((w.setCell ⟨g, 24 + k * 2, none⟩ (.int .i64 r.seq)).setCell ⟨g, 24 + k * 2 + 1, none⟩ (.int .i64 m)) := ((Aside.refl g w).put _ _).put _ _
  have hput := (h1.put (24 + k * 2) (.int .i64 r.seq)).put (24 + k * 2 + 1) (.int .i64 m)
  have set1 : ∀ (T : List Int) (i : Nat) (q : Int), T.length = 16 → i < 16 → (shL S.p0 S.x0 S.p1 S.x1 S.cur (sC { S.log with table := T } v S.log.good) S.safe S.stage S.floor S.said).set (24 + i) (.int .i64 q) = shL S.p0 S.x0 S.p1 S.x1 S.cur (sC { S.log with table := T.set i q } v S.log.good) S.safe S.stage S.floor S.said := by
    intro T i q hTl hi
    have e := (shL_set (p := S.p0) (x := S.x0) (q := S.p1) (y := S.x1) (n := S.cur) (f := S.safe) (st := S.stage) (fl := S.floor) (sd := S.said) (sC_len (S := { S.log with table := T }) (v := v) (gd := S.log.good) hF hTl)).1 (19 + i) (.int .i64 q) (by omega)
    have e2 := (lg_set (gen := S.log.gen) (base := S.log.base) (text := S.log.text) (F := S.log.first) (T := T) (rv := v) (wh := S.log.whole) (gd := S.log.good) hF hTl []).2.2.2 i q hi
    rw [List.append_nil, List.append_nil] at e2
    have e3 : (sC { S.log with table := T } v S.log.good).set (19 + i) (.int .i64 q) = sC { S.log with table := T.set i q } v S.log.good := e2
    rw [e3, show 5 + (19 + i) = 24 + i by omega] at e
    exact e
  have e1 := set1 S.log.table (k * 2) r.seq hT (by omega)
  have e2 := set1 (S.log.table.set (k * 2) r.seq) (k * 2 + 1) m (by rw [List.length_set]; exact hT) (by omega)
  have e3 : tabPut S.log.table r.who r.seq m = (S.log.table.set (k * 2) r.seq).set (k * 2 + 1) m := by rw [tabPut, hk, Int.toNat_natCast, Nat.mul_comm 2 k]
  have e4 : ((shC S v).set (24 + k * 2) (.int .i64 r.seq)).set (24 + k * 2 + 1) (.int .i64 m) = shC { S with log := { S.log with table := tabPut S.log.table r.who r.seq m } } v := by
    have e5 : (shC S v).set (24 + k * 2) (.int .i64 r.seq) = _ := e1
    rw [e5, show 24 + k * 2 + 1 = 24 + (k * 2 + 1) by omega, e2, ← e3]; rfl
  rw [e4] at hput
  exact ⟨⟨hput, h2.aside h1 (by decide) (by decide) has, h3, hF, by show (tabPut _ _ _ _).length = 16; rw [tabPut_len]; exact hT⟩, has⟩
/-- the archive with one revision more, its table not yet turned -/
def appS (S : Sh) (c o : ByteArray) (r : Rv) : Sh := { S.disk c S.x o S.y with log := { S.log with revs := S.log.revs ++ [r] } }
theorem twoB_is (S : Sh) : (((S.stage : Nat) : Int) == 3 || ((S.stage : Nat) : Int) == 4) = twoB S := rfl
/-- none of its revisions lies in this block -/
def Spare (k : Nat) (xs : List (Rv × Option Addr × Nat)) : Prop := ∀ x ∈ xs, (Value.slice x.2.1 x.1.d.length x.2.2).ownBlock ≠ some k
theorem spare_snoc {k gd c : Nat} {r : Rv} {xs : List (Rv × Option Addr × Nat)} (h : Spare k xs) (hg : k < gd) : Spare k (xs ++ [(r, some ⟨gd, 0, none⟩, c)]) := by
  intro x hx
  rcases List.mem_append.1 hx with hx | hx
  · exact h x hx
  · rw [List.mem_singleton.1 hx]
    intro e
    have e2 : gd = k := Option.some.inj e
    omega
theorem row_base {w : World} {B n m c gd size : Nat} {e : TypeId} {cs : List Value} (h : w.ownsRow B e size (.slice (some ⟨gd, 0, none⟩) m c) n cs) : B ≤ gd := by
  rcases h.2 with ⟨h1, _⟩ | ⟨g, cap, cur, h1, h2, _⟩
  · cases h1
  · cases h1; exact h2
set_option maxRecDepth 100000 in
set_option maxHeartbeats 8000000 in
theorem ShAdd_of (S : Sh) (r : Rv) (a : Option Addr) (c g : Nat) (w : World) {v : Value} {xs : List (Rv × Option Addr × Nat)} (h : ShOf w g S v xs) (ok : ShOk S) (hp : PartsFar w g a r.d) (hr1 : S.c.size + 4007 ≤ 1048576) (hr2 : S.o.size + 4007 ≤ 1048576) :
    Calls Try.prog 19 #[.pointer (some ⟨g, 0, none⟩), .agg #[.int .i64 r.who, .int .i64 r.seq, .slice a r.d.length c]] w fun e w' => e = .returned (.tuple #[.int .i64 (addN S r), .int .i64 (addE S r)]) ∧ (∃ v' xs', ShOf w' g (addT S r) v' xs' ∧ ∀ k, k < w.heap.size → Spare k xs → Spare k xs') ∧ Aside g w w' := by
  obtain ⟨nn, ok1⟩ := ok.log
  have hof := h
  clear h
  obtain ⟨va, vc, hv, hvc, hrv⟩ := hof.revsAt ok1.revs
  have HF : Hid (S.log.first.length = 16 ∧ S.log.table.length = 16 ∧ S.log.revs.length ≤ 64 ∧ headN S ≤ 2147483647) := ⟨ok1.first, ok1.table, ok1.revs, ok1.ends⟩
  have hxl : xs.length = S.log.revs.length := by rw [← hof.2.2.1, List.length_map]
  subst hv
  have HO : Hid (ShOf w g S (.slice va S.log.revs.length vc) xs) := hof
  have HP : Hid (PartsFar w g a r.d) := hp
  have hgl := hof.1.lt
  have HX0 : Hid (RBox (w.alloc (.cells #[.int .i64 r.who, .int .i64 r.seq, .slice a r.d.length c] 40)) w.heap.size r a c) := rbox_new w r a c
  have HB0 : Hid (Below w.heap.size w (w.alloc (.cells #[.int .i64 r.who, .int .i64 r.seq, .slice a r.d.length c] 40))) := (Below.refl _ w).alloc (Nat.le_refl _) _
  obtain ⟨L, hL⟩ : ∃ L, sC S.log (.slice va S.log.revs.length vc) S.log.good = L := ⟨_, rfl⟩
  have HLE : Hid (sC S.log (.slice va S.log.revs.length vc) S.log.good = L) := hL
  obtain ⟨l0, s0, s1, s2, s35, sT⟩ := sC_at (S := S.log) (v := .slice va S.log.revs.length vc) (gd := S.log.good) ok1.first ok1.table
  rw [hL] at l0 s1 s35 sT
  have HLn : Hid (L.length = 38) := l0
  have HLS : Hid (∀ w, RevsAt w w.heap.size va S.log.revs → Calls Try.prog 56 #[.agg L.toArray] w fun e w' => e = .returned (.int .i64 (lastZ S.log)) ∧ Below w.heap.size w w') := by
    intro w hl
    rw [← hL]
    exact LastSize_any S.log va vc S.log.good w hl hvc ok1.first ok1.table ok1.revs (hist_ones ok1.hist) ok1.text
  have HNx : Hid (∀ w, PartsAt w w.heap.size a r.d → Calls Try.prog 55 #[.agg L.toArray, .int .i64 (lastZ S.log), .agg #[.int .i64 r.who, .int .i64 r.seq, .slice a r.d.length c]] w fun e w' => e = .returned (.int .i64 (addE S r)) ∧ Below w.heap.size w w') := by
    intro w hp
    exact Next_any L.toArray S.log.base S.log.revs.length va vc S.log.table (lastZ S.log) r a c w hp (by rw [List.getElem?_toArray]; exact s1) (by rw [List.getElem?_toArray]; exact s35) (fun k q hk => by rw [List.getElem?_toArray]; exact sT k q hk) ok1.table (by have := ok1.revs; omega)
  have hinfo : (Try.prog.info? 82).map (·.size) = some L.length := by rw [l0]; exact infoLg
  have HRr : Hid (RevsAt w w.heap.size va S.log.revs ∧ S.log.revs.length ≤ vc) := ⟨hrv, hvc⟩
  have HOK : Hid (ShOk S ∧ S.c.size + 4007 ≤ 1048576 ∧ S.o.size + 4007 ≤ 1048576 ∧ xs.length = S.log.revs.length) := ⟨ok, hr1, hr2, hxl⟩
  obtain ⟨q, hq⟩ : ∃ q, addE S r = q := ⟨_, rfl⟩
  have HQ : Hid (addE S r = q) := hq
  rw [hq] at HNx ⊢
  clear hof hp hrv hvc hL l0 s0 s1 s2 s35 sT ok1 nn ok hr1 hr2 hxl hq hgl
  obtain ⟨h, hh⟩ : ∃ h, w.heap.size = h := ⟨_, rfl⟩
  have HH : Hid (w.heap.size = h) := hh
  go_enter Try.func19, Try.ntmps19
  go_upto_region 1 with fail
  generalize w.alloc (.cells #[.int .i64 r.who, .int .i64 r.seq, .slice a r.d.length c] 40) = w0 at HX0 HB0 ⊢
  rw [hh] at HX0
  clear hh
  have HO0 : Hid (ShOf w0 g S (.slice va S.log.revs.length vc) xs) := HO.out.below HB0.out
  have HHd : Hid (∀ w', Below w0.heap.size w0 w' → w'.rangeAt g 5 L ∧ w'.cell? ⟨h, 0, none⟩ = some (.int .i64 r.who) ∧ w'.cell? ⟨h, 1, none⟩ = some (.int .i64 r.seq) ∧ w'.cell? ⟨h, 2, none⟩ = some (.slice a r.d.length c)) := by
    intro w' hb
    obtain ⟨x0, x1, x2, _⟩ := HX0.out.below hb
    have h1 := (HO0.out.below hb).log
    rw [HLE.out] at h1
    exact ⟨h1, x0, x1, x2⟩
  refine wp_region_held_drew (S := fun w' => w'.rangeAt g 5 L ∧ w'.cell? ⟨h, 0, none⟩ = some (.int .i64 r.who) ∧ w'.cell? ⟨h, 1, none⟩ = some (.int .i64 r.seq) ∧ w'.cell? ⟨h, 2, none⟩ = some (.slice a r.d.length c)) (by kernel_rfl) (HHd.out _ (Below.refl _ w0).drew) (fun hHeld => ?_)
  refine wpAnyH_take (i := 0) (v := .pointer (some ⟨g, 0, none⟩)) rfl (by kernel_rfl) (by kernel_rfl) (by kernel_rfl) (fun _ _ _ h => h) (Or.inl ⟨by kernel_rfl, fun w' hSw => by obtain ⟨_, s0, s1, s2⟩ := hSw; first | (go_simp; done) | (go_simp; rfl)⟩) hHeld ?_
  simp only [Act.put, List.setIfInBounds_toArray, List.set_cons_zero, List.set_cons_succ]
  refine wpAnyH_take (i := 1) (v := .pointer (some ⟨g, 0, none⟩)) rfl (by kernel_rfl) (by kernel_rfl) (by kernel_rfl) (fun _ _ _ h => h) (Or.inl ⟨by kernel_rfl, fun w' hSw => by obtain ⟨_, s0, s1, s2⟩ := hSw; first | (go_simp; done) | (go_simp; rfl)⟩) hHeld ?_
  simp only [Act.put, List.setIfInBounds_toArray, List.set_cons_zero, List.set_cons_succ]
  refine wpAnyH_take (i := 2) (v := .pointer (some ⟨g, 5, none⟩)) rfl (by kernel_rfl) (by kernel_rfl) (by kernel_rfl) (fun _ _ _ h => h) (Or.inl ⟨by kernel_rfl, fun w' hSw => by obtain ⟨_, s0, s1, s2⟩ := hSw; first | (go_simp; done) | (go_simp; rfl)⟩) hHeld ?_
  simp only [Act.put, List.setIfInBounds_toArray, List.set_cons_zero, List.set_cons_succ]
  refine wpAnyH_take (i := 3) rfl (by kernel_rfl) (by kernel_rfl) (by kernel_rfl) (fun _ _ _ h => h) (yieldsIf_load_mid (by kernel_rfl) 82 _ rfl g 5 rfl L _ (fun w h => h.1) Try.underlying82 rfl hinfo) hHeld ?_
  simp only [Act.put, List.setIfInBounds_toArray, List.set_cons_zero, List.set_cons_succ]
  refine wpAnyH_take (i := 4) (v := .pointer (some ⟨g, 0, none⟩)) rfl (by kernel_rfl) (by kernel_rfl) (by kernel_rfl) (fun _ _ _ h => h) (Or.inl ⟨by kernel_rfl, fun w' hSw => by obtain ⟨_, s0, s1, s2⟩ := hSw; first | (go_simp; done) | (go_simp; rfl)⟩) hHeld ?_
  simp only [Act.put, List.setIfInBounds_toArray, List.set_cons_zero, List.set_cons_succ]
  refine wpAnyH_take (i := 5) (v := .pointer (some ⟨g, 0, none⟩)) rfl (by kernel_rfl) (by kernel_rfl) (by kernel_rfl) (fun _ _ _ h => h) (Or.inl ⟨by kernel_rfl, fun w' hSw => by obtain ⟨_, s0, s1, s2⟩ := hSw; first | (go_simp; done) | (go_simp; rfl)⟩) hHeld ?_
  simp only [Act.put, List.setIfInBounds_toArray, List.set_cons_zero, List.set_cons_succ]
  refine wpAnyH_take (i := 6) (v := .pointer (some ⟨g, 5, none⟩)) rfl (by kernel_rfl) (by kernel_rfl) (by kernel_rfl) (fun _ _ _ h => h) (Or.inl ⟨by kernel_rfl, fun w' hSw => by obtain ⟨_, s0, s1, s2⟩ := hSw; first | (go_simp; done) | (go_simp; rfl)⟩) hHeld ?_
  simp only [Act.put, List.setIfInBounds_toArray, List.set_cons_zero, List.set_cons_succ]
  refine wpAnyH_take (i := 7) rfl (by kernel_rfl) (by kernel_rfl) (by kernel_rfl) (fun _ _ _ h => h) (yieldsIf_load_mid (by kernel_rfl) 82 _ rfl g 5 rfl L _ (fun w h => h.1) Try.underlying82 rfl hinfo) hHeld ?_
  simp only [Act.put, List.setIfInBounds_toArray, List.set_cons_zero, List.set_cons_succ]
  refine wpAnyH_take (i := 9) (v := .agg #[.int .i64 r.who, .int .i64 r.seq, .slice a r.d.length c]) rfl (by kernel_rfl) (by kernel_rfl) (by kernel_rfl) (fun _ _ _ h => h) (Or.inl ⟨by kernel_rfl, fun w' hSw => by obtain ⟨_, s0, s1, s2⟩ := hSw; first | (go_simp; done) | (go_simp; rfl)⟩) hHeld ?_
  simp only [Act.put, List.setIfInBounds_toArray, List.set_cons_zero, List.set_cons_succ]
  refine wpAnyH_ready (rs := [8]) (by kernel_rfl) (by simp) ?_
  refine AllReadyH.cons rfl (fun K hK => ?_) AllReadyH.nil
  go_simp
  with_reducible refine (HLS.out _ (HRr.out.1.here (HB0.out.drew) (Nat.le_refl _))).mono ?_
  rintro e w1 ⟨rfl, hb1⟩
  have HB1 : Hid (Below w0.heap.size w0 w1) := ((Below.refl w0.heap.size w0).drew).trans hb1
  clear hb1
  go_wp2_with fail
  refine hK.out _ _ (HHd.out _ HB1.out) (fun hHeld1 => ?_)
  clear hK K
  try simp only [Act.put, List.setIfInBounds_toArray, List.set_cons_zero, List.set_cons_succ]
  refine wpAnyH_ready (rs := [10]) (by kernel_rfl) (by simp) ?_
  refine AllReadyH.cons rfl (fun K hK => ?_) AllReadyH.nil
  go_simp
  with_reducible refine (HNx.out _ (HP.out.on (below_aside (HB0.out.trans (HB1.out.mono HB0.out.size)) g)).here).mono ?_
  rintro e w2 ⟨rfl, hb2⟩
  have HB2 : Hid (Below w0.heap.size w0 w2) := HB1.out.trans (hb2.mono HB1.out.size)
  clear hb2
  go_wp2_with fail
  refine hK.out _ _ (HHd.out _ HB2.out) (fun hHeld2 => ?_)
  clear hK K
  try simp only [Act.put, List.setIfInBounds_toArray, List.set_cons_zero, List.set_cons_succ]
  refine wpAnyH_ready (rs := [11]) (by kernel_rfl) (by simp) ?_
  refine AllReadyH.cons rfl (fun K hK => ?_) AllReadyH.nil
  go_simp
  refine hK.out _ _ (HHd.out _ HB2.out) (fun hHeld3 => ?_)
  clear hK K
  try simp only [Act.put, List.setIfInBounds_toArray, List.set_cons_zero, List.set_cons_succ]
  refine wpAnyH_done (by kernel_rfl) ?_ _
  clear hHeld hHeld1 hHeld2 hHeld3
  have HO2 : Hid (ShOf w2 g S (.slice va S.log.revs.length vc) xs) := HO0.out.below HB2.out
  have HX2 : Hid (RBox w2 h r a c) := HX0.out.below HB2.out
  have HBw : Hid (Below w.heap.size w w2) := HB0.out.trans (HB2.out.mono HB0.out.size)
  have HP2 : Hid (PartsFar w2 g a r.d) := HP.out.on (below_aside HBw.out g)
  by_cases hq0 : q = 0
  · subst hq0
    have hE0 : addE S r = 0 := HQ.out
    obtain ⟨n1, n2, n3, n4, n5, n6⟩ := next_zero hE0
    obtain ⟨⟨o1, o2, o3, o4⟩, hsz0⟩ := one_zero n1
    have HOne : Hid (oneE r = 0) := n1
    have HNF : Hid (S.log.revs.length < 64 ∧ (S.log.base : Int) + S.log.revs.length < 2147483647) := ⟨n3, n4⟩
    obtain ⟨k, hk⟩ : ∃ k : Nat, r.who = (k : Int) := ⟨r.who.toNat, by omega⟩
    have HK : Hid (r.who = (k : Int) ∧ k ≤ 7) := ⟨hk, by omega⟩
    have HRv : Hid (∀ w, PartsAt w w.heap.size a r.d → Calls Try.prog 57 #[.agg #[.int .i64 r.who, .int .i64 r.seq, .slice a r.d.length c]] w fun e w' => e = .returned (.tuple #[.string (frB r), .int .i64 0]) ∧ Below w.heap.size w w') := by
      intro w hp
      have h := HRev_any r a c w hp
      obtain ⟨e1, e2⟩ := revFrame_ok n1
      rw [e1, e2] at h
      exact h
    have hgh : g < h := by rw [← HH.out]; exact HO.out.1.lt
    clear hE0 n1 n2 n3 n4 n5 n6 o1 o2 o3 o4 hsz0 hk
    obtain ⟨F, hF⟩ : ∃ F, frB r = F := ⟨_, rfl⟩
    have HFr : Hid (frB r = F ∧ F.size ≤ 4007) := ⟨hF, by rw [← hF]; exact frB_len HOne.out⟩
    rw [hF] at HRv
    clear hF
    obtain ⟨x0, x1, x2, x3⟩ := HX2.out
    go_wp2_with fail
    with_reducible refine (HRv.out _ HP2.out.here).mono ?_
    rintro e w3 ⟨rfl, hb3⟩
    have HO3 : Hid (ShOf w3 g S (.slice va S.log.revs.length vc) xs) := HO2.out.below hb3
    have HX3 : Hid (RBox w3 h r a c) := HX2.out.below hb3
    have HA3 : Hid (Aside g w w3) := (below_aside HBw.out g).next hb3
    clear x0 x1 x2 x3 hb3 HO2 HX2 HP2 HO0
    obtain ⟨_, _, _, c44, c45, c46⟩ := HO3.out.cells
    have hgl := HO3.out.1.lt
    have HTw : Hid _ := fun w => Twofold_any (S.stage : Nat) (S.floor : Nat) (S.said : Nat) w
    rw [twoB_is] at HTw
    obtain ⟨tw, htw⟩ : ∃ tw, twoB S = tw := ⟨_, rfl⟩
    have HTE : Hid (twoB S = tw) := htw
    rw [htw] at HTw
    clear htw
    go_wp2_with fail
    with_reducible refine (HTw.out _).mono ?_
    rintro e w4 ⟨rfl, hb4⟩
    have HO4 : Hid (ShOf w4 g S (.slice va S.log.revs.length vc) xs) := HO3.out.below hb4
    have HX4 : Hid (RBox w4 h r a c) := HX3.out.below hb4
    have HA4 : Hid (Aside g w w4) := HA3.out.next hb4
    clear c44 c45 c46 hgl hb4 HO3 HX3 HA3
    go_upto_if 32 with fail
    go_cut [] (fun wc => ShOf wc g (S.disk S.c S.x (if tw then S.o ++ F else S.o) S.y) (.slice va S.log.revs.length vc) xs ∧ RBox wc h r a c ∧ Aside g w wc)
    case first =>
      cases tw with
      | false =>
        go_wp2_with fail
        go_meet
        case rel => exact ⟨HO4.out, HX4.out, HA4.out⟩
      | true =>
        obtain ⟨⟨_, _, _, _, c4⟩, _⟩ := HO4.out.cells
        have hgl := HO4.out.1.lt
        have HSy : Hid _ := fun w h => ShSay_oth2 S F g w (v := .slice va S.log.revs.length vc) (xs := xs) h HOK.out.1.dk (by have := HOK.out.2.2.1; have := HFr.out.2; omega)
        have hcur := HOK.out.1.dk.cur
        obtain ⟨m, hm⟩ : ∃ m : Int, 1 - (S.cur : Int) = m := ⟨_, rfl⟩
        have hwm : IntKind.i64.wrap (1 - (S.cur : Int)) = m := by rw [IntWalk.i64_in _ ⟨by omega, by omega⟩, hm]
        rw [hm] at HSy
        have HI4 : Hid (ShOf w4 g S (.slice va S.log.revs.length vc) xs) := HO4.out
        clear hm hcur
        go_wp2_with fail
        with_reducible refine (HSy.out _ HI4.out).mono ?_
        rintro e w5 ⟨rfl, hs5, ha5⟩
        have HI5 : Hid (ShOf w5 g (S.disk S.c S.x (S.o ++ F) S.y) (.slice va S.log.revs.length vc) xs) := hs5
        have HX5 : Hid (RBox w5 h r a c) := HX4.out.aside ha5 (by omega)
        have HA5 : Hid (Aside g w w5) := HA4.out.trans ha5
        clear c4 hgl hs5 ha5
        go_wp2_with fail
        go_meet
        case rel => exact ⟨HI5.out, HX5.out, HA5.out⟩
    case rest =>
      obtain ⟨hs5, hx5, ha5⟩ := hcut
      have HT1 : Hid ((if tw then S.o ++ F else S.o) = (addT S r).o) := by
        show _ = _
        rw [addT, HQ.out, if_pos rfl]
        show _ = if twoB S then S.o ++ frB r else S.o
        rw [HTE.out, HFr.out.1]
      have hso : slE (if tw then S.o ++ F else S.o) S.y = 0 := by
        cases tw with
        | false => exact HOK.out.1.dk.two
        | true => exact sl_more HOK.out.1.dk.two (by have := HOK.out.2.2.1; have := HFr.out.2; omega)
      obtain ⟨o1, ho1⟩ : ∃ o1, (if tw then S.o ++ F else S.o) = o1 := ⟨_, rfl⟩
      rw [ho1] at HT1 hs5 hso
      have HDk : Hid (DkOk (S.disk S.c S.x o1 S.y)) := ⟨HOK.out.1.dk.cur, HOK.out.1.dk.one, hso⟩
      have HSy : Hid _ := fun w h => ShSay_cur2 (S.disk S.c S.x o1 S.y) F g w (v := .slice va S.log.revs.length vc) (xs := xs) h HDk.out (by show S.c.size + F.size ≤ _; have := HOK.out.2.1; have := HFr.out.2; omega)
      have hof5 := hs5
      have HI5 : Hid (ShOf wc g (S.disk S.c S.x o1 S.y) (.slice va S.log.revs.length vc) xs) := hof5
      obtain ⟨⟨_, _, _, _, c4⟩, _⟩ := hof5.cells
      have c4b : wc.cell? ⟨g, 4, none⟩ = some (.int .i64 S.cur) := c4
      clear c4
      have hgl := hof5.1.lt
      have HX5 : Hid (RBox wc h r a c) := hx5
      have HA5 : Hid (Aside g w wc) := ha5
      have HSy : Hid (∀ w, ShOf w g (S.disk S.c S.x o1 S.y) (.slice va S.log.revs.length vc) xs → Calls Try.prog 59 #[.pointer (some ⟨g, 0, none⟩), .int .i64 (S.cur : Nat), .string F] w fun e w' => e = .returned (.tuple #[]) ∧ ShOf w' g (S.disk (S.c ++ F) S.x o1 S.y) (.slice va S.log.revs.length vc) xs ∧ Aside g w w') := HSy.out
      clear hof5 hx5 ha5 hso ho1
      go_wp2_with fail
      with_reducible refine (HSy.out _ HI5.out).mono ?_
      rintro e w6 ⟨rfl, hs6, ha6⟩
      obtain ⟨v6, hv6e⟩ : ∃ v6, Value.slice va S.log.revs.length vc = v6 := ⟨_, rfl⟩
      have hof6 := hs6
      rw [hv6e] at hof6
      obtain ⟨la, lc, hv6, hlc, hrv6⟩ := hof6.revsAt HF.out.2.2.1
      have hxl6 : xs.length = S.log.revs.length := by
        have e := congrArg List.length hof6.2.2.1
        rw [List.length_map] at e
        exact e
      have HO6 : Hid (ShOf w6 g (S.disk (S.c ++ F) S.x o1 S.y) v6 xs) := hof6
      have HX6 : Hid (RBox w6 h r a c) := HX5.out.aside ha6 (by omega)
      have HA6 : Hid (Aside g w w6) := HA5.out.trans ha6
      have HP6 : Hid (PartsFar w6 g a r.d) := HP.out.on HA6.out
      have hv6' : v6 = .slice la S.log.revs.length lc := hv6
      clear c4b hgl hof6 ha6 hrv6 hv6 hv6e hs6
      subst hv6'
      have HXL : Hid (xs.length = S.log.revs.length ∧ S.log.revs.length ≤ lc) := ⟨hxl6, hlc⟩
      clear hxl6 hlc
      obtain ⟨n, hn⟩ : ∃ n, S.log.revs.length = n := ⟨_, rfl⟩
      have HN : Hid (S.log.revs.length = n) := hn
      rw [hn] at HO6 HXL
      have hn64 : n ≤ 63 := by have := HNF.out.1; omega
      go_upto_region 8 with fail
      go_cut [] (fun wx => (∃ v' xs', ShOf wx g (appS S (S.c ++ F) o1 r) v' xs' ∧ ∀ k, k < w.heap.size → Spare k xs → Spare k xs') ∧ RBox wx h r a c ∧ Aside g w wx)
      case first =>
        have HBx : Hid (∀ w', Below w6.heap.size w6 w' → w'.cell? ⟨h, 0, none⟩ = some (.int .i64 r.who) ∧ w'.cell? ⟨h, 1, none⟩ = some (.int .i64 r.seq) ∧ w'.cell? ⟨h, 2, none⟩ = some (.slice a r.d.length c)) := by
          intro w' hb
          obtain ⟨x0, x1, x2, _⟩ := HX6.out.below hb
          exact ⟨x0, x1, x2⟩
        have c40 : w6.cell? ⟨g, 40, none⟩ = some (.slice la n lc) := HO6.out.cells.2.1.2.2.2
        have HClip : Hid _ := fun w => Clip_any la n lc (by have := HXL.out; omega) (by omega) w
        have hones := one_bound HOne.out
        have HCp : Hid _ := fun w hp => ShCopied_any r a c w hp (by have := (sizes_zero (one_zero HOne.out).2).1.1; omega) (fun p hpm => (part_small HOne.out p hpm))
        clear hones
        have hgl := HO6.out.1.lt
        refine wp_region_held_drew (S := fun w' => w'.cell? ⟨h, 0, none⟩ = some (.int .i64 r.who) ∧ w'.cell? ⟨h, 1, none⟩ = some (.int .i64 r.seq) ∧ w'.cell? ⟨h, 2, none⟩ = some (.slice a r.d.length c)) (by kernel_rfl) (HBx.out _ (Below.refl _ w6).drew) (fun hHeld => ?_)
        refine wpAnyH_take (i := 0) (v := .pointer (some ⟨g, 0, none⟩)) rfl (by kernel_rfl) (by kernel_rfl) (by kernel_rfl) (fun _ _ _ h => h) (Or.inl ⟨by kernel_rfl, fun w' hSw => by obtain ⟨s0, s1, s2⟩ := hSw; first | (go_simp; done) | (go_simp; rfl)⟩) hHeld ?_
        simp only [Act.put, List.setIfInBounds_toArray, List.set_cons_zero, List.set_cons_succ]
        refine wpAnyH_take (i := 1) (v := .pointer (some ⟨g, 0, none⟩)) rfl (by kernel_rfl) (by kernel_rfl) (by kernel_rfl) (fun _ _ _ h => h) (Or.inl ⟨by kernel_rfl, fun w' hSw => by obtain ⟨s0, s1, s2⟩ := hSw; first | (go_simp; done) | (go_simp; rfl)⟩) hHeld ?_
        simp only [Act.put, List.setIfInBounds_toArray, List.set_cons_zero, List.set_cons_succ]
        refine wpAnyH_take (i := 2) (v := .pointer (some ⟨g, 0, none⟩)) rfl (by kernel_rfl) (by kernel_rfl) (by kernel_rfl) (fun _ _ _ h => h) (Or.inl ⟨by kernel_rfl, fun w' hSw => by obtain ⟨s0, s1, s2⟩ := hSw; first | (go_simp; done) | (go_simp; rfl)⟩) hHeld ?_
        simp only [Act.put, List.setIfInBounds_toArray, List.set_cons_zero, List.set_cons_succ]
        refine wpAnyH_take (i := 3) (v := .pointer (some ⟨g, 5, none⟩)) rfl (by kernel_rfl) (by kernel_rfl) (by kernel_rfl) (fun _ _ _ h => h) (Or.inl ⟨by kernel_rfl, fun w' hSw => by obtain ⟨s0, s1, s2⟩ := hSw; first | (go_simp; done) | (go_simp; rfl)⟩) hHeld ?_
        simp only [Act.put, List.setIfInBounds_toArray, List.set_cons_zero, List.set_cons_succ]
        refine wpAnyH_take (i := 4) (v := .pointer (some ⟨g, 40, none⟩)) rfl (by kernel_rfl) (by kernel_rfl) (by kernel_rfl) (fun _ _ _ h => h) (Or.inl ⟨by kernel_rfl, fun w' hSw => by obtain ⟨s0, s1, s2⟩ := hSw; first | (go_simp; done) | (go_simp; rfl)⟩) hHeld ?_
        simp only [Act.put, List.setIfInBounds_toArray, List.set_cons_zero, List.set_cons_succ]
        refine wpAnyH_take (i := 7) (v := .agg #[.int .i64 r.who, .int .i64 r.seq, .slice a r.d.length c]) rfl (by kernel_rfl) (by kernel_rfl) (by kernel_rfl) (fun _ _ _ h => h) (Or.inl ⟨by kernel_rfl, fun w' hSw => by obtain ⟨s0, s1, s2⟩ := hSw; first | (go_simp; done) | (go_simp; rfl)⟩) hHeld ?_
        simp only [Act.put, List.setIfInBounds_toArray, List.set_cons_zero, List.set_cons_succ]
        refine wpAnyH_ready (rs := [5]) (by kernel_rfl) (by simp) ?_
        refine AllReadyH.cons rfl (fun K hK => ?_) AllReadyH.nil
        go_simp
        refine hK.out _ _ (HBx.out _ (Below.refl _ w6).drew) (fun hHeld5 => ?_)
        clear hK K
        try simp only [Act.put, List.setIfInBounds_toArray, List.set_cons_zero, List.set_cons_succ]
        refine wpAnyH_ready (rs := [6]) (by kernel_rfl) (by simp) ?_
        refine AllReadyH.cons rfl (fun K hK => ?_) AllReadyH.nil
        go_simp
        with_reducible refine (HClip.out _).mono ?_
        rintro e w7 ⟨rfl, rfl⟩
        go_wp2_with fail
        refine hK.out _ _ (HBx.out _ (Below.refl _ w6).drew) (fun hHeld6 => ?_)
        clear hK K
        try simp only [Act.put, List.setIfInBounds_toArray, List.set_cons_zero, List.set_cons_succ]
        refine wpAnyH_ready (rs := [8]) (by kernel_rfl) (by simp) ?_
        refine AllReadyH.cons rfl (fun K hK => ?_) AllReadyH.nil
        go_simp
        with_reducible refine (HCp.out _ (HP6.out.on (Aside.refl g w6).drew).here).mono ?_
        rintro e w8 ⟨gd, rfl, hown8, hb8⟩
        have HB8 : Hid (Below w6.heap.size w6 w8) := ((Below.refl w6.heap.size w6).drew).trans hb8
        have HW8 : Hid (w8.ownsRow 0 138 3 (.slice (some ⟨gd, 0, none⟩) r.d.length r.d.length) r.d.length (allCells r.d)) := rz_base hown8 (Nat.zero_le _)
        have hgd6 : w6.heap.size ≤ gd := row_base hown8
        have HGd : Hid (w.heap.size ≤ gd) := Nat.le_trans HA6.out.size hgd6
        clear hown8 hb8 hgd6
        go_wp2_with fail
        refine hK.out _ _ (HBx.out _ HB8.out) (fun hHeld8 => ?_)
        clear hK K
        try simp only [Act.put, List.setIfInBounds_toArray, List.set_cons_zero, List.set_cons_succ]
        have hbx : Below w8.heap.size w8 (w8.alloc (.cells #[.int .i64 r.who, .int .i64 r.seq, .slice (some ⟨gd, 0, none⟩) r.d.length r.d.length] 40)) := (Below.refl _ w8).alloc (Nat.le_refl _) _
        have HB9 : Hid (Below w6.heap.size w6 (w8.alloc (.cells #[.int .i64 r.who, .int .i64 r.seq, .slice (some ⟨gd, 0, none⟩) r.d.length r.d.length] 40))) := HB8.out.trans (hbx.mono HB8.out.size)
        have HW9 : Hid ((w8.alloc (.cells #[.int .i64 r.who, .int .i64 r.seq, .slice (some ⟨gd, 0, none⟩) r.d.length r.d.length] 40)).ownsRow 0 138 3 (.slice (some ⟨gd, 0, none⟩) r.d.length r.d.length) r.d.length (allCells r.d)) := own_stay HW8.out hbx
        have HN9 : Hid ((w8.alloc (.cells #[.int .i64 r.who, .int .i64 r.seq, .slice (some ⟨gd, 0, none⟩) r.d.length r.d.length] 40)).heap[w8.heap.size]? = some (.cells #[.int .i64 r.who, .int .i64 r.seq, .slice (some ⟨gd, 0, none⟩) r.d.length r.d.length] 40 (0, 0))) := heap_alloc_new w8 _
        clear hbx
        refine wpAnyH_ready (rs := [9]) (by kernel_rfl) (by simp) ?_
        refine AllReadyH.cons rfl (fun K hK => ?_) AllReadyH.nil
        go_simp
        refine hK.out _ _ (HBx.out _ HB9.out) (fun hHeld9 => ?_)
        clear hK K
        try simp only [Act.put, List.setIfInBounds_toArray, List.set_cons_zero, List.set_cons_succ]
        generalize w8.alloc (.cells #[.int .i64 r.who, .int .i64 r.seq, .slice (some ⟨gd, 0, none⟩) r.d.length r.d.length] 40) = w9 at HB9 HW9 HN9 hHeld9 ⊢
        have HO9 : Hid (ShOf w9 g (S.disk (S.c ++ F) S.x o1 S.y) (.slice la n lc) xs) := HO6.out.below HB9.out
        refine wpAnyH_ready (rs := [10]) (by kernel_rfl) (by simp) ?_
        refine AllReadyH.cons rfl (fun K hK => ?_) AllReadyH.nil
        refine wp_more _ _ rfl rfl (n := n) (c := lc) (la := la) (cs := rvAll xs) (by rfl) (by rfl) (HXL.out.1 ▸ HO9.out.2.1.2) HN9.out (by omega) ?_
        intro cap w10 hown10 hb10
        have HO10 : Hid (ShOf w10 g (S.disk (S.c ++ F) S.x o1 S.y) (.slice la n lc) xs) := HO9.out.below hb10
        have HB10 : Hid (Below w6.heap.size w6 w10) := HB9.out.trans (hb10.mono HB9.out.size)
        have HFin : Hid _ := HO9.out.more (r := r) (la := some ⟨gd, 0, none⟩) (lc := r.d.length) hb10 HOne.out (own_stay HW9.out hb10) (HXL.out.1.symm ▸ hown10)
        rw [HXL.out.1] at HFin
        clear hown10 hb10
        refine hK.out _ _ (HBx.out _ HB10.out) (fun hHeld10 => ?_)
        clear hK K
        try simp only [Act.put, List.setIfInBounds_toArray, List.set_cons_zero, List.set_cons_succ]
        refine wpAnyH_take (i := 11) (v := .pointer (some ⟨g, 0, none⟩)) rfl (by kernel_rfl) (by kernel_rfl) (by kernel_rfl) (fun _ _ _ h => h) (Or.inl ⟨by kernel_rfl, fun w' hSw => by obtain ⟨s0, s1, s2⟩ := hSw; first | (go_simp; done) | (go_simp; rfl)⟩) hHeld10 ?_
        try simp only [Act.put, List.setIfInBounds_toArray, List.set_cons_zero, List.set_cons_succ]
        refine wpAnyH_take (i := 12) (v := .pointer (some ⟨g, 5, none⟩)) rfl (by kernel_rfl) (by kernel_rfl) (by kernel_rfl) (fun _ _ _ h => h) (Or.inl ⟨by kernel_rfl, fun w' hSw => by obtain ⟨s0, s1, s2⟩ := hSw; first | (go_simp; done) | (go_simp; rfl)⟩) hHeld10 ?_
        try simp only [Act.put, List.setIfInBounds_toArray, List.set_cons_zero, List.set_cons_succ]
        refine wpAnyH_take (i := 13) (v := .pointer (some ⟨g, 40, none⟩)) rfl (by kernel_rfl) (by kernel_rfl) (by kernel_rfl) (fun _ _ _ h => h) (Or.inl ⟨by kernel_rfl, fun w' hSw => by obtain ⟨s0, s1, s2⟩ := hSw; first | (go_simp; done) | (go_simp; rfl)⟩) hHeld10 ?_
        try simp only [Act.put, List.setIfInBounds_toArray, List.set_cons_zero, List.set_cons_succ]
        have d40 : w10.cell? ⟨g, 40, none⟩ = some (.slice la n lc) := HO10.out.cells.2.1.2.2.2
        have f40 := HO10.out.1.free 40
        refine wpAnyH_ready (rs := [14]) (by kernel_rfl) (by simp) ?_
        refine AllReadyH.cons rfl (fun K hK => ?_) AllReadyH.nil
        go_simp
        have HA11 : Hid (Aside g w6 (w10.setCell ⟨g, 40, none⟩ (.slice (some ⟨w9.heap.size, 0, none⟩) (n + 1) cap))) := (below_aside HB10.out g).put 40 _
        have HX11 : Hid (RBox (w10.setCell ⟨g, 40, none⟩ (.slice (some ⟨w9.heap.size, 0, none⟩) (n + 1) cap)) h r a c) := HX6.out.aside HA11.out (by omega)
        refine hK.out _ _ ⟨HX11.out.1, HX11.out.2.1, HX11.out.2.2.1⟩ (fun hHeld14 => ?_)
        clear hK K
        try simp only [Act.put, List.setIfInBounds_toArray, List.set_cons_zero, List.set_cons_succ]
        refine wpAnyH_done (by kernel_rfl) ?_ _
        go_wp2_with fail
        go_meet
        case rel => exact ⟨⟨_, _, HFin.out.1, fun k hk hs => spare_snoc hs (by have := HGd.out; omega)⟩, HX11.out, HA6.out.trans HA11.out⟩
      case rest =>
        rename World => wd
        obtain ⟨⟨v7, xs7, hof7, hsp⟩, hx7, ha7⟩ := hcut
        have HSp : Hid (∀ k, k < w.heap.size → Spare k xs → Spare k xs7) := hsp
        clear hsp
        have HO7 : Hid (ShOf wd g (appS S (S.c ++ F) o1 r) v7 xs7) := hof7
        have HI7 : Hid (ShIs wd g (appS S (S.c ++ F) o1 r)) := ⟨_, _, hof7⟩
        have HX7 : Hid (RBox wd h r a c) := hx7
        have HA7 : Hid (Aside g w wd) := ha7
        obtain ⟨k, hk, hk7⟩ : ∃ k : Nat, r.who = (k : Int) ∧ k ≤ 7 := ⟨k, HK.out.1, HK.out.2⟩
        have hl7 : (appS S (S.c ++ F) o1 r).log.revs.length = n + 1 := by
          show (S.log.revs ++ [r]).length = _
          rw [List.length_append, List.length_singleton, HN.out]
        obtain ⟨m, hm⟩ : ∃ m : Nat, headN (appS S (S.c ++ F) o1 r) = m := ⟨_, rfl⟩
        have HM : Hid (m = S.log.base + (n + 1) ∧ m ≤ 2147483647) := by
          have e : headN (appS S (S.c ++ F) o1 r) = S.log.base + (appS S (S.c ++ F) o1 r).log.revs.length := rfl
          have := HNF.out
          have := HN.out
          rw [hl7, hm] at e
          exact ⟨e, by omega⟩
        have HHd7 : Hid _ := fun w h => ShHead_any (appS S (S.c ++ F) o1 r) g w h (by rw [hl7]; omega) (by rw [hm]; exact HM.out.2)
        rw [hm] at HHd7
        have HBx : Hid (∀ w', Below wd.heap.size wd w' → w'.cell? ⟨h, 0, none⟩ = some (.int .i64 (k : Int)) ∧ w'.cell? ⟨h, 1, none⟩ = some (.int .i64 r.seq) ∧ w'.cell? ⟨h, 2, none⟩ = some (.slice a r.d.length c)) := by
          intro w' hb
          obtain ⟨x0, x1, x2, _⟩ := HX7.out.below hb
          rw [hk] at x0
          exact ⟨x0, x1, x2⟩
        have HK7 : Hid (r.who = (k : Int) ∧ k ≤ 7) := ⟨hk, hk7⟩
        have hT7 : S.log.table.length = 16 := HF.out.2.1
        have HTB : Hid (∃ y1 y2, S.log.table[k * 2]? = some y1 ∧ S.log.table[k * 2 + 1]? = some y2) := ⟨_, _, List.getElem?_eq_getElem (by omega), List.getElem?_eq_getElem (by omega)⟩
        have g1 : (0 : Int) ≤ (k : Int) := by omega
        have g2 : (k : Int) < 8 := by omega
        clear hof7 hx7 ha7 hl7 hm hk hk7 hT7
        go_upto_region 9 with fail
        refine wp_region_held_drew (S := fun w' => w'.cell? ⟨h, 0, none⟩ = some (.int .i64 (k : Int)) ∧ w'.cell? ⟨h, 1, none⟩ = some (.int .i64 r.seq) ∧ w'.cell? ⟨h, 2, none⟩ = some (.slice a r.d.length c)) (by kernel_rfl) (HBx.out _ (Below.refl _ wd).drew) (fun hHeld => ?_)
        refine wpAnyH_take (i := 0) (v := .pointer (some ⟨g, 0, none⟩)) rfl (by kernel_rfl) (by kernel_rfl) (by kernel_rfl) (fun _ _ _ h => h) (Or.inl ⟨by kernel_rfl, fun w' hSw => by obtain ⟨s0, s1, s2⟩ := hSw; first | (go_simp; done) | (go_simp; rfl)⟩) hHeld ?_
        simp only [Act.put, List.setIfInBounds_toArray, List.set_cons_zero, List.set_cons_succ]
        refine wpAnyH_take (i := 1) (v := .pointer (some ⟨h, 0, none⟩)) rfl (by kernel_rfl) (by kernel_rfl) (by kernel_rfl) (fun _ _ _ h => h) (Or.inl ⟨by kernel_rfl, fun w' hSw => by obtain ⟨s0, s1, s2⟩ := hSw; first | (go_simp; done) | (go_simp; rfl)⟩) hHeld ?_
        simp only [Act.put, List.setIfInBounds_toArray, List.set_cons_zero, List.set_cons_succ]
        refine wpAnyH_take (i := 2) (v := .int .i64 (k : Int)) rfl (by kernel_rfl) (by kernel_rfl) (by kernel_rfl) (fun _ _ _ h => h) (Or.inl ⟨by kernel_rfl, fun w' hSw => by obtain ⟨s0, s1, s2⟩ := hSw; first | (go_simp; done) | (go_simp; rfl)⟩) hHeld ?_
        simp only [Act.put, List.setIfInBounds_toArray, List.set_cons_zero, List.set_cons_succ]
        refine wpAnyH_take (i := 3) (v := .pointer (some ⟨h, 1, none⟩)) rfl (by kernel_rfl) (by kernel_rfl) (by kernel_rfl) (fun _ _ _ h => h) (Or.inl ⟨by kernel_rfl, fun w' hSw => by obtain ⟨s0, s1, s2⟩ := hSw; first | (go_simp; done) | (go_simp; rfl)⟩) hHeld ?_
        simp only [Act.put, List.setIfInBounds_toArray, List.set_cons_zero, List.set_cons_succ]
        refine wpAnyH_take (i := 4) (v := .int .i64 r.seq) rfl (by kernel_rfl) (by kernel_rfl) (by kernel_rfl) (fun _ _ _ h => h) (Or.inl ⟨by kernel_rfl, fun w' hSw => by obtain ⟨s0, s1, s2⟩ := hSw; first | (go_simp; done) | (go_simp; rfl)⟩) hHeld ?_
        simp only [Act.put, List.setIfInBounds_toArray, List.set_cons_zero, List.set_cons_succ]
        refine wpAnyH_take (i := 5) (v := .pointer (some ⟨g, 0, none⟩)) rfl (by kernel_rfl) (by kernel_rfl) (by kernel_rfl) (fun _ _ _ h => h) (Or.inl ⟨by kernel_rfl, fun w' hSw => by obtain ⟨s0, s1, s2⟩ := hSw; first | (go_simp; done) | (go_simp; rfl)⟩) hHeld ?_
        simp only [Act.put, List.setIfInBounds_toArray, List.set_cons_zero, List.set_cons_succ]
        refine wpAnyH_take (i := 8) (v := .pointer (some ⟨g, 0, none⟩)) rfl (by kernel_rfl) (by kernel_rfl) (by kernel_rfl) (fun _ _ _ h => h) (Or.inl ⟨by kernel_rfl, fun w' hSw => by obtain ⟨s0, s1, s2⟩ := hSw; first | (go_simp; done) | (go_simp; rfl)⟩) hHeld ?_
        simp only [Act.put, List.setIfInBounds_toArray, List.set_cons_zero, List.set_cons_succ]
        refine wpAnyH_take (i := 9) (v := .pointer (some ⟨g, 5, none⟩)) rfl (by kernel_rfl) (by kernel_rfl) (by kernel_rfl) (fun _ _ _ h => h) (Or.inl ⟨by kernel_rfl, fun w' hSw => by obtain ⟨s0, s1, s2⟩ := hSw; first | (go_simp; done) | (go_simp; rfl)⟩) hHeld ?_
        simp only [Act.put, List.setIfInBounds_toArray, List.set_cons_zero, List.set_cons_succ]
        refine wpAnyH_take (i := 10) (v := .pointer (some ⟨g, 24, none⟩)) rfl (by kernel_rfl) (by kernel_rfl) (by kernel_rfl) (fun _ _ _ h => h) (Or.inl ⟨by kernel_rfl, fun w' hSw => by obtain ⟨s0, s1, s2⟩ := hSw; first | (go_simp; done) | (go_simp; rfl)⟩) hHeld ?_
        simp only [Act.put, List.setIfInBounds_toArray, List.set_cons_zero, List.set_cons_succ]
        refine wpAnyH_ready (rs := [6]) (by kernel_rfl) (by simp) ?_
        refine AllReadyH.cons rfl (fun K hK => ?_) AllReadyH.nil
        go_simp
        with_reducible refine (HHd7.out _ HI7.out.drew).mono ?_
        rintro e w8 ⟨rfl, hb8⟩
        have HB8 : Hid (Below wd.heap.size wd w8) := ((Below.refl wd.heap.size wd).drew).trans hb8
        clear hb8
        go_wp2_with fail
        refine hK.out _ _ (HBx.out _ HB8.out) (fun hHeld6 => ?_)
        clear hK K
        try simp only [Act.put, List.setIfInBounds_toArray, List.set_cons_zero, List.set_cons_succ]
        refine wpAnyH_take (i := 7) (v := .agg #[.int .i64 r.seq, .int .i64 (m : Nat)]) rfl (by kernel_rfl) (by kernel_rfl) (by kernel_rfl) (fun _ _ _ h => h) (Or.inl ⟨by kernel_rfl, fun w' hSw => by obtain ⟨s0, s1, s2⟩ := hSw; first | (go_simp; done) | (go_simp; rfl)⟩) hHeld6 ?_
        try simp only [Act.put, List.setIfInBounds_toArray, List.set_cons_zero, List.set_cons_succ]
        refine wpAnyH_take (i := 11) (v := .pointer (some ⟨g, 24 + k * 2, none⟩)) rfl (by kernel_rfl) (by kernel_rfl) (by kernel_rfl) (fun _ _ _ h => h) (Or.inl ⟨by kernel_rfl, fun w' hSw => by obtain ⟨s0, s1, s2⟩ := hSw; first | (go_simp; done) | (go_simp; rfl)⟩) hHeld6 ?_
        try simp only [Act.put, List.setIfInBounds_toArray, List.set_cons_zero, List.set_cons_succ]
        have HO8 : Hid (ShOf w8 g (appS S (S.c ++ F) o1 r) v7 xs7) := HO7.out.below HB8.out
        obtain ⟨y1, y2, hy1, hy2⟩ := HTB.out
        have t1 := HO8.out.table (k := k * 2) hy1
        have t2 := HO8.out.table (k := k * 2 + 1) hy2
        rw [show 24 + (k * 2 + 1) = 24 + k * 2 + 1 by omega] at t2
        have f1 := HO8.out.1.free (24 + k * 2)
        have f2 := HO8.out.1.free (24 + k * 2 + 1)
        have HFin : Hid _ := HO8.out.tabbed (m := (m : Int)) HK7.out.1 HK7.out.2
        clear hy1 hy2
        refine wpAnyH_ready (rs := [12]) (by kernel_rfl) (by simp) ?_
        refine AllReadyH.cons rfl (fun K hK => ?_) AllReadyH.nil
        go_simp
        have HX9 : Hid (RBox ((w8.setCell ⟨g, 24 + k * 2, none⟩ (.int .i64 r.seq)).setCell ⟨g, 24 + k * 2 + 1, none⟩ (.int .i64 (m : Int))) h r a c) := (HX7.out.below HB8.out).aside HFin.out.2 (by omega)
        have HE : Hid (ShOf ((w8.setCell ⟨g, 24 + k * 2, none⟩ (.int .i64 r.seq)).setCell ⟨g, 24 + k * 2 + 1, none⟩ (.int .i64 (m : Int))) g (addT S r) v7 xs7 ∧ Aside g w ((w8.setCell ⟨g, 24 + k * 2, none⟩ (.int .i64 r.seq)).setCell ⟨g, 24 + k * 2 + 1, none⟩ (.int .i64 (m : Int))) ∧ addN S r = (m : Int) ∧ headN (addT S r) = m) := by
          have e : addT S r = addS S r := by rw [addT, HQ.out, if_pos rfl]
          have e2 : (m : Int) = S.log.base + (S.log.revs.length + 1) := by have := HM.out.1; have := HN.out; omega
          have e3 : addS S r = { appS S (S.c ++ F) o1 r with log := { (appS S (S.c ++ F) o1 r).log with table := tabPut (appS S (S.c ++ F) o1 r).log.table r.who r.seq m } } := by
            have ho : (addS S r).o = o1 := by rw [← e]; exact HT1.out.symm
            have hc : (addS S r).c = S.c ++ F := by show S.c ++ frB r = _; rw [HFr.out.1]
            show addS S r = { c := S.c ++ F, x := S.x, o := o1, y := S.y, cur := S.cur, log := { S.log with table := tabPut S.log.table r.who r.seq m, revs := S.log.revs ++ [r] }, safe := S.safe, stage := S.stage, floor := S.floor, said := S.said : Sh }
            rw [e2, ← ho, ← hc]; rfl
          refine ⟨by rw [e, e3]; exact HFin.out.1, (HA7.out.next HB8.out).trans HFin.out.2, ?_, ?_⟩
          · rw [addN, HQ.out, if_pos rfl]
            show ((S.log.base + S.log.revs.length : Nat) : Int) + 1 = _
            omega
          · rw [e]
            show S.log.base + (S.log.revs ++ [r]).length = m
            rw [List.length_append, List.length_singleton]
            omega
        refine hK.out _ _ (by have x0 := HX9.out.1; rw [HK7.out.1] at x0; exact ⟨x0, HX9.out.2.1, HX9.out.2.2.1⟩) (fun hHeld12 => ?_)
        clear hK K HFin
        try simp only [Act.put, List.setIfInBounds_toArray, List.set_cons_zero, List.set_cons_succ]
        refine wpAnyH_done (by kernel_rfl) ?_ _
        generalize (w8.setCell ⟨g, 24 + k * 2, none⟩ (.int .i64 r.seq)).setCell ⟨g, 24 + k * 2 + 1, none⟩ (.int .i64 (m : Int)) = w9 at HE HX9 ⊢
        have HI9 : Hid (ShIs w9 g (addT S r)) := ⟨_, _, HE.out.1⟩
        have HHd9 : Hid _ := fun w h => ShHead_any (addT S r) g w h (by
          have e := HE.out.1.2.2.1
          have e2 := HO8.out.2.2.1
          have e3 := congrArg List.length e
          have e4 := congrArg List.length e2
          rw [List.length_map] at e3 e4
          rw [← e3, e4]
          show (S.log.revs ++ [r]).length ≤ 64
          rw [List.length_append, List.length_singleton]
          have := HN.out
          omega) (by rw [HE.out.2.2.2]; exact HM.out.2)
        rw [HE.out.2.2.2] at HHd9
        clear t1 t2 f1 f2
        go_wp2_with fail
        with_reducible refine (HHd9.out _ HI9.out).mono ?_
        rintro e w10 ⟨rfl, hb10⟩
        have HB10 : Hid (Below w9.heap.size w9 w10) := hb10
        clear hb10
        go_wp2_with fail
        go_ret2
        exact ⟨by rw [HE.out.2.2.1]; rfl, ⟨_, _, HE.out.1.below HB10.out, HSp.out⟩, HE.out.2.1.next HB10.out⟩
  · have hqb : (q != 0) = true := by simp [hq0]
    have HE : Hid (addN S r = 0 ∧ addT S r = S) := by
      refine ⟨?_, ?_⟩
      · rw [addN, HQ.out, if_neg hq0]
      · rw [addT, HQ.out, if_neg hq0]
    clear hq0
    go_wp2_with fail
    go_ret2
    exact ⟨by rw [HE.out.1]; rfl, by rw [HE.out.2]; exact ⟨_, _, HO2.out, fun k _ h => h⟩, below_aside HBw.out g⟩
theorem ShAdd_any (S : Sh) (r : Rv) (a : Option Addr) (c g : Nat) (w : World) (h : ShIs w g S) (ok : ShOk S) (hp : PartsFar w g a r.d) (hr1 : S.c.size + 4007 ≤ 1048576) (hr2 : S.o.size + 4007 ≤ 1048576) :
    Calls Try.prog 19 #[.pointer (some ⟨g, 0, none⟩), .agg #[.int .i64 r.who, .int .i64 r.seq, .slice a r.d.length c]] w fun e w' => e = .returned (.tuple #[.int .i64 (addN S r), .int .i64 (addE S r)]) ∧ ShIs w' g (addT S r) ∧ Aside g w w' := by
  obtain ⟨v, xs, h⟩ := h
  exact (ShAdd_of S r a c g w h ok hp hr1 hr2).mono fun e w' ⟨h1, ⟨v', xs', h2, _⟩, h3⟩ => ⟨h1, ⟨v', xs', h2⟩, h3⟩
end Go.Proofs.Ytgffippimmokiaa
