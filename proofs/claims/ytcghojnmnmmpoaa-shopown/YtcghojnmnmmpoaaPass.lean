/- What comp's walk answers as it passes a part. -/
import Derived.Test.YtcghojnmnmmpoaaNextE
import Derived.Test.YtcghojnmnmmpoaaNextN
import Derived.Deep.AppendLies
namespace Go.Proofs.Ytcghojnmnmmpoaa
open Go.RowKit
set_option linter.unusedSimpArgs false
set_option linter.unusedVariables false

theorem next_any (B R : Nat) (p : Pt) (r : List Pt) (d : Nat) (a : Option Addr) (c n : Nat) (w : World) (h : WkAt w B R (p :: r) d a c) (hk : p.k = 1 ∨ p.k = 2) (hn0 : 0 ≤ p.n) (hn5 : p.n ≤ 500) (ht5 : p.t.size ≤ 500)
    (h2 : p.k = 2 → p.n = 0) (hd : d < wd p) (hn : 0 < n) (hn6 : n ≤ 500) (q : Nat) (hq : q = min n (wd p - d)) :
    Calls Try.prog 141 #[.pointer (some ⟨R, 0, none⟩), .int .i64 n] w fun e w' =>
      e = .returned (.tuple #[.agg #[.int .i64 (takeP p d q).k, .int .i64 (takeP p d q).n, .string (takeP p d q).t], .int .i64 q]) ∧ ∃ a' c', WkAt w' B R (nextA p r d q) (nextD p d q) a' c' ∧ w.grownBy w' (some R) := by
  by_cases hA : (wd p : Int) - (d : Int) < (n : Int)
  · exact nextA_any B R p r d a c n w h hk hn0 hn5 ht5 h2 hd hn hn6 q hq hA
  · by_cases hdq : d + q = wd p
    · exact nextE_any B R p r d a c n w h hk hn0 hn5 ht5 h2 hd hn hn6 q hq hA hdq
    · exact nextN_any B R p r d a c n w h hk hn0 hn5 ht5 h2 hd hn hn6 q hq hA hdq

theorem or_at {A : Prop} {g h k : Nat} (hat : A ∨ g = h) (e : h = k) : A ∨ g = k := by
  rcases hat with h1 | h1
  · exact .inl h1
  · exact .inr (h1.trans e)
theorem WkAt.grow {w w' : World} {B R d c : Nat} {ah : List Pt} {a : Option Addr} {row : Option Nat} (h : WkAt w B R ah d a c) (hg : w.grownBy w' row) (hr : row ≠ some R) (hb : ∀ k, row = some k → B ≤ k) : WkAt w' B R ah d a c :=
  ⟨h.br, (hg.block R (lt_of_heap h.cell) (Ne.symm hr)).trans h.cell, h.parts.below ((Below.refl B w).grown hg h.parts.2.1 hb) (Nat.le_refl _), h.cap⟩
theorem takeP_k {p : Pt} {d q : Nat} (h : p.k = 1 ∨ p.k = 2) : (takeP p d q).k = p.k := by
  unfold takeP
  rcases h with h | h <;> simp [h]

def aheadLen (w : World) (R : Nat) : Nat := match w.heap[R]? with
  | some (.cells cs _ _) => (match cs[0]? with
    | some (Value.slice _ n _) => n
    | _ => 0)
  | _ => 0
theorem WkAt.len {w : World} {B R d c : Nat} {ah : List Pt} {a : Option Addr} (h : WkAt w B R ah d a c) : aheadLen w R = ah.length := by
  unfold aheadLen; rw [h.cell]; rfl

/-- what the loop of pass has -/
structure LAt (w : World) (B R X : Nat) (l ah : List Pt) (d : Nat) (ao : Option Addr) (ca : Nat) (a : Option Addr) (c : Nat) (box : Obj) : Prop where
  wk : WkAt w B R ah d a c
  own : w.ownsRow B 45 3 (.slice ao l.length ca) l.length (allCells l)
  box : w.heap[X]? = some box
  ne : (Value.slice ao l.length ca).ownBlock ≠ some X
section
variable {w : World} {B R X d ca c : Nat} {l ah : List Pt} {ao a : Option Addr} {box : Obj}
theorem LAt.row (h : LAt w B R X l ah d ao ca a c box) : (Value.slice ao l.length ca).ownBlock ≠ some R := own_ne' h.own h.wk.cell (by decide)
theorem LAt.alloc (h : LAt w B R X l ah d ao ca a c box) (o : Obj) : LAt (w.alloc o) B R X l ah d ao ca a c box :=
  ⟨h.wk.alloc o, own_alloc h.own o, (Deep.blk_alloc_lt _ _ _ (lt_of_heap h.box)).trans h.box, h.ne⟩
/-- behind an append -/
theorem LAt.append {w' : World} {p : Pt} {g cap : Nat} (h : LAt w B R X l ah d ao ca a c box) (hg : w.grownBy w' (Value.slice ao l.length ca).ownBlock)
    (ho : w'.ownsRow B 45 3 (.slice (some ⟨g, 0, none⟩) (l.length + 1) cap) (l.length + 1) (allCells l ++ [.int .i64 p.k, .int .i64 p.n, .string p.t])) (hat : (Value.slice ao l.length ca).ownBlock = some g ∨ g = w.heap.size) :
    LAt w' B R X (l ++ [p]) ah d (some ⟨g, 0, none⟩) cap a c box := by
  have hX := lt_of_heap h.box
  have hl : (l ++ [p]).length = l.length + 1 := by simp
  refine ⟨h.wk.grow hg h.row (fun k hk => (h.own.lt k hk).1), ?_, (hg.block X hX (Ne.symm h.ne)).trans h.box, ?_⟩
  · rw [hl, allCells_append]; exact ho
  · rw [hl]
    show some g ≠ some X
    intro e
    simp only [Option.some.injEq] at e
    subst e
    rcases hat with h1 | h1
    · exact h.ne h1
    · omega
/-- behind a turn of the walk alone -/
theorem LAt.walk {w' : World} {ah' : List Pt} {d' : Nat} {a' : Option Addr} {c' : Nat} (h : LAt w B R X l ah d ao ca a c box) (hXR : X ≠ R) (hg : w.grownBy w' (some R)) (hw : WkAt w' B R ah' d' a' c') : LAt w' B R X l ah' d' ao ca a' c' box :=
  ⟨hw, h.own.kept hg (.inr h.row), (hg.block X (lt_of_heap h.box) (by simpa using hXR)).trans h.box, h.ne⟩
theorem LAt.below {w0 w' : World} (h : LAt w B R X l ah d ao ca a c box) (hb : Below B w0 w) (hg : w.grownBy w' (Value.slice ao l.length ca).ownBlock) : Below B w0 w' :=
  below_own' hb h.own hg h.wk.parts.2.1
theorem LAt.below2 {w0 w' : World} (h : LAt w B R X l ah d ao ca a c box) (hb : Below B w0 w) (hg : w.grownBy w' (some R)) : Below B w0 w' :=
  hb.grown hg h.wk.parts.2.1 (fun k hk => by simp only [Option.some.injEq] at hk; subst hk; exact h.wk.br)
end

set_option maxHeartbeats 8000000 in
theorem pass_any (B R : Nat) (l ah : List Pt) (d : Nat) (ao : Option Addr) (ca : Nat) (a : Option Addr) (c : Nat) (k : Int) (n : Nat) (t : ByteArray) (T : Tok) (w : World)
    (hW : WkAt w B R ah d a c) (hown : w.ownsRow B 45 3 (.slice ao l.length ca) l.length (allCells l)) (hkT : (k = 1 ∧ T = .K) ∨ (k = 3 ∧ T = .X)) (hn5 : n ≤ 500)
    (hRl : Right l) (hRa : Right ah) (hH : HeadOK ah d) (hout : n ≤ outW (restW ah d)) (hlen : l.length + ah.length ≤ 100000) (hsm : ∀ q ∈ ah, 0 ≤ q.n ∧ q.n ≤ 500 ∧ q.t.size ≤ 500) :
    Calls Try.prog 118 #[.pointer (some ⟨R, 0, none⟩), .slice ao l.length ca, .agg #[.int .i64 k, .int .i64 n, .string t]] w fun e w' =>
      ∃ ao' ca' l' ah' d' a' c', e = .returned (.slice ao' (List.length l') ca') ∧ WkAt w' B R ah' d' a' c' ∧ w'.ownsRow B 45 3 (.slice ao' l'.length ca') l'.length (allCells l') ∧ PInv T l ah d n l' ah' d' 0 ∧ Below B w w' := by
  obtain ⟨ip, hip, hp0, hp1, hp2⟩ := info_parts infoPart
  have hR : R < w.heap.size := lt_of_heap hW.cell
  have hBR := hW.br
  have HS : Hid (LAt (w.alloc (.cells #[.int .i64 k, .int .i64 n, .string t] 45)) B R w.heap.size l ah d ao ca a c (.cells #[.int .i64 k, .int .i64 n, .string t] 45 (0, 0))) :=
    ⟨hW.alloc _, own_alloc hown _, Deep.blk_alloc_new _ _, fun e => by have := (hown.lt _ e).2; omega⟩
  have HP0 : Hid (PInv T l ah d n l ah d n) := PInv.start hRl hRa hH
  have HSM : Hid (∀ q ∈ ah, 0 ≤ q.n ∧ q.n ≤ 500 ∧ q.t.size ≤ 500) := hsm
  have HB0 : Hid (Below B w (w.alloc (.cells #[.int .i64 k, .int .i64 n, .string t] 45))) := (Below.refl B w).alloc hW.parts.2.1 _
  have HOUT : Hid (n ≤ outW (restW ah d)) := hout
  have hB := hW.parts.2.1
  clear hW hown hRl hRa hH hsm hout
  go_enter Try.func118, Try.ntmps118
  go_wp2_with fail
  go_loopw [1, 7] (fun v lf wr => ∃ (m : Nat) (l' ah' : List Pt) (d' : Nat) (ao' : Option Addr) (ca' : Nat) (a' : Option Addr) (c' : Nat), lf = .int .i64 m ∧ v = .slice ao' l'.length ca' ∧
      LAt wr B R w.heap.size l' ah' d' ao' ca' a' c' (.cells #[.int .i64 k, .int .i64 n, .string t] 45 (0, 0)) ∧ PInv T l ah d n l' ah' d' m ∧ Below B w wr) (fun _ lf wr => (intOf lf).toNat + aheadLen wr R)
  case atStart => exact ⟨n, l, ah, d, ao, ca, a, c, rfl, rfl, HS.out, HP0.out, HB0.out⟩
  case round =>
    obtain ⟨m, l', ah', d', ao', ca', a', c', rfl, rfl, hL, hP, hb⟩ := hrel
    have hz := hb.size
    by_cases hm : 0 < m
    · obtain ⟨p, r, rfl, hp3, hpn, hpk⟩ := hP.more HOUT.out hm
      obtain ⟨pb1, pb2, pb3⟩ := HSM.out p (hP.sub p (by simp))
      have hmn := hP.mn
      have hll := hP.len
      simp only [List.length_cons] at hll
      obtain ⟨b, off, rfl, hbB, c1, c2, c3⟩ := hL.wk.parts.mem (i := 0) (p := p) rfl
      simp only [Nat.zero_mul, Nat.add_zero] at c1 c2 c3
      have x0 : wr.cell? ⟨R, 0, none⟩ = some (.slice (some ⟨b, off, none⟩) (r.length + 1) c') := by rw [cell_of_row _ _ _ _ _ _ hL.wk.cell]; rfl
      have hBw := hL.wk.parts.2.1
      have hcap := hL.wk.cap
      simp only [List.length_cons] at hcap
      have HP : Hid (PInv T l ah d n l' (p :: r) d' m) := hP
      have HB : Hid (Below B w wr) := hb
      have HAL : Hid (aheadLen wr R = r.length + 1) := hL.wk.len
      by_cases hk3 : p.k = 3
      · have q3 : (p.k == 3) = true := by simp [hk3]
        have hd0 := hp3 hk3
        subst hd0
        have HL1 : Hid (LAt (wr.alloc (.cells #[.int .i64 p.k, .int .i64 p.n, .string p.t] 45)) B R w.heap.size l' (p :: r) 0 ao' ca' (some ⟨b, off, none⟩) c' (.cells #[.int .i64 k, .int .i64 n, .string t] 45 (0, 0))) := hL.alloc _
        have hAs := HL1.out.own
        have HPC : Hid (PInv T l ah d n (l' ++ [p]) r 0 m) := hP.cut hk3
        clear hL hP hb hk3 hp3 hpn hpk
        go_wp2_with (at_builtin; refine wpList_append_lies _ rfl _ _ 25 rfl B 45 ip _ 3 32 Try.underlying25 hip hp0 hp1 hp2 rfl (by decide) _ _ _ rfl hAs ⟨wr.heap.size, 0, none⟩ 1 1 [.int .i64 p.k, .int .i64 p.n, .string p.t] rfl rfl (World.news_of_block (cs := #[.int .i64 p.k, .int .i64 p.n, .string p.t]) (t := 45) (fr := (0, 0)) (heap_alloc_new wr _)) (by simp [Value.oneCell']) (by decide) ?c3 ?c4 ?c5 _ rfl ?_)
        case c3 => unfold maxLen; omega
        case c4 => omega
        case c5 => first | omega | (simp; omega)
        intro g cap1 w2 hown2 hgrow hat hlt
        have hL2 := HL1.out.append (p := p) hgrow hown2 (or_at hat (by simp))
        have HB2 : Hid (Below B w w2) := HL1.out.below (HB.out.alloc hBw _) hgrow
        have y0 : w2.cell? ⟨R, 0, none⟩ = some (.slice (some ⟨b, off, none⟩) (r.length + 1) c') := by rw [cell_of_row _ _ _ _ _ _ hL2.wk.cell]; rfl
        have yf : ∀ o, w2.frozen? ⟨R, o, none⟩ = false := fun o => frozen_of_row _ _ _ _ _ hL2.wk.cell
        have hR2 : R < w2.heap.size := lt_of_heap hL2.wk.cell
        have HL2 : Hid (LAt w2 B R w.heap.size (l' ++ [p]) (p :: r) 0 (some ⟨g, 0, none⟩) cap1 (some ⟨b, off, none⟩) c' (.cells #[.int .i64 k, .int .i64 n, .string t] 45 (0, 0))) := hL2
        have HXR : Hid (w.heap.size ≠ R) := by show _ ≠ _; omega
        clear hown2 hgrow hat hlt hL2 hAs x0 c1 c2 c3 HL1
        by_cases hc : c' = 1
        · have HW3 : Hid (WkAt (w2.setCell ⟨R, 0, none⟩ (.slice (some ⟨b, off, none⟩) r.length 0)) B R r 0 (some ⟨b, off, none⟩) 0) := by
            have hr0 : r = [] := List.length_eq_zero_iff.1 (by omega)
            have h := HL2.out.wk.set0 (r := r) (a' := some ⟨b, off, none⟩) (c' := 0) (by rw [hr0]; exact parts_none HL2.out.wk.parts.2.1) (by rw [hr0]; simp)
            exact h
          go_wp2_with fail
          go_roundw
          case rel => exact ⟨m, l' ++ [p], r, 0, some ⟨g, 0, none⟩, cap1, some ⟨b, off, none⟩, 0, rfl, by simp, HL2.out.walk HXR.out (grown_set _ _ _ _) HW3.out, HPC.out, HB2.out.setCell (p := ⟨R, 0, none⟩) hBR _⟩
          case measure => have h1 := HAL.out; have h2 := HW3.out.len; simp [intOf]; omega
        · have hc1 : 1 < c' := by omega
          have HW3 : Hid (WkAt (w2.setCell ⟨R, 0, none⟩ (.slice (some ⟨b, off + 3, none⟩) r.length (c' - 1))) B R r 0 (some ⟨b, off + 3, none⟩) (c' - 1)) := HL2.out.wk.set0 (r := r) HL2.out.wk.parts.tail (by omega)
          go_wp2_with fail
          go_roundw
          case rel => exact ⟨m, l' ++ [p], r, 0, some ⟨g, 0, none⟩, cap1, some ⟨b, off + 3, none⟩, c' - 1, rfl, by simp, HL2.out.walk HXR.out (grown_set _ _ _ _) HW3.out, HPC.out, HB2.out.setCell (p := ⟨R, 0, none⟩) hBR _⟩
          case measure => have h1 := HAL.out; have h2 := HW3.out.len; simp [intOf]; omega
      · have q3 : (p.k == 3) = false := by simp [hk3]
        have hk12 : p.k = 1 ∨ p.k = 2 := by omega
        have hdw := hpn hk3
        have h2n := (hP.ra p (by simp)).2.1
        obtain ⟨q, hq⟩ : ∃ q, q = min m (wd p - d') := ⟨_, rfl⟩
        have hq1 : d' + q ≤ wd p := by omega
        have hq0 : 0 < q := by omega
        have hqm : q ≤ m := by omega
        have HQ : Hid (q = min m (wd p - d')) := hq
        have HK12 : Hid (p.k = 1 ∨ p.k = 2) := hk12
        have H2N : Hid (p.k = 2 → p.n = 0) := h2n
        have hm5 : m ≤ 500 := by omega
        have HL : Hid (LAt wr B R w.heap.size l' (p :: r) d' ao' ca' (some ⟨b, off, none⟩) c' (.cells #[.int .i64 k, .int .i64 n, .string t] 45 (0, 0))) := hL
        have HK3 : Hid (¬ p.k = 3) := hk3
        clear hL hP hb hk3 hp3 hpn hpk hq hk12 h2n
        go_wp2_with fail
        refine (next_any B R p r d' (some ⟨b, off, none⟩) c' m wr HL.out.wk HK12.out pb1 pb2 pb3 H2N.out hdw hm hm5 q HQ.out).mono ?_
        rintro e w2 ⟨rfl, a2, c2', hW2, hg2⟩
        have hXR : w.heap.size ≠ R := by omega
        have hL2 := HL.out.walk hXR hg2 hW2
        have HB2 : Hid (Below B w w2) := HL.out.below2 HB.out hg2
        have hz2 := HB2.out.size
        have b0 : w2.cell? ⟨w.heap.size, 0, none⟩ = some (.int .i64 k) := by rw [cell_of_row _ _ _ _ _ _ hL2.box]; rfl
        have hX2 : w.heap.size < w2.heap.size := lt_of_heap hL2.box
        have htk := takeP_k (d := d') (q := q) HK12.out
        have HAL2 : Hid (aheadLen w2 R ≤ r.length + 1) := by
          show _ ≤ _
          rw [hW2.len]; unfold nextA; split <;> simp
        obtain ⟨P0, HP0'⟩ : ∃ P0, Hid (takeP p d' q = P0) := ⟨_, rfl⟩
        rw [HP0'.out] at htk ⊢
        have HL2 : Hid (LAt w2 B R w.heap.size l' (nextA p r d' q) (nextD p d' q) ao' ca' a2 c2' (.cells #[.int .i64 k, .int .i64 n, .string t] 45 (0, 0))) := hL2
        have HMQ : Hid ((m : Int) - (q : Int) = ((m - q : Nat) : Int)) := by show _ = _; omega
        clear hL2 hW2 hg2 x0 c1 c2 c3 HL
        rcases hkT with ⟨hk1, hT⟩ | ⟨hk1, hT⟩
        · have q1 : (k == 1) = true := by simp [hk1]
          subst hT
          have HPC : Hid (PInv .K l ah d n (l' ++ [P0]) (nextA p r d' q) (nextD p d' q) (m - q)) := by have h := HP.out.keep HK3.out hq1 hq0 hqm; rw [HP0'.out] at h; exact h
          have HL3 : Hid (LAt ((w2.alloc (.cells #[.int .i64 P0.k, .int .i64 P0.n, .string P0.t] 45)).alloc (.cells #[.int .i64 P0.k, .int .i64 P0.n, .string P0.t] 45)) B R w.heap.size l' (nextA p r d' q) (nextD p d' q) ao' ca' a2 c2' (.cells #[.int .i64 k, .int .i64 n, .string t] 45 (0, 0))) := (HL2.out.alloc _).alloc _
          have hAs := HL3.out.own
          clear hk1 htk
          go_wp2_with (at_builtin; refine wpList_append_lies _ rfl _ _ 25 rfl B 45 ip _ 3 32 Try.underlying25 hip hp0 hp1 hp2 rfl (by decide) _ _ _ rfl hAs ⟨w2.heap.size + 1, 0, none⟩ 1 1 [.int .i64 P0.k, .int .i64 P0.n, .string P0.t] rfl rfl ?c2 (by simp [Value.oneCell']) (by decide) ?c3 ?c4 ?c5 _ rfl ?_)
          case c2 => exact World.news_of_block (cs := #[.int .i64 P0.k, .int .i64 P0.n, .string P0.t]) (t := 45) (fr := (0, 0)) (by have h := heap_alloc_new (w2.alloc (.cells #[.int .i64 P0.k, .int .i64 P0.n, .string P0.t] 45)) (.cells #[.int .i64 P0.k, .int .i64 P0.n, .string P0.t] 45); rw [show (w2.alloc (.cells #[.int .i64 P0.k, .int .i64 P0.n, .string P0.t] 45)).heap.size = w2.heap.size + 1 from Deep.nblk_alloc _ _] at h; exact h)
          case c3 => unfold maxLen; omega
          case c4 => omega
          case c5 => first | omega | (simp; omega)
          intro g cap1 w3 hown3 hgrow hat hlt
          have HL4 : Hid (LAt w3 B R w.heap.size (l' ++ [P0]) (nextA p r d' q) (nextD p d' q) (some ⟨g, 0, none⟩) cap1 a2 c2' (.cells #[.int .i64 k, .int .i64 n, .string t] 45 (0, 0))) := HL3.out.append (p := P0) hgrow hown3 (or_at hat (by simp))
          have HB3 : Hid (Below B w w3) := HL3.out.below ((HB2.out.alloc (by omega) _).alloc (by simp; omega) _) hgrow
          clear hown3 hgrow hat hlt hAs HL3
          go_wp2_with fail
          go_roundw
          case rel => exact ⟨m - q, l' ++ [P0], _, _, some ⟨g, 0, none⟩, cap1, a2, c2', by rw [HMQ.out], by simp, HL4.out, HPC.out, HB3.out⟩
          case measure => have h1 := HAL.out; have h2 := HL4.out.wk.len; have h3 := HAL2.out; have h4 := HL2.out.wk.len; simp [intOf]; omega
        · have q1 : (k == 1) = false := by simp [hk1]
          subst hT
          have hPD := HP.out.drop HK3.out hq1 hq0 hqm
          by_cases hp1' : p.k = 1
          · have q4 : (P0.k == 1) = true := by simp [htk, hp1']
            rw [if_pos hp1'] at hPD
            have HPC : Hid (PInv .X l ah d n (l' ++ [⟨3, q, ByteArray.empty⟩]) (nextA p r d' q) (nextD p d' q) (m - q)) := hPD
            have HL3 : Hid (LAt ((w2.alloc (.cells #[.int .i64 P0.k, .int .i64 P0.n, .string P0.t] 45)).alloc (.cells #[.int .i64 3, .int .i64 q, .string ⟨#[]⟩] 45)) B R w.heap.size l' (nextA p r d' q) (nextD p d' q) ao' ca' a2 c2' (.cells #[.int .i64 k, .int .i64 n, .string t] 45 (0, 0))) := (HL2.out.alloc _).alloc _
            have hAs := HL3.out.own
            clear hk1 htk hPD hp1'
            go_wp2_with (at_builtin; refine wpList_append_lies _ rfl _ _ 25 rfl B 45 ip _ 3 32 Try.underlying25 hip hp0 hp1 hp2 rfl (by decide) _ _ _ rfl hAs ⟨w2.heap.size + 1, 0, none⟩ 1 1 [.int .i64 3, .int .i64 q, .string ⟨#[]⟩] rfl rfl ?c2 (by simp [Value.oneCell']) (by decide) ?c3 ?c4 ?c5 _ rfl ?_)
            case c2 => exact World.news_of_block (cs := #[.int .i64 3, .int .i64 q, .string ⟨#[]⟩]) (t := 45) (fr := (0, 0)) (by have h := heap_alloc_new (w2.alloc (.cells #[.int .i64 P0.k, .int .i64 P0.n, .string P0.t] 45)) (.cells #[.int .i64 3, .int .i64 q, .string ⟨#[]⟩] 45); rw [show (w2.alloc (.cells #[.int .i64 P0.k, .int .i64 P0.n, .string P0.t] 45)).heap.size = w2.heap.size + 1 from Deep.nblk_alloc _ _] at h; exact h)
            case c3 => unfold maxLen; omega
            case c4 => omega
            case c5 => first | omega | (simp; omega)
            intro g cap1 w3 hown3 hgrow hat hlt
            have HL4 : Hid (LAt w3 B R w.heap.size (l' ++ [⟨3, q, ByteArray.empty⟩]) (nextA p r d' q) (nextD p d' q) (some ⟨g, 0, none⟩) cap1 a2 c2' (.cells #[.int .i64 k, .int .i64 n, .string t] 45 (0, 0))) := HL3.out.append (p := ⟨3, q, ByteArray.empty⟩) hgrow hown3 (or_at hat (by simp))
            have HB3 : Hid (Below B w w3) := HL3.out.below ((HB2.out.alloc (by omega) _).alloc (by simp; omega) _) hgrow
            clear hown3 hgrow hat hlt hAs HL3
            go_wp2_with fail
            go_roundw
            case rel => exact ⟨m - q, l' ++ [⟨3, q, ByteArray.empty⟩], _, _, some ⟨g, 0, none⟩, cap1, a2, c2', by rw [HMQ.out], by simp, HL4.out, HPC.out, HB3.out⟩
            case measure => have h1 := HAL.out; have h2 := HL4.out.wk.len; have h3 := HAL2.out; have h4 := HL2.out.wk.len; simp [intOf]; omega
          · have q4 : (P0.k == 1) = false := by simp [htk, hp1']
            rw [if_neg hp1'] at hPD
            have HPC : Hid (PInv .X l ah d n l' (nextA p r d' q) (nextD p d' q) (m - q)) := hPD
            clear hk1 htk hPD hp1'
            go_wp2_with fail
            go_roundw
            case rel => exact ⟨m - q, l', _, _, ao', ca', a2, c2', by rw [HMQ.out], rfl, HL2.out.alloc _, HPC.out, HB2.out.alloc (by omega) _⟩
            case measure => have h1 := HAL.out; have h2 := (HL2.out.alloc (.cells #[.int .i64 P0.k, .int .i64 P0.n, .string P0.t] 45)).wk.len; have h3 := HAL2.out; have h4 := HL2.out.wk.len; simp [intOf]; omega
    · have hm0 : m = 0 := by omega
      subst hm0
      have HL : Hid (LAt wr B R w.heap.size l' ah' d' ao' ca' a' c' (.cells #[.int .i64 k, .int .i64 n, .string t] 45 (0, 0))) := hL
      have HP : Hid (PInv T l ah d n l' ah' d' 0) := hP
      have HB : Hid (Below B w wr) := hb
      clear hL hP hb
      go_wp2_with fail
      go_ret
      exact ⟨ao', ca', l', ah', d', a', c', rfl, HL.out.wk, HL.out.own, HP.out, HB.out⟩

end Go.Proofs.Ytcghojnmnmmpoaa
