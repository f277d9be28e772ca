/- What comp's walk answers as it takes the next bytes. -/
import Derived.Test.YtcghojnmnmmpoaaCompJ
import Derived.Test.YtcghojnmnmmpoaaGMem
import Derived.Deep.Heap
import Derived.Lib.Strings
namespace Go.Proofs.Ytcghojnmnmmpoaa
open Go.RowKit
set_option linter.unusedSimpArgs false
set_option linter.unusedVariables false

/-- block R holds a walk: what is ahead lies below block B -/
structure WkAt (w : World) (B R : Nat) (ah : List Pt) (d : Nat) (a : Option Addr) (c : Nat) : Prop where
  br : B ≤ R
  cell : w.heap[R]? = some (.cells #[.slice a ah.length c, .int .i64 d] 176 (0, 0))
  parts : PartsAt w B a ah
  cap : ah.length ≤ c

theorem extract_eq (s : ByteArray) (a n : Nat) : s.extract a (a + n) = ⟨((s.data.toList.drop a).take n).toArray⟩ := by
  have h := Lib.extract_data s a (a + n)
  rw [Nat.add_sub_cancel_left] at h
  rw [← h]

theorem grown_trans {w w1 w2 : World} {row : Option Nat} (h : w.grownBy w1 row) (h' : w1.grownBy w2 row) : w.grownBy w2 row :=
  ⟨h'.os.trans h.os, h'.tape.trans h.tape, h'.output.trans h.output, Nat.le_trans h.size h'.size, fun k hk hr => (h'.block k (Nat.lt_of_lt_of_le hk h.size) hr).trans (h.block k hk hr)⟩
theorem PartsAt.tail {w : World} {B b off : Nat} {p : Pt} {r : List Pt} (h : PartsAt w B (some ⟨b, off, none⟩) (p :: r)) : PartsAt w B (some ⟨b, off + 3, none⟩) r := by
  obtain ⟨h1, h2, h3, h4⟩ := h
  refine ⟨by simp only [List.length_cons] at h1; omega, h2, fun q hq => h3 q (List.mem_cons_of_mem _ hq), fun _ => ?_⟩
  obtain ⟨b', off', e, hb, hc⟩ := h4 (by simp)
  simp only [Option.some.injEq, Addr.mk.injEq, and_true] at e
  obtain ⟨rfl, rfl⟩ := e
  refine ⟨b, off + 3, rfl, hb, fun i q hi => ?_⟩
  have := hc (i + 1) q (by simpa using hi)
  rw [show off + (i + 1) * 3 = off + 3 + i * 3 by omega] at this
  exact this
theorem parts_none {w : World} {B : Nat} {a : Option Addr} (h : B ≤ w.heap.size) : PartsAt w B a [] := ⟨by simp, h, by simp, by simp⟩
section
variable {w : World} {B R d c : Nat} {ah : List Pt} {a : Option Addr}
theorem WkAt.alloc (h : WkAt w B R ah d a c) (o : Obj) : WkAt (w.alloc o) B R ah d a c :=
  ⟨h.br, (Deep.blk_alloc_lt _ _ _ (lt_of_heap h.cell)).trans h.cell, h.parts.below ((Below.refl B w).alloc h.parts.2.1 o) (Nat.le_refl _), h.cap⟩
theorem WkAt.set1 (h : WkAt w B R ah d a c) (x : Int) (y : Nat) (hx : x = y) : WkAt (w.setCell ⟨R, 1, none⟩ (.int .i64 x)) B R ah y a c := by
  subst hx
  exact ⟨h.br, by rw [set_at h.cell]; rfl, h.parts.below ((Below.refl B w).setCell (p := ⟨R, 1, none⟩) h.br _) (Nat.le_refl _), h.cap⟩
theorem WkAt.set0 (h : WkAt w B R ah d a c) {r : List Pt} {a' : Option Addr} {c' : Nat} (hp : PartsAt w B a' r) (hc : r.length ≤ c') : WkAt (w.setCell ⟨R, 0, none⟩ (.slice a' r.length c')) B R r d a' c' :=
  ⟨h.br, by rw [set_at h.cell]; rfl, hp.below ((Below.refl B w).setCell (p := ⟨R, 0, none⟩) h.br _) (Nat.le_refl _), hc⟩
theorem nx_eq {r : List Pt} (h : WkAt w B R ah d a c) {x : Int} {y : Nat} (hx : x = y) {a' : Option Addr} {c' : Nat} (hp : PartsAt w B a' r) (hc : r.length ≤ c') (o1 o2 : Obj) :
    WkAt (((((w.setCell ⟨R, 1, none⟩ (.int .i64 x)).setCell ⟨R, 0, none⟩ (.slice a' r.length c')).setCell ⟨R, 1, none⟩ (.int .i64 0)).alloc o1).alloc o2) B R r 0 a' c' ∧
    w.grownBy (((((w.setCell ⟨R, 1, none⟩ (.int .i64 x)).setCell ⟨R, 0, none⟩ (.slice a' r.length c')).setCell ⟨R, 1, none⟩ (.int .i64 0)).alloc o1).alloc o2) (some R) := by
  have h1 := h.set1 x y hx
  have h2 := h1.set0 (hp.below ((Below.refl B w).setCell (p := ⟨R, 1, none⟩) h.br _) (Nat.le_refl _)) hc
  have h3 := h2.set1 0 0 rfl
  exact ⟨(h3.alloc o1).alloc o2, grown_trans (grown_trans (grown_trans (grown_trans (grown_set _ _ _ _) (grown_set _ _ _ _)) (grown_set _ _ _ _)) (grown_alloc _ _ _)) (grown_alloc _ _ _)⟩
theorem nx_ne (h : WkAt w B R ah d a c) {x : Int} {y : Nat} (hx : x = y) (o1 o2 : Obj) :
    WkAt (((w.setCell ⟨R, 1, none⟩ (.int .i64 x)).alloc o1).alloc o2) B R ah y a c ∧ w.grownBy (((w.setCell ⟨R, 1, none⟩ (.int .i64 x)).alloc o1).alloc o2) (some R) :=
  ⟨((h.set1 x y hx).alloc o1).alloc o2, grown_trans (grown_trans (grown_set _ _ _ _) (grown_alloc _ _ _)) (grown_alloc _ _ _)⟩
end

set_option maxHeartbeats 4000000 in
theorem nextA_any (B R : Nat) (p : Pt) (r : List Pt) (d : Nat) (a : Option Addr) (c n : Nat) (w : World) (h : WkAt w B R (p :: r) d a c) (hk : p.k = 1 ∨ p.k = 2) (hn0 : 0 ≤ p.n) (hn5 : p.n ≤ 500) (ht5 : p.t.size ≤ 500)
    (h2 : p.k = 2 → p.n = 0) (hd : d < wd p) (hn : 0 < n) (hn6 : n ≤ 500) (q : Nat) (hq : q = min n (wd p - d)) (hA : (wd p : Int) - (d : Int) < (n : Int)) :
    Calls Try.prog 141 #[.pointer (some ⟨R, 0, none⟩), .int .i64 n] w fun e w' =>
      e = .returned (.tuple #[.agg #[.int .i64 (takeP p d q).k, .int .i64 (takeP p d q).n, .string (takeP p d q).t], .int .i64 q]) ∧ ∃ a' c', WkAt w' B R (nextA p r d q) (nextD p d q) a' c' ∧ w.grownBy w' (some R) := by
  obtain ⟨b, off, rfl, hb, c1, c2, c3⟩ := h.parts.mem (i := 0) (p := p) rfl
  simp only [Nat.zero_mul, Nat.add_zero] at c1 c2 c3
  have x0 : w.cell? ⟨R, 0, none⟩ = some (.slice (some ⟨b, off, none⟩) (r.length + 1) c) := by rw [cell_of_row _ _ _ _ _ _ h.cell]; rfl
  have x1 : w.cell? ⟨R, 1, none⟩ = some (.int .i64 d) := by rw [cell_of_row _ _ _ _ _ _ h.cell]; rfl
  have f0 : ∀ o, w.frozen? ⟨R, o, none⟩ = false := fun o => frozen_of_row _ _ _ _ _ h.cell
  have hR : R < w.heap.size := lt_of_heap h.cell
  have hB := h.parts.2.1
  have hBR := h.br
  have hbR : ¬ b = R := by omega
  have hbw : b < w.heap.size := by omega
  have hw5 : wd p ≤ 1000 := by unfold wd; omega
  have hlen := h.parts.1
  have hcap := h.cap
  simp only [List.length_cons] at hlen hcap
  have H : Hid (WkAt w B R (p :: r) d (some ⟨b, off, none⟩) c) := h
  clear h
  have hmin : p.n + (p.t.size : Int) = (wd p : Int) := by unfold wd; omega
  have HPT : Hid (PartsAt w B (some ⟨b, off + 3, none⟩) r) := H.out.parts.tail
  have HX : Hid ((d : Int) + (q : Int) = ((d + q : Nat) : Int)) := by show _ = _; omega
  have hqe : (wd p : Int) - (d : Int) = (q : Int) := by omega
  have hdq : d + q = wd p := by omega
  have g1 : ((d : Int) + (q : Int) == (wd p : Int)) = true := by simp; omega
  clear hq
  have HNA : Hid (nextA p r d q = r ∧ nextD p d q = 0) := ⟨by simp [nextA, hdq], by simp [nextD, hdq]⟩
  by_cases hc : c = 1
  · have hr0 : r.length = 0 := by omega
    have HR0 : Hid (r = []) := List.length_eq_zero_iff.1 hr0
    have HP0 : Hid (PartsAt w B (some ⟨b, off, none⟩) r) := by show PartsAt _ _ _ _; rw [HR0.out]; exact parts_none hB
    have HC0 : Hid (r.length ≤ 0) := by show _ ≤ _; omega
    clear hr0
    rcases hk with hk | hk
    · have q2 : (p.k == 2) = false := by simp [hk]
      have HTK : Hid (takeP p d q = ⟨1, q, ByteArray.empty⟩) := by show _ = _; simp [takeP, hk]
      go_enter Try.func141, Try.ntmps141
      go_wp2_with fail
      refine bodyPost_ret (v := .tuple #[.agg #[.int .i64 (takeP p d q).k, .int .i64 (takeP p d q).n, .string (takeP p d q).t], .int .i64 q]) (by rw [HTK.out]; simp [results, Try.results141, go_sem]; rfl) rfl ⟨rfl, ?_⟩
      rw [HNA.out.1, HNA.out.2]
      first | exact ⟨⟨some ⟨b, off, none⟩, 0, (nx_eq (r := r) H.out HX.out HP0.out HC0.out _ _).1⟩, (nx_eq (r := r) H.out HX.out HP0.out HC0.out _ _).2⟩ | exact ⟨some ⟨b, off, none⟩, 0, nx_eq (r := r) H.out HX.out HP0.out HC0.out _ _⟩
    · have q2 : (p.k == 2) = true := by simp [hk]
      have HTK : Hid (takeP p d q = ⟨2, 0, ⟨((p.t.data.toList.drop d).take q).toArray⟩⟩) := by show _ = _; simp [takeP, hk]
      have HEX : Hid (p.t.extract d (wd p) = ⟨((p.t.data.toList.drop d).take q).toArray⟩) := by show _ = _; rw [← hdq]; exact extract_eq _ _ _
      have hpn := h2 hk
      have hts : (p.t.size : Int) = (wd p : Int) := by omega
      go_enter Try.func141, Try.ntmps141
      go_wp2_with fail
      refine bodyPost_ret (v := .tuple #[.agg #[.int .i64 (takeP p d q).k, .int .i64 (takeP p d q).n, .string (takeP p d q).t], .int .i64 q]) (by rw [HTK.out]; simp [results, Try.results141, go_sem]; exact HEX.out) rfl ⟨rfl, ?_⟩
      rw [HNA.out.1, HNA.out.2]
      first | exact ⟨⟨some ⟨b, off, none⟩, 0, (nx_eq (r := r) H.out HX.out HP0.out HC0.out _ _).1⟩, (nx_eq (r := r) H.out HX.out HP0.out HC0.out _ _).2⟩ | exact ⟨some ⟨b, off, none⟩, 0, nx_eq (r := r) H.out HX.out HP0.out HC0.out _ _⟩
  · have hc1 : 1 < c := by omega
    have HC1 : Hid (r.length ≤ c - 1) := by show _ ≤ _; omega
    rcases hk with hk | hk
    · have q2 : (p.k == 2) = false := by simp [hk]
      have HTK : Hid (takeP p d q = ⟨1, q, ByteArray.empty⟩) := by show _ = _; simp [takeP, hk]
      go_enter Try.func141, Try.ntmps141
      go_wp2_with fail
      refine bodyPost_ret (v := .tuple #[.agg #[.int .i64 (takeP p d q).k, .int .i64 (takeP p d q).n, .string (takeP p d q).t], .int .i64 q]) (by rw [HTK.out]; simp [results, Try.results141, go_sem]; rfl) rfl ⟨rfl, ?_⟩
      rw [HNA.out.1, HNA.out.2]
      first | exact ⟨⟨some ⟨b, off + 3, none⟩, c - 1, (nx_eq (r := r) H.out HX.out HPT.out HC1.out _ _).1⟩, (nx_eq (r := r) H.out HX.out HPT.out HC1.out _ _).2⟩ | exact ⟨some ⟨b, off + 3, none⟩, c - 1, nx_eq (r := r) H.out HX.out HPT.out HC1.out _ _⟩
    · have q2 : (p.k == 2) = true := by simp [hk]
      have HTK : Hid (takeP p d q = ⟨2, 0, ⟨((p.t.data.toList.drop d).take q).toArray⟩⟩) := by show _ = _; simp [takeP, hk]
      have HEX : Hid (p.t.extract d (wd p) = ⟨((p.t.data.toList.drop d).take q).toArray⟩) := by show _ = _; rw [← hdq]; exact extract_eq _ _ _
      have hpn := h2 hk
      have hts : (p.t.size : Int) = (wd p : Int) := by omega
      go_enter Try.func141, Try.ntmps141
      go_wp2_with fail
      refine bodyPost_ret (v := .tuple #[.agg #[.int .i64 (takeP p d q).k, .int .i64 (takeP p d q).n, .string (takeP p d q).t], .int .i64 q]) (by rw [HTK.out]; simp [results, Try.results141, go_sem]; exact HEX.out) rfl ⟨rfl, ?_⟩
      rw [HNA.out.1, HNA.out.2]
      first | exact ⟨⟨some ⟨b, off + 3, none⟩, c - 1, (nx_eq (r := r) H.out HX.out HPT.out HC1.out _ _).1⟩, (nx_eq (r := r) H.out HX.out HPT.out HC1.out _ _).2⟩ | exact ⟨some ⟨b, off + 3, none⟩, c - 1, nx_eq (r := r) H.out HX.out HPT.out HC1.out _ _⟩

end Go.Proofs.Ytcghojnmnmmpoaa
