/- The next bytes, where they do not end the part ahead. -/
import Derived.Test.YtcghojnmnmmpoaaNextA
namespace Go.Proofs.Ytcghojnmnmmpoaa
open Go.RowKit
set_option linter.unusedSimpArgs false
set_option linter.unusedVariables false

set_option maxHeartbeats 4000000 in
theorem nextN_any (B R : Nat) (p : Pt) (r : List Pt) (d : Nat) (a : Option Addr) (c n : Nat) (w : World) (h : WkAt w B R (p :: r) d a c) (hk : p.k = 1 ∨ p.k = 2) (hn0 : 0 ≤ p.n) (hn5 : p.n ≤ 500) (ht5 : p.t.size ≤ 500)
    (h2 : p.k = 2 → p.n = 0) (hd : d < wd p) (hn : 0 < n) (hn6 : n ≤ 500) (q : Nat) (hq : q = min n (wd p - d)) (hA : ¬ (wd p : Int) - (d : Int) < (n : Int)) (hdq : ¬ d + q = wd p) :
    Calls Try.prog 141 #[.pointer (some ⟨R, 0, none⟩), .int .i64 n] w fun e w' =>
      e = .returned (.tuple #[.agg #[.int .i64 (takeP p d q).k, .int .i64 (takeP p d q).n, .string (takeP p d q).t], .int .i64 q]) ∧ ∃ a' c', WkAt w' B R (nextA p r d q) (nextD p d q) a' c' ∧ w.grownBy w' (some R) := by
  obtain ⟨b, off, rfl, hb, c1, c2, c3⟩ := h.parts.mem (i := 0) (p := p) rfl
  simp only [Nat.zero_mul, Nat.add_zero] at c1 c2 c3
  have x0 : w.cell? ⟨R, 0, none⟩ = some (.slice (some ⟨b, off, none⟩) (r.length + 1) c) := by rw [cell_of_row _ _ _ _ _ _ h.cell]; rfl
  have x1 : w.cell? ⟨R, 1, none⟩ = some (.int .i64 d) := by rw [cell_of_row _ _ _ _ _ _ h.cell]; rfl
  have f0 : ∀ o, w.frozen? ⟨R, o, none⟩ = false := fun o => frozen_of_row _ _ _ _ _ h.cell
  have hR : R < w.heap.size := lt_of_heap h.cell
  have hB := h.parts.2.1
  have hBR := h.br
  have hbR : ¬ b = R := by omega
  have hbw : b < w.heap.size := by omega
  have hw5 : wd p ≤ 1000 := by unfold wd; omega
  have hlen := h.parts.1
  have hcap := h.cap
  simp only [List.length_cons] at hlen hcap
  have H : Hid (WkAt w B R (p :: r) d (some ⟨b, off, none⟩) c) := h
  clear h
  have hmin : p.n + (p.t.size : Int) = (wd p : Int) := by unfold wd; omega
  have HPT : Hid (PartsAt w B (some ⟨b, off + 3, none⟩) r) := H.out.parts.tail
  have HX : Hid ((d : Int) + (q : Int) = ((d + q : Nat) : Int)) := by show _ = _; omega
  have hqe : q = n := by omega
  subst hqe
  clear hq
  have g1 : ((d : Int) + (q : Int) == (wd p : Int)) = false := by simp; omega
  have HNA : Hid (nextA p r d q = p :: r ∧ nextD p d q = d + q) := ⟨by simp [nextA, hdq], by simp [nextD, hdq]⟩
  rcases hk with hk | hk
  · have q2 : (p.k == 2) = false := by simp [hk]
    have HTK : Hid (takeP p d q = ⟨1, q, ByteArray.empty⟩) := by show _ = _; simp [takeP, hk]
    go_enter Try.func141, Try.ntmps141
    go_wp2_with fail
    refine bodyPost_ret (v := .tuple #[.agg #[.int .i64 (takeP p d q).k, .int .i64 (takeP p d q).n, .string (takeP p d q).t], .int .i64 q]) (by rw [HTK.out]; simp [results, Try.results141, go_sem]; rfl) rfl ⟨rfl, ?_⟩
    rw [HNA.out.1, HNA.out.2]
    first | exact ⟨⟨some ⟨b, off, none⟩, c, (nx_ne H.out HX.out _ _).1⟩, (nx_ne H.out HX.out _ _).2⟩ | exact ⟨some ⟨b, off, none⟩, c, nx_ne H.out HX.out _ _⟩
  · have q2 : (p.k == 2) = true := by simp [hk]
    have HTK : Hid (takeP p d q = ⟨2, 0, ⟨((p.t.data.toList.drop d).take q).toArray⟩⟩) := by show _ = _; simp [takeP, hk]
    have HEX : Hid (p.t.extract d ((d + q)) = ⟨((p.t.data.toList.drop d).take q).toArray⟩) := by show _ = _; exact extract_eq _ _ _
    have hpn := h2 hk
    have hts : (p.t.size : Int) = (wd p : Int) := by omega
    go_enter Try.func141, Try.ntmps141
    go_wp2_with fail
    refine bodyPost_ret (v := .tuple #[.agg #[.int .i64 (takeP p d q).k, .int .i64 (takeP p d q).n, .string (takeP p d q).t], .int .i64 q]) (by rw [HTK.out]; simp [results, Try.results141, go_sem]; exact HEX.out) rfl ⟨rfl, ?_⟩
    rw [HNA.out.1, HNA.out.2]
    first | exact ⟨⟨some ⟨b, off, none⟩, c, (nx_ne H.out HX.out _ _).1⟩, (nx_ne H.out HX.out _ _).2⟩ | exact ⟨some ⟨b, off, none⟩, c, nx_ne H.out HX.out _ _⟩

end Go.Proofs.Ytcghojnmnmmpoaa
