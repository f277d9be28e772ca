/- What two deltas, one behind the other, do: as plain functions. -/
import Derived.Test.YtjfeaedjifpahaaGatherB
import Derived.Test.YtjfeaedjifpahaaFits
namespace Go.Proofs.Ytjfeaedjifpahaa
set_option linter.unusedSimpArgs false
set_option linter.unusedVariables false

def Loose (l : List Pt) : Prop := ∀ p ∈ l, 0 ≤ p.n ∧ (p.k = 2 → p.n = 0)
theorem Loose.ge {l : List Pt} (h : Loose l) : 0 ≤ inI l := by
  induction l with
  | nil => simp [inI]
  | cons p r ih =>
    have h1 := h p (by simp)
    have h2 := ih (fun q hq => h q (List.mem_cons_of_mem _ hq))
    simp only [inI]; omega

theorem doL_app {a : List Pt} (b : List Pt) (h : Loose a) : ∀ (x y : List UInt8), (x.length : Int) = inI a → doL (a ++ b) (x ++ y) = doL a x ++ doL b y := by
  induction a with
  | nil =>
    intro x y hx
    have : x = [] := List.length_eq_zero_iff.1 (by simp only [inI] at hx; omega)
    subst this
    simp [doL]
  | cons p r ih =>
    intro x y hx
    have hp := h p (by simp)
    have hr : Loose r := fun q hq => h q (List.mem_cons_of_mem _ hq)
    have hge := hr.ge
    simp only [inI] at hx
    have ih := ih hr
    have hle : p.n.toNat ≤ x.length := by omega
    have e1 : (x ++ y).drop p.n.toNat = x.drop p.n.toNat ++ y := by rw [List.drop_append_of_le_length hle]
    have e2 : (x ++ y).take p.n.toNat = x.take p.n.toNat := by rw [List.take_append_of_le_length hle]
    have hd : ((x.drop p.n.toNat).length : Int) = inI r := by rw [List.length_drop]; omega
    simp only [List.cons_append, doL]
    by_cases h1 : p.k = 1
    · rw [if_pos h1, if_pos h1, e1, e2, ih _ _ hd, List.append_assoc]
    · rw [if_neg h1, if_neg h1]
      by_cases h2 : p.k = 2
      · rw [if_pos h2, if_pos h2, ih _ _ (by have := hp.2 h2; omega), List.append_assoc]
      · rw [if_neg h2, if_neg h2, e1, ih _ _ hd]

theorem settle_loose {sl : List Pt} {tx : List UInt8} {ct : Int} (h : Loose sl) (hc : 0 ≤ ct) : Loose (settleL sl tx ct) := by
  intro p hp
  simp only [settleL, List.mem_append] at hp
  rcases hp with (hp | hp) | hp
  · exact h p hp
  · split at hp
    · simp at hp
    · simp at hp; subst hp; simp
  · split at hp
    · simp at hp; subst hp; simp; omega
    · simp at hp
theorem settle_do {sl : List Pt} {tx : List UInt8} {ct : Int} (h : Loose sl) (hc : 0 ≤ ct) {x y : List UInt8} (hx : (x.length : Int) = inI sl) (hy : (y.length : Int) = ct) : doL (settleL sl tx ct) (x ++ y) = doL sl x ++ tx := by
  unfold settleL
  rw [List.append_assoc, doL_app _ h x y hx]
  congr 1
  by_cases ht : tx = []
  · rw [if_pos ht, ht, List.nil_append]
    split <;> simp [doL]
  · rw [if_neg ht]
    split <;> simp [doL]
theorem keep_loose {sl : List Pt} {n : Int} (h : Loose sl) (hn : 0 ≤ n) : Loose (keepL sl n) := by
  intro p hp
  unfold keepL at hp
  split at hp
  · rename_i q hq
    have hqm := h q (List.mem_of_getLast? hq)
    split at hp
    · rename_i hk
      simp only [List.mem_append, List.mem_singleton] at hp
      rcases hp with hp | hp
      · exact h p (List.dropLast_subset _ hp)
      · subst hp; exact ⟨by show 0 ≤ q.n + n; omega, fun e => by simp only at e; omega⟩
    · simp only [List.mem_append, List.mem_singleton] at hp
      rcases hp with hp | hp
      · exact h p hp
      · subst hp; exact ⟨hn, fun e => by simp at e⟩
  · simp only [List.mem_append, List.mem_singleton] at hp
    rcases hp with hp | hp
    · exact h p hp
    · subst hp; exact ⟨hn, fun e => by simp at e⟩
theorem keep_do {sl : List Pt} {n : Int} (h : Loose sl) (hn : 0 ≤ n) {x y : List UInt8} (hx : (x.length : Int) = inI sl) (hy : (y.length : Int) = n) : doL (keepL sl n) (x ++ y) = doL sl x ++ y := by
  have hty : y.take n.toNat = y := List.take_of_length_le (by omega)
  unfold keepL
  split
  · rename_i q hq
    have hqm := h q (List.mem_of_getLast? hq)
    have h1 : sl = sl.dropLast ++ [q] := by
      have h2 : sl ≠ [] := fun e => by subst e; simp at hq
      rw [List.getLast?_eq_some_getLast h2] at hq
      have h3 := List.dropLast_concat_getLast h2
      have h4 : sl.getLast h2 = q := Option.some.inj hq
      rw [h4] at h3; exact h3.symm
    split
    · rename_i hk
      have hd : Loose sl.dropLast := fun p hp => h p (List.dropLast_subset _ hp)
      generalize sl.dropLast = D at *
      subst h1
      rw [inI_app] at hx
      simp only [inI, Int.add_zero] at hx
      have hge := hd.ge
      obtain ⟨x1, x2, rfl, hx1⟩ : ∃ x1 x2, x = x1 ++ x2 ∧ (x1.length : Int) = inI D := ⟨x.take (inI D).toNat, x.drop (inI D).toNat, (List.take_append_drop _ _).symm, by rw [List.length_take]; omega⟩
      rw [List.length_append] at hx
      have hx2 : (x2.length : Int) = q.n := by omega
      rw [List.append_assoc, doL_app _ hd x1 (x2 ++ y) hx1, doL_app _ hd x1 x2 hx1, List.append_assoc]
      congr 1
      simp only [doL, hk, if_true, List.append_nil]
      rw [List.take_of_length_le (by rw [List.length_append]; omega), List.take_of_length_le (by omega)]
    · rw [doL_app _ h x y hx]
      simp [doL, hty]
  · rw [doL_app _ h x y hx]
    simp [doL, hty]

theorem gather_do {l : List Pt} (hl : ∀ p ∈ l, 0 ≤ p.n ∧ (p.k = 2 → p.n = 0) ∧ (p.k = 1 ∨ p.k = 2 ∨ p.k = 3)) {x : List UInt8} (hx : (x.length : Int) = inI l) : doL (gatherL l) x = doL l x := by
  suffices H : ∀ (s : GSt) (a b y : List UInt8), Loose s.sl → 0 ≤ s.ct → (a.length : Int) = inI s.sl → (b.length : Int) = s.ct → (y.length : Int) = inI l →
      doL (settleL (l.foldl gStep s).sl (l.foldl gStep s).tx (l.foldl gStep s).ct) (a ++ b ++ y) = doL s.sl a ++ s.tx ++ doL l y by
    have := H ⟨[], [], 0⟩ [] [] x (by intro p hp; simp at hp) (by simp) (by simp [inI]) (by simp) hx
    simpa [gatherL, gAll, doL] using this
  clear hx x
  induction l with
  | nil =>
    intro s a b y hs hc ha hb hy
    have : y = [] := List.length_eq_zero_iff.1 (by simp only [inI] at hy; omega)
    subst this
    rw [List.append_nil]
    simp only [List.foldl_nil]
    rw [settle_do hs hc ha hb]
    simp [doL]
  | cons p r ih =>
    intro s a b y hs hc ha hb hy
    obtain ⟨hp1, hp2, hp3⟩ := hl p (by simp)
    have ih := ih (fun q hq => hl q (List.mem_cons_of_mem _ hq))
    have hr : Loose r := fun q hq => ⟨(hl q (List.mem_cons_of_mem _ hq)).1, (hl q (List.mem_cons_of_mem _ hq)).2.1⟩
    have hge := hr.ge
    simp only [inI] at hy
    simp only [List.foldl_cons]
    obtain ⟨y1, y2, rfl, hy1⟩ : ∃ y1 y2, y = y1 ++ y2 ∧ (y1.length : Int) = p.n := ⟨y.take p.n.toNat, y.drop p.n.toNat, (List.take_append_drop _ _).symm, by rw [List.length_take]; omega⟩
    have hy2 : (y2.length : Int) = inI r := by rw [List.length_append] at hy; omega
    have hpr : doL (p :: r) (y1 ++ y2) = doL [p] y1 ++ doL r y2 := doL_app (a := [p]) r (by intro q hq; simp at hq; subst hq; exact ⟨hp1, hp2⟩) y1 y2 (by simp [inI]; omega)
    rw [hpr]
    rcases hp3 with hk | hk | hk
    · by_cases hn : p.n = 0
      · have e : gStep s p = s := by simp [gStep, hk, hn]
        have : y1 = [] := List.length_eq_zero_iff.1 (by omega)
        subst this
        rw [e, List.nil_append, ih s a b y2 hs hc ha hb hy2]
        simp [doL, hk, hn]
      · have e : gStep s p = ⟨keepL (settleL s.sl s.tx s.ct) p.n, [], 0⟩ := by simp [gStep, hk, hn]
        have hab : ((a ++ b).length : Int) = inI (settleL s.sl s.tx s.ct) := by rw [settle_in _ _ _ hc, List.length_append]; omega
        have h1 := ih ⟨keepL (settleL s.sl s.tx s.ct) p.n, [], 0⟩ (a ++ b ++ y1) [] y2 (keep_loose (settle_loose hs hc) hp1) (by simp) (by rw [keep_in, settle_in _ _ _ hc]; simp only [List.length_append]; omega) (by simp) hy2
        rw [List.append_nil, List.append_assoc (a ++ b)] at h1
        rw [e, h1, keep_do (settle_loose hs hc) hp1 hab hy1, settle_do hs hc ha hb]
        have hty : y1.take p.n.toNat = y1 := List.take_of_length_le (by omega)
        simp [doL, hk, hty, List.append_assoc]
    · have hn := hp2 hk
      have e : gStep s p = ⟨s.sl, s.tx ++ p.t.data.toList, s.ct⟩ := by simp [gStep, hk]
      have : y1 = [] := List.length_eq_zero_iff.1 (by omega)
      subst this
      rw [e, List.nil_append, ih ⟨s.sl, s.tx ++ p.t.data.toList, s.ct⟩ a b y2 hs hc ha hb hy2]
      simp [doL, hk, List.append_assoc]
    · have e : gStep s p = ⟨s.sl, s.tx, s.ct + p.n⟩ := by simp [gStep, hk]
      have h1 := ih ⟨s.sl, s.tx, s.ct + p.n⟩ a (b ++ y1) y2 hs (by simp only; omega) ha (by simp only [List.length_append]; omega) hy2
      rw [e]
      rw [show a ++ b ++ (y1 ++ y2) = a ++ (b ++ y1) ++ y2 by simp [List.append_assoc], h1]
      simp [doL, hk]

end Go.Proofs.Ytjfeaedjifpahaa
