/- The law KeepMore, walked: it answers true. -/
import Derived.Test.YtinhidddfpjjkaaKeepMoreKit
import Derived.Deep.RegionHeld3
import Derived.Deep.AppendLies
import Derived.Deep.DeepCutAuto
namespace Go.Proofs.Ytinhidddfpjjkaa
open Go.RowKit
set_option linter.unusedSimpArgs false
set_option linter.unusedVariables false

theorem more_lit (w : World) : Calls Try.prog 9 #[.agg #[.int .i64 2, .int .i64 0, .slice none 0 0], .int .i64 3] w fun e w' => ∃ ao co, e = .returned (.tuple #[.slice ao 2 co, .int .i64 0]) ∧ NatsAt w' w'.heap.size ao [2, 3] co ∧ Below w.heap.size w w' := by
  have h := KOf_ok (last := 2) (every := 0) none (pins := []) 0 (hd := 3) (by decide) (by decide) w (iz_nil _ _ _ (Nat.le_refl _) (by decide) _)
  rw [show keptL 2 0 [] 3 = [2, 3] by decide] at h
  exact h
theorem own_lowK {w : World} {B B' n size : Nat} {e : TypeId} {v : Value} {xs : List Value} (h : w.ownsRow B e size v n xs) (hB : B' ≤ B) : w.ownsRow B' e size v n xs := by
  rcases h.2 with ⟨h1, h2⟩ | ⟨g, cap', cur, h1, h2, h3⟩
  · exact ⟨h.1, .inl ⟨h1, h2⟩⟩
  · exact ⟨h.1, .inr ⟨g, cap', cur, h1, Nat.le_trans hB h2, h3⟩⟩
theorem news2 (w : World) (o : Obj) (u : Value) : ∀ j x, [u][j]? = some x → ((w.alloc o).alloc (.cells #[u] 3)).cell? ((⟨w.heap.size + 1, 0, none⟩ : Addr).add j) = some x := by
  intro j x hj
  have h := cell_one_new (w.alloc o) u 3 j x hj
  rw [show (w.alloc o).heap.size = w.heap.size + 1 from Deep.nblk_alloc _ _] at h
  exact h
theorem news3 (w : World) (o : Obj) (u : Value) : ∀ j x, [u][j]? = some x → ((w.alloc (.cells #[u] 3)).alloc o).cell? ((⟨w.heap.size, 0, none⟩ : Addr).add j) = some x := by
  intro j x hj
  have h := cell_one_new w u 3 j x hj
  have hb : Below (w.heap.size + 1) (w.alloc (.cells #[u] 3)) ((w.alloc (.cells #[u] 3)).alloc o) := (Below.refl _ _).alloc (by rw [Deep.nblk_alloc]; exact Nat.le_refl _) _
  rw [← h]
  rw [Addr.add_lit]
  exact hb.cell (p := ⟨w.heap.size, _, none⟩) (Nat.lt_succ_self _)
theorem own_hi {w : World} {B n size g : Nat} {e : TypeId} {v : Value} {xs : List Value} (h : w.ownsRow B e size v n xs) (hg : g < B) : v.ownBlock ≠ some g := fun hh => by
  have := (h.lt g hh).1; omega
theorem own_not {w : World} {B n size g : Nat} {e : TypeId} {v : Value} {xs : List Value} (h : w.ownsRow B e size v n xs) (hg : w.heap.size ≤ g) : v.ownBlock ≠ some g := fun hh => by
  have := (h.lt g hh).2; omega
theorem alloc_far {w : World} {g : Nat} {o p : Obj} (h : w.heap[g]? = some p) : (w.alloc o).heap[g]? = some p := (Deep.blk_alloc_lt w o g (lt_of_heap h)).trans h
theorem grown_far {w w' : World} {g : Nat} {p : Obj} {v : Value} (h : w.grownBy w' v.ownBlock) (hg : w.heap[g]? = some p) (hn : v.ownBlock ≠ some g) : w'.heap[g]? = some p := (h.block g (lt_of_heap hg) (fun e => hn e.symm)).trans hg
theorem new_at2 (w : World) (o p : Obj) : ((w.alloc o).alloc p).heap[w.heap.size + 1]? = some p := by
  have h := Deep.blk_alloc_new (w.alloc o) p
  rw [show (w.alloc o).heap.size = w.heap.size + 1 from Deep.nblk_alloc _ _] at h
  exact h
theorem kept_box {w w' : World} {o : Obj} (hb : Below (w.drew.alloc o).heap.size (w.drew.alloc o) w') : w'.heap[w.heap.size]? = some o := by
  have h : (w.drew.alloc o).heap[w.heap.size]? = some o := Deep.blk_alloc_new w.drew o
  exact (hb.block _ (lt_of_heap h)).trans h
theorem box_facts {w : World} {g : Nat} {t : TypeId} {x y z : Value} (h : w.heap[g]? = some (.cells #[x, y, z] t (0, 0))) :
    (∀ o, w.frozen? ⟨g, o, none⟩ = false) ∧ w.cell? ⟨g, 0, none⟩ = some x ∧ w.cell? ⟨g, 1, none⟩ = some y ∧ w.cell? ⟨g, 2, none⟩ = some z ∧ g < w.heap.size :=
  ⟨fun o => by simp [World.frozen?, h], Lib.cell_of_heap h 0, Lib.cell_of_heap h 1, Lib.cell_of_heap h 2, lt_of_heap h⟩
theorem gg_ne {v : Value} {gg g H : Nat} (hat : v.ownBlock = some gg ∨ gg = H) (hn : v.ownBlock ≠ some g) (hg : g < H) : gg ≠ g := by
  rintro rfl
  rcases hat with h | h
  · exact hn h
  · omega
theorem box3 {w w' : World} {g : Nat} {last every : Int} {s : Value} (h : PBox w g last every s) (hb : Below w.heap.size w w') : w'.cell? ⟨g, 0, none⟩ = some (.int .i64 last) ∧ w'.cell? ⟨g, 1, none⟩ = some (.int .i64 every) ∧ w'.cell? ⟨g, 2, none⟩ = some s := by
  obtain ⟨h1, h2, h3, _⟩ := h.below hb
  exact ⟨h1, h2, h3⟩
set_option maxHeartbeats 8000000 in
theorem KeepMore_any (last every : Int) (a : Option Addr) (pins : List Int) (c : Nat) (head more pin : Int) (w : World) (hv : IzAt w w.heap.size a pins c) :
    Calls Try.prog 5 #[polV last every a pins.length c, .int .i64 head, .int .i64 more, .int .i64 pin] w fun e w' => e = .returned (.bool true) ∧ Below w.heap.size w w' := by
  obtain ⟨ip, hip, hp0, hp1, hp2⟩ := info_parts infoInt
  obtain ⟨w0, hw0⟩ : ∃ w0, w0 = w.alloc (.cells #[.int .i64 last, .int .i64 every, .slice a pins.length c] 24) := ⟨_, rfl⟩
  have HB0 : Hid (Below w.heap.size w w0) := by subst hw0; exact (Below.refl _ _).alloc (Nat.le_refl _) _
  have HV : Hid (IzAt w w.heap.size a pins c) := hv
  have HX0 : Hid (PBox w0 w.heap.size last every (.slice a pins.length c)) := by subst hw0; exact pbox_new _ _ _ _
  clear hv
  subst hw0
  go_enter Try.func5, Try.ntmps5
  go_wp2_with fail
  refine (more_lit _).mono ?_
  rintro e w1 ⟨ao, co, rfl, hn1, hb1⟩
  have HB1 : Hid (Below w.heap.size w w1) := HB0.out.trans (hb1.mono HB0.out.size)
  have HX1 : Hid (PBox w1 w.heap.size last every (.slice a pins.length c)) := HX0.out.below hb1
  have hbl : Below w1.heap.size w1 (w1.alloc (.cells #[.int .i64 2, .int .i64 3] 3)) := (Below.refl _ _).alloc (Nat.le_refl _) _
  have HN1 : Hid (NatsAt (w1.alloc (.cells #[.int .i64 2, .int .i64 3] 3)) (w1.alloc (.cells #[.int .i64 2, .int .i64 3] 3)).heap.size ao [2, 3] co) := hn1.here hbl (Nat.le_refl _)
  have HL1 : Hid (NatsAt (w1.alloc (.cells #[.int .i64 2, .int .i64 3] 3)) (w1.alloc (.cells #[.int .i64 2, .int .i64 3] 3)).heap.size (some ⟨w1.heap.size, 0, none⟩) [2, 3] 2) := by
    rw [show (w1.alloc (.cells #[.int .i64 2, .int .i64 3] 3)).heap.size = w1.heap.size + 1 from Deep.nblk_alloc _ _]
    exact nats_lit w1 [2, 3] (by decide)
  have HBl : Hid (Below w.heap.size w (w1.alloc (.cells #[.int .i64 2, .int .i64 3] 3))) := HB1.out.trans (hbl.mono HB1.out.size)
  have HXl : Hid (PBox (w1.alloc (.cells #[.int .i64 2, .int .i64 3] 3)) w.heap.size last every (.slice a pins.length c)) := HX1.out.below hbl
  clear hb1 hn1 hbl
  go_wp2_with fail
  refine (EqNats_yes ao (some ⟨w1.heap.size, 0, none⟩) [2, 3] co 2 _ HN1.out HL1.out).mono ?_
  rintro e w2 ⟨rfl, hb2⟩
  have HB2 : Hid (Below w.heap.size w w2) := HBl.out.trans (hb2.mono HBl.out.size)
  have HX2 : Hid (PBox w2 w.heap.size last every (.slice a pins.length c)) := HXl.out.below hb2
  clear hb2 HN1 HL1 HBl HXl
  obtain ⟨x0, x1, x2, x3⟩ := HX2.out
  by_cases hE : keepE last every pins head = 0
  · obtain ⟨hz, hh0, hh1⟩ := keepE_zero hE
    obtain ⟨hd, rfl⟩ : ∃ hd : Nat, head = (hd : Int) := ⟨head.toNat, by omega⟩
    have hh : hd ≤ 640 := by omega
    have HZ : Hid (polE last every pins = 0) := hz
    obtain ⟨hl0, hE0, hl1, hE1, hpl, hpn⟩ := pol_zero hz
    have HPN : Hid (∀ r ∈ pins, 0 ≤ r ∧ r ≤ 2147483647) := hpn
    have HOf : Hid _ := fun w hv => KOf_ok (last := last) (every := every) a (pins := pins) c (hd := hd) hz hh w hv
    obtain ⟨K, hK⟩ : ∃ K, keptL last every pins hd = K := ⟨_, rfl⟩
    have HK : Hid (keptL last every pins hd = K) := hK
    rw [hK] at HOf
    clear hE hz hh0 hh1 hK hpn
    go_wp2_with fail
    refine (HOf.out _ (HV.out.here HB2.out (Nat.le_refl _))).mono ?_
    rintro e w4 ⟨aa, ca, rfl, hn4, hb4⟩
    have HB4 : Hid (Below w.heap.size w w4) := HB2.out.trans (hb4.mono HB2.out.size)
    have HX4 : Hid (PBox w4 w.heap.size last every (.slice a pins.length c)) := HX2.out.below hb4
    have HN4 : Hid (NatsAt w4 w4.heap.size aa K ca) := hn4
    have HV4 : Hid (IzAt w4 w4.heap.size a pins c) := HV.out.here HB4.out (Nat.le_refl _)
    clear hb4 hn4 x0 x1 x2 x3
    obtain ⟨x0, x1, x2, x3⟩ := HX4.out
    by_cases hg1 : 1000 < last
    · go_wp2_with fail
      go_ret
      exact ⟨by first | rfl | simp, HB4.out⟩
    · by_cases hg2 : 15 < pins.length
      · have hg2i : (15 : Int) < (pins.length : Int) := by omega
        go_wp2_with fail
        go_ret
        exact ⟨by first | rfl | simp, HB4.out⟩
      · have hg2i : ¬ (15 : Int) < (pins.length : Int) := by omega
        have HWm : Hid (∀ w : World, Calls Try.prog 15 #[.int .i64 more, .int .i64 1000] w fun e w' => ∃ r : Nat, e = .returned (.int .i64 r) ∧ r < 1000 ∧ w' = w) := fun w => Within3_any more 1000 w (by decide) (by decide)
        have HWp : Hid (∀ w : World, Calls Try.prog 15 #[.int .i64 pin, .int .i64 1000] w fun e w' => ∃ r : Nat, e = .returned (.int .i64 r) ∧ r < 1000 ∧ w' = w) := fun w => Within3_any pin 1000 w (by decide) (by decide)
        have HCl : Hid (∀ w : World, IzAt w w.heap.size a pins c → _) := fun w h => CloneIz_any a pins c w h (by omega)
        have hz4 := HB4.out.size
        go_upto_region 7 with fail
        go_cut [13] (fun x wc => ∃ (g m r : Nat) (a' : Option Addr) (c' : Nat), x = .pointer (some ⟨g, 0, none⟩) ∧ m < 1000 ∧ r < 1000 ∧ PBox wc g (last + m) every (.slice a' (pins ++ [(r : Int)]).length c') ∧ IzAt wc wc.heap.size a' (pins ++ [(r : Int)]) c' ∧ Below w4.heap.size w4 wc)
        case first =>
          go_region_held3 (fun w' => w'.cell? ⟨w.heap.size, 0, none⟩ = some (.int .i64 last) ∧ w'.cell? ⟨w.heap.size, 1, none⟩ = some (.int .i64 every) ∧ w'.cell? ⟨w.heap.size, 2, none⟩ = some (.slice a pins.length c)) (first | exact box3 HX4.out (HB7.out.alloc HS7.out _) | exact box3 HX4.out HB7.out | exact box3 HX4.out (HB5.out.alloc HS5.out _) | exact box3 HX4.out ((HB5.out.alloc HS5.out _).alloc (by have := HS5.out; simp; omega) _) | exact box3 HX4.out HB5.out | exact box3 HX4.out (((HB7.out.setCell (p := ⟨_, 0, none⟩) (by have h5 := HS5.out; dsimp only; omega) _).setCell (p := ⟨_, 1, none⟩) (by have h5 := HS5.out; dsimp only; omega) _).setCell (p := ⟨_, 2, none⟩) (by have h5 := HS5.out; dsimp only; omega) _) | go_keep | fail) (first
            | (go_at_call 15; with_reducible refine (HWm.out _).mono ?_; rintro e w5 ⟨m, rfl, hm, we⟩; have we := we.symm; subst we)
            | (go_at_call 15; with_reducible refine (HWp.out _).mono ?_; rintro e w6 ⟨r, rfl, hr, we⟩; have we := we.symm; subst we)
            | (go_at_call 18; refine (HCl.out _ (HV4.out.here (Below.refl _ _).drew (Nat.le_refl _))).mono ?_; rintro e w5 ⟨v5, rfl, ho5, hb5⟩; obtain ⟨b5, d5, rfl⟩ := slice_form ho5; have HO5 : Hid (w5.ownsRow w4.heap.size 3 1 (.slice b5 pins.length d5) pins.length (izC pins)) := ho5; have HS5 : Hid (w4.heap.size ≤ w5.heap.size) := hb5.size; have HB5 : Hid (Below w4.heap.size w4 w5) := ((Below.refl _ w4).drew).trans hb5)
            | (go_at_call 18; refine (HCl.out _ (HV4.out.here ((Below.refl _ _).drew.alloc (Nat.le_refl _) _) (Nat.le_refl _))).mono ?_; rintro e w5 ⟨v5, rfl, ho5, hb5⟩; obtain ⟨b5, d5, rfl⟩ := slice_form ho5; have HO5 : Hid (w5.ownsRow w4.heap.size 3 1 (.slice b5 pins.length d5) pins.length (izC pins)) := own_lowK ho5 (by simp); have HN5 : Hid ((Value.slice b5 pins.length d5).ownBlock ≠ some w4.heap.size) := own_hi ho5 (by simp); have HS5 : Hid (w4.heap.size ≤ w5.heap.size) := Nat.le_trans (Nat.le_succ _) (by have := hb5.size; simpa using this); have HB5 : Hid (Below w4.heap.size w4 w5) := (((Below.refl _ w4).drew.alloc (Nat.le_refl _) (.cells #[.int .i64 0, .int .i64 0, .slice none 0 0] 24))).trans (hb5.mono (by simp)); have HG5 : Hid (w5.heap[w4.heap.size]? = some (.cells #[.int .i64 0, .int .i64 0, .slice none 0 0] 24 (0, 0))) := kept_box hb5)
            | (revert HN5 HG5; intro HN5 HG5; refine step_append_lies _ (by rfl) _ _ _ (by rfl) w4.heap.size 3 ip _ 1 8 Try.underlying22 hip hp0 hp1 hp2 rfl (by omega) (.slice b5 pins.length d5) pins.length (izC pins) (by rfl) (own_alloc HO5.out (.cells #[.int .i64 (r : Int)] 3)) ⟨w5.heap.size, 0, none⟩ 1 1 [.int .i64 (r : Int)] (by rfl) (by rfl) (cell_one_new _ _ _) (by simp [Value.oneCell']) (by omega) (by unfold maxLen; omega) (by omega) (by have h5 := HS5.out; simp; omega) (w5.heap.size + 1) (by simp) ?_; intro gg cap1 w7 hown7 hgrow7 hat7 hlt7; have HB7 : Hid (Below w4.heap.size w4 w7) := below_own (HB5.out.alloc HS5.out (.cells #[.int .i64 (r : Int)] 3)) (own_alloc HO5.out (.cells #[.int .i64 (r : Int)] 3)) hgrow7 (by have h5 := HS5.out; simp; omega); have HS7 : Hid (w4.heap.size ≤ w7.heap.size) := HB7.out.size; have HG7 : Hid (w7.heap[w4.heap.size]? = some (.cells #[.int .i64 0, .int .i64 0, .slice none 0 0] 24 (0, 0)) ∧ gg ≠ w4.heap.size ∧ w4.heap.size ≤ w4.heap.size) := ⟨grown_far hgrow7 (alloc_far HG5.out) HN5.out, gg_ne hat7 (HN5.out) (by have h5 := HS5.out; omega), by have h5 := HS5.out; omega⟩; obtain ⟨f0, q0, q1, q2, q3⟩ := box_facts HG7.out.1)
            | (refine step_append_lies _ (by rfl) _ _ _ (by rfl) w4.heap.size 3 ip _ 1 8 Try.underlying22 hip hp0 hp1 hp2 rfl (by omega) (.slice b5 pins.length d5) pins.length (izC pins) (by rfl) (own_alloc HO5.out (.cells #[.int .i64 (r : Int)] 3)) ⟨w5.heap.size, 0, none⟩ 1 1 [.int .i64 (r : Int)] (by rfl) (by rfl) (cell_one_new _ _ _) (by simp [Value.oneCell']) (by omega) (by unfold maxLen; omega) (by omega) (by have h5 := HS5.out; simp; omega) (w5.heap.size + 1) (by simp) ?_; intro gg cap1 w7 hown7 hgrow7 hat7 hlt7; have HB7 : Hid (Below w4.heap.size w4 w7) := below_own (HB5.out.alloc HS5.out (.cells #[.int .i64 (r : Int)] 3)) (own_alloc HO5.out (.cells #[.int .i64 (r : Int)] 3)) hgrow7 (by have h5 := HS5.out; simp; omega); have HS7 : Hid (w4.heap.size ≤ w7.heap.size) := HB7.out.size)
            | (refine step_append_lies _ (by rfl) _ _ _ (by rfl) w4.heap.size 3 ip _ 1 8 Try.underlying22 hip hp0 hp1 hp2 rfl (by omega) (.slice b5 pins.length d5) pins.length (izC pins) (by rfl) (own_alloc (own_alloc HO5.out (.cells #[.int .i64 0, .int .i64 0, .slice none 0 0] 24)) (.cells #[.int .i64 (r : Int)] 3)) ⟨w5.heap.size + 1, 0, none⟩ 1 1 [.int .i64 (r : Int)] (by rfl) (by rfl) (news2 w5 _ _) (by simp [Value.oneCell']) (by omega) (by unfold maxLen; omega) (by omega) (by have h5 := HS5.out; simp; omega) (w5.heap.size + 1 + 1) (by simp) ?_; intro gg cap1 w7 hown7 hgrow7 hat7 hlt7; have HB7 : Hid (Below w4.heap.size w4 w7) := below_own ((HB5.out.alloc HS5.out (.cells #[.int .i64 0, .int .i64 0, .slice none 0 0] 24)).alloc (by have h5 := HS5.out; simp; omega) (.cells #[.int .i64 (r : Int)] 3)) (own_alloc (own_alloc HO5.out (.cells #[.int .i64 0, .int .i64 0, .slice none 0 0] 24)) (.cells #[.int .i64 (r : Int)] 3)) hgrow7 (by have h5 := HS5.out; simp; omega); have HS7 : Hid (w4.heap.size ≤ w7.heap.size) := HB7.out.size; have HG7 : Hid (w7.heap[w5.heap.size]? = some (.cells #[.int .i64 0, .int .i64 0, .slice none 0 0] 24 (0, 0)) ∧ gg ≠ w5.heap.size ∧ w4.heap.size ≤ w5.heap.size) := ⟨grown_far hgrow7 (alloc_far (Deep.blk_alloc_new w5 (.cells #[.int .i64 0, .int .i64 0, .slice none 0 0] 24))) (own_not HO5.out (Nat.le_refl _)), gg_ne hat7 (own_not HO5.out (Nat.le_refl _)) (by have h5 := HS5.out; omega), by have h5 := HS5.out; omega⟩; obtain ⟨f0, q0, q1, q2, q3⟩ := box_facts HG7.out.1)
            | (refine step_append_lies _ (by rfl) _ _ _ (by rfl) w4.heap.size 3 ip _ 1 8 Try.underlying22 hip hp0 hp1 hp2 rfl (by omega) (.slice b5 pins.length d5) pins.length (izC pins) (by rfl) (own_alloc (own_alloc HO5.out (.cells #[.int .i64 (r : Int)] 3)) (.cells #[.int .i64 0, .int .i64 0, .slice none 0 0] 24)) ⟨w5.heap.size, 0, none⟩ 1 1 [.int .i64 (r : Int)] (by rfl) (by rfl) (news3 w5 _ _) (by simp [Value.oneCell']) (by omega) (by unfold maxLen; omega) (by omega) (by have h5 := HS5.out; simp; omega) (w5.heap.size + 1 + 1) (by simp) ?_; intro gg cap1 w7 hown7 hgrow7 hat7 hlt7; have HB7 : Hid (Below w4.heap.size w4 w7) := below_own ((HB5.out.alloc HS5.out (.cells #[.int .i64 (r : Int)] 3)).alloc (by have h5 := HS5.out; simp; omega) (.cells #[.int .i64 0, .int .i64 0, .slice none 0 0] 24)) (own_alloc (own_alloc HO5.out (.cells #[.int .i64 (r : Int)] 3)) (.cells #[.int .i64 0, .int .i64 0, .slice none 0 0] 24)) hgrow7 (by have h5 := HS5.out; simp; omega); have HS7 : Hid (w4.heap.size ≤ w7.heap.size) := HB7.out.size; have HG7 : Hid (w7.heap[w5.heap.size + 1]? = some (.cells #[.int .i64 0, .int .i64 0, .slice none 0 0] 24 (0, 0)) ∧ gg ≠ w5.heap.size + 1 ∧ w4.heap.size ≤ w5.heap.size + 1) := ⟨grown_far hgrow7 (new_at2 w5 (.cells #[.int .i64 (r : Int)] 3) (.cells #[.int .i64 0, .int .i64 0, .slice none 0 0] 24)) (own_not HO5.out (Nat.le_succ _)), gg_ne hat7 (own_not HO5.out (Nat.le_succ _)) (by have h5 := HS5.out; omega), by have h5 := HS5.out; omega⟩; obtain ⟨f0, q0, q1, q2, q3⟩ := box_facts HG7.out.1)
            | fail)
          all_goals
            go_wp2_with fail
            have hw : IntKind.i64.wrap (last + (m : Int)) = last + (m : Int) := IntWalk.i64_in (last + (m : Int)) ⟨by omega, by omega⟩
            have hlen : (pins ++ [(r : Int)]).length = pins.length + 1 := by simp
            have ho : w7.ownsRow w4.heap.size 3 1 (.slice (some ⟨gg, 0, none⟩) (pins.length + 1) cap1) (pins.length + 1) (izC (pins ++ [(r : Int)])) := by rw [show izC (pins ++ [(r : Int)]) = izC pins ++ [.int .i64 (r : Int)] by simp [izC]]; exact hown7
            refine Met.intro ?_
            try go_simp
            go_step
            (repeat apply Exists.intro)
            refine ⟨?rel, rfl⟩
            case rel =>
              first
                | (revert HG7; intro HG7
                   have hf := fin_set (L := last + (m : Int)) (E := every) hlen.symm ho HG7.out.1 HG7.out.2.1 HB7.out HG7.out.2.2
                   exact ⟨_, m, r, some ⟨gg, 0, none⟩, cap1, rfl, hm, hr, by rw [hlen]; exact hf.1, hf.2.1, hf.2.2⟩)
                | (have hf := fin_new (L := last + (m : Int)) (E := every) hlen.symm ho HB7.out
                   exact ⟨_, m, r, some ⟨gg, 0, none⟩, cap1, rfl, hm, hr, by rw [hlen]; exact hf.1, hf.2.1, hf.2.2⟩)
        case rest =>
          obtain ⟨g, m, r, a', c', rfl, hm, hr, hbx, hiz, hbw⟩ := hcut
          have HBX : Hid (PBox wc g (last + m) every (.slice a' (pins ++ [(r : Int)]).length c')) := hbx
          have HIZ : Hid (IzAt wc wc.heap.size a' (pins ++ [(r : Int)]) c') := hiz
          have HBC : Hid (Below w4.heap.size w4 wc) := hbw
          have HNc : Hid (NatsAt wc wc.heap.size aa K ca) := HN4.out.here hbw (Nat.le_refl _)
          have hzm := pol_more (m := m) (r := r) HZ.out (by omega) (by omega) hm hr
          have HO2 : Hid _ := fun w hv => KOf_ok (last := last + (m : Int)) (every := every) a' (pins := pins ++ [(r : Int)]) c' (hd := hd) hzm hh w hv
          obtain ⟨K2, hK2⟩ : ∃ K2, keptL (last + (m : Int)) every (pins ++ [(r : Int)]) hd = K2 := ⟨_, rfl⟩
          have HSub : Hid (∀ q ∈ K, q ∈ K2) := fun q hq => by
            rw [← hK2]
            exact kept_more (show last ≤ last + (m : Int) by omega) (fun x hx => List.mem_append_left _ hx) (by rw [HK.out]; exact hq)
          rw [hK2] at HO2
          obtain ⟨p2, hp2⟩ : ∃ p2, pins ++ [(r : Int)] = p2 := ⟨_, rfl⟩
          rw [hp2] at HO2 HBX HIZ
          obtain ⟨L, hL⟩ : ∃ L, last + (m : Int) = L := ⟨_, rfl⟩
          rw [hL] at HO2 HBX
          clear hbx hiz hbw hzm hK2 hp2 hL x0 x1 x2 x3 HWm HWp HCl
          obtain ⟨x0, x1, x2, x3⟩ := HBX.out
          go_wp2_with fail
          refine (HO2.out _ HIZ.out).mono ?_
          rintro e w8 ⟨a8, c8, rfl, hn8, hb8⟩
          have HB8 : Hid (Below w4.heap.size w4 w8) := HBC.out.trans (hb8.mono HBC.out.size)
          have hbl : Below w8.heap.size w8 (w8.alloc (.cells #[.slice a8 K2.length c8] 22)) := (Below.refl _ _).alloc (Nat.le_refl _) _
          have HB9 : Hid (Below w.heap.size w (w8.alloc (.cells #[.slice a8 K2.length c8] 22))) := HB4.out.trans ((HB8.out.trans (hbl.mono HB8.out.size)).mono hz4)
          have HL9 : Hid (LBox (w8.alloc (.cells #[.slice a8 K2.length c8] 22)) w8.heap.size (.slice a8 K2.length c8)) := ⟨Lib.cell_of_heap (Deep.blk_alloc_new w8 _) 0, by rw [Deep.nblk_alloc]; omega⟩
          have HN9 : Hid (NatsAt (w8.alloc (.cells #[.slice a8 K2.length c8] 22)) (w8.alloc (.cells #[.slice a8 K2.length c8] 22)).heap.size a8 K2 c8) := hn8.here hbl (Nat.le_refl _)
          have HA9 : Hid (NatsAt (w8.alloc (.cells #[.slice a8 K2.length c8] 22)) (w8.alloc (.cells #[.slice a8 K2.length c8] 22)).heap.size aa K ca) := (HNc.out.here hb8 (Nat.le_refl _)).here hbl (Nat.le_refl _)
          clear hb8 hn8 hbl x0 x1 x2 x3
          go_wp2_with fail
          refine (moreCo_any w8.heap.size a8 K2 c8 aa K ca _ HL9.out HN9.out HA9.out HSub.out).mono ?_
          rintro e w9 ⟨rfl, we⟩
          have we := we.symm
          subst we
          go_wp2_with fail
          go_ret
          exact ⟨by first | rfl | simp, HB9.out⟩
  · obtain ⟨E, hEE⟩ : ∃ E, keepE last every pins head = E := ⟨_, rfl⟩
    rw [hEE] at hE
    have HOf : Hid _ := fun w hv => KOf_not (last := last) (every := every) a (pins := pins) c (head := head) hEE hE w hv
    have hE' : (E != 0) = true := by simp [hE]
    clear hEE
    go_wp2_with fail
    refine (HOf.out _ (HV.out.here HB2.out (Nat.le_refl _))).mono ?_
    rintro e w4 ⟨aa, ca, rfl, hb4⟩
    have HB4 : Hid (Below w.heap.size w w4) := HB2.out.trans (hb4.mono HB2.out.size)
    have HX4 : Hid (PBox w4 w.heap.size last every (.slice a pins.length c)) := HX2.out.below hb4
    clear hb4 x0 x1 x2 x3
    obtain ⟨x0, x1, x2, x3⟩ := HX4.out
    go_wp2_with fail
    go_ret
    exact ⟨by first | rfl | simp, HB4.out⟩
end Go.Proofs.Ytinhidddfpjjkaa
