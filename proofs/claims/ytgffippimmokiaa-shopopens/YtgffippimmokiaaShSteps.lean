/- What holds of an archive at any time. -/
import Derived.Test.YtgffippimmokiaaShStep
import Derived.Test.YtgffippimmokiaaShNew
namespace Go.Proofs.Ytgffippimmokiaa
open Go.RowKit
set_option linter.unusedSimpArgs false
set_option linter.unusedVariables false

/-- the head of an archive's log -/
def hdS (S : Sh) : Lg := headS S.log.gen S.log.base S.log.first S.log.text
/-- what the slot that it is at says -/
def curF (S : Sh) (a b : List Rv) : List Fr := slotF S.log.gen S.log.base S.log.first S.log.text a true b
/-- the table and the text that a move begins with -/
def flT (S : Sh) : List Int := tabK S.log (S.floor - S.log.base)
def flX (S : Sh) : List UInt8 := textAt S.log.text S.log.revs (S.floor - S.log.base)
/-- what the slot that it moves to says -/
def othF (S : Sh) (a : List Rv) (w : Bool) (b : List Rv) : List Fr := slotF (S.log.gen + 1) S.floor (flT S) (flX S) a w b
/-- the other slot, as far as a move has come -/
structure OthOk (S : Sh) (m : Nat) : Prop where
  stage : S.stage ≤ 4
  zero : S.stage = 0 → S.o = ⟨#[]⟩ ∧ S.y = 0
  one : S.stage = 1 → S.o = ⟨#[]⟩ ∧ S.y = 0 ∧ S.log.gen < 2147483647 ∧ S.log.base ≤ S.floor ∧ S.floor ≤ headN S ∧ S.said = S.floor
  two : S.stage = 2 → S.y = 0 ∧ S.log.gen < 2147483647 ∧ S.log.base ≤ S.floor ∧ S.floor ≤ S.said ∧ S.said ≤ headN S ∧ S.o.data.toList = rowL (othF S ((S.log.revs.drop (S.floor - S.log.base)).take (S.said - S.floor)) false [])
  three : S.stage = 3 → S.log.gen < 2147483647 ∧ S.log.base ≤ S.floor ∧ S.floor ≤ headN S ∧ 0 ≤ S.y ∧ S.y ≤ S.o.size ∧ ∃ a b, a ++ b = S.log.revs.drop (S.floor - S.log.base) ∧ S.o.data.toList = rowL (othF S a true b) ∧
    ∃ i, i ≤ b.length ∧ (i = 0 ∨ (rowN (othF S a true (b.take i)) : Int) ≤ S.y) ∧ S.safe ≤ S.floor + a.length + i
  four : S.stage = 4 → 1 ≤ S.log.gen ∧ 0 ≤ S.y ∧ S.y ≤ S.o.size ∧ m ≤ S.log.revs.length ∧ ∃ base F t a b, S.o.data.toList = rowL (slotF (S.log.gen - 1) base F t a true b) ∧ (∀ f ∈ slotF (S.log.gen - 1) base F t a true b, frOk f = true) ∧ hdL (headF (S.log.gen - 1) base F t) = some (headS (S.log.gen - 1) base F t) ∧ a.length + b.length ≤ 64 + m
structure ShInv (S : Sh) (a b : List Rv) (m : Nat) : Prop where
  cur : S.cur ≤ 1
  gen : S.log.gen ≤ 2147483647
  base : S.log.base ≤ 2147483647
  first : TabOk S.log.first
  text : S.log.text.length ≤ 500
  revs : S.log.revs = a ++ b
  may : mayL (hdS S) (S.log.text.length : Nat) (a ++ b)
  table : S.log.table = (addL (hdS S) (a ++ b)).table
  data : S.c.data.toList = rowL (curF S a b)
  whole : S.log.whole = true
  good : S.log.good ≤ 4007 * (S.log.revs.length + 1) + 7
  safe : ∃ i, i ≤ b.length ∧ (rowN (curF S a (b.take i)) : Int) ≤ S.x ∧ S.safe ≤ S.log.base + a.length + i
  xle : S.x ≤ S.c.size
  oth : OthOk S m
theorem size_list (b : ByteArray) : b.data.toList.length = b.size := Array.length_toList
theorem rowN_le {l : List Fr} (h : ∀ f ∈ l, frOk f = true) : rowN l ≤ 4007 * l.length := by
  induction l with
  | nil => simp [rowN]
  | cons f l ih =>
    have h1 := fr_len (h f (by simp))
    have h2 := ih (fun g hg => h g (by simp [hg]))
    have e : rowN (f :: l) = (f.t.length + 7) + rowN l := rfl
    rw [e, List.length_cons]
    omega
theorem slotF_len (gen base : Nat) (F : List Int) (t : List UInt8) (a b : List Rv) : (slotF gen base F t a true b).length = a.length + b.length + 2 := by
  simp [slotF]; omega
theorem slotF_len0 (gen base : Nat) (F : List Int) (t : List UInt8) (a : List Rv) : (slotF gen base F t a false []).length = a.length + 1 := by
  simp [slotF]
/-- a log that may be as it is said is right -/
theorem ShInv.lok {S : Sh} {a b : List Rv} {m : Nat} (h : ShInv S a b m) : LOk S.log (lastZ S.log) := by
  have h0 := head_sok h.gen h.base h.first h.text
  have h1 := may_ok (a ++ b) (hdS S) _ h0 h.may
  obtain ⟨f1, f2, f3, f4, f5, f6, f7⟩ := add_facts (a ++ b) (hdS S)
  have f1' : (addL (hdS S) (a ++ b)).revs = S.log.revs := by rw [f1, h.revs]; rfl
  have f4' : (addL (hdS S) (a ++ b)).text = S.log.text := f4
  have f2' : (addL (hdS S) (a ++ b)).base = S.log.base := f2
  refine ⟨h.text, ?_, ?_, ?_, h.first.1, ?_, ?_, ?_⟩
  · have := h1.revs; rw [f1'] at this; exact this
  · have := h1.hist; rw [f1', f4'] at this; exact this
  · have := h1.size; rw [f1', f4'] at this
    unfold lastZ
    rw [h.revs] at this ⊢
    exact this
  · rw [h.table]; exact h1.table
  · have := h1.ends; rw [f1', f2'] at this; exact this
  · rw [h.whole]; exact h.good
theorem ShInv.table_ok {S : Sh} {a b : List Rv} {m : Nat} (h : ShInv S a b m) : TabOk S.log.table := by
  rw [h.table]; exact tab_ok _ _ _ h.first h.may
theorem ShInv.read {S : Sh} {a b : List Rv} {m : Nat} (h : ShInv S a b m) : logE (scanL (rowL (curF S a b))).1 = 0 ∧ logS (scanL (rowL (curF S a b))).1 = { addL (hdS S) (a ++ b) with whole := true, good := rowN (curF S a b) } ∧ (∀ f ∈ curF S a b, frOk f = true) :=
  slot_read h.gen h.base h.first h.text h.may (fun e => by cases e)
theorem ShInv.csize {S : Sh} {a b : List Rv} {m : Nat} (h : ShInv S a b m) : S.c.size = rowN (curF S a b) ∧ S.c.size ≤ 264462 := by
  have e : S.c.size = rowN (curF S a b) := by rw [← size_list, h.data, row_len]
  refine ⟨e, ?_⟩
  have h1 := rowN_le h.read.2.2
  have h2 := slotF_len S.log.gen S.log.base S.log.first S.log.text a b
  have h3 := h.lok.revs
  rw [h.revs, List.length_append] at h3
  unfold curF at e h1
  rw [h2] at h1
  omega
/-- where a move begins -/
theorem ShInv.floor {S : Sh} {a b : List Rv} {m : Nat} (h : ShInv S a b m) (hg : S.log.gen < 2147483647) (h1 : S.log.base ≤ S.floor) (h2 : S.floor ≤ headN S) :
    TabOk (flT S) ∧ (flX S).length ≤ 500 ∧ mayL (headS (S.log.gen + 1) S.floor (flT S) (flX S)) ((flX S).length : Nat) (S.log.revs.drop (S.floor - S.log.base)) ∧
    (addL (headS (S.log.gen + 1) S.floor (flT S) (flX S)) (S.log.revs.drop (S.floor - S.log.base))).table = S.log.table ∧ S.floor ≤ 2147483647 := by
  have hk : S.floor - S.log.base ≤ S.log.revs.length := by unfold headN at h2; omega
  have hm : mayL (headS S.log.gen S.log.base S.log.first S.log.text) (S.log.text.length : Nat) S.log.revs := by rw [h.revs]; exact h.may
  obtain ⟨f1, f2, f3, f4⟩ := floor_ok (gen := S.log.gen) (gen' := S.log.gen + 1) h.gen h.base h.first h.text hm hk
  have e : S.log.base + (S.floor - S.log.base) = S.floor := by omega
  rw [e] at f3 f4
  refine ⟨f1, f2, f3, ?_, ?_⟩
  · rw [h.table]
    refine f4.trans ?_
    rw [h.revs]; rfl
  · have := h.lok.ends
    unfold headN at h2
    omega
theorem ShInv.osize {S : Sh} {a b : List Rv} {m : Nat} (h : ShInv S a b m) : S.o.size ≤ 520910 ∧ 0 ≤ S.y ∧ S.y ≤ S.o.size := by
  have hst := h.oth.stage
  have hrl := h.lok.revs
  rcases (by omega : S.stage = 0 ∨ S.stage = 1 ∨ S.stage = 2 ∨ S.stage = 3 ∨ S.stage = 4) with h0 | h0 | h0 | h0 | h0
  · obtain ⟨e1, e2⟩ := h.oth.zero h0
    rw [e1, e2]
    exact ⟨by decide, by decide, by decide⟩
  · obtain ⟨e1, e2, _⟩ := h.oth.one h0
    rw [e1, e2]
    exact ⟨by decide, by decide, by decide⟩
  · obtain ⟨e1, hg, h1, h2, h3, e2⟩ := h.oth.two h0
    obtain ⟨f1, f2, f3, f4, f5⟩ := h.floor hg h1 (by omega)
    have hm : mayL (headS (S.log.gen + 1) S.floor (flT S) (flX S)) ((flX S).length : Nat) (((S.log.revs.drop (S.floor - S.log.base)).take (S.said - S.floor)) ++ []) := by
      rw [List.append_nil]
      rw [← List.take_append_drop (S.said - S.floor) (S.log.revs.drop (S.floor - S.log.base))] at f3
      exact ((may_app _ _ _ _).1 f3).1
    obtain ⟨_, _, hfr⟩ := slot_read (w := false) (by omega) f5 f1 f2 hm (fun _ => rfl)
    have e3 : S.o.size = rowN (othF S ((S.log.revs.drop (S.floor - S.log.base)).take (S.said - S.floor)) false []) := by rw [← size_list, e2, row_len]
    have h4 := rowN_le hfr
    have h5 := slotF_len0 (S.log.gen + 1) S.floor (flT S) (flX S) ((S.log.revs.drop (S.floor - S.log.base)).take (S.said - S.floor))
    have h6 : ((S.log.revs.drop (S.floor - S.log.base)).take (S.said - S.floor)).length ≤ S.log.revs.length := by rw [List.length_take, List.length_drop]; omega
    unfold othF at e3
    rw [e1]
    refine ⟨by omega, by omega, by omega⟩
  · obtain ⟨hg, h1, h2, y0, y1, a', b', e1, e2, _⟩ := h.oth.three h0
    obtain ⟨f1, f2, f3, f4, f5⟩ := h.floor hg h1 h2
    rw [← e1] at f3
    obtain ⟨_, _, hfr⟩ := slot_read (w := true) (by omega) f5 f1 f2 f3 (fun e => by cases e)
    have e3 : S.o.size = rowN (othF S a' true b') := by rw [← size_list, e2, row_len]
    have h4 := rowN_le hfr
    have h5 := slotF_len (S.log.gen + 1) S.floor (flT S) (flX S) a' b'
    have h6 := congrArg List.length e1
    rw [List.length_append, List.length_drop] at h6
    unfold othF at e3
    exact ⟨by omega, y0, y1⟩
  · obtain ⟨hg, y0, y1, hm, base, F, t, a', b', e2, hfr, _, hl⟩ := h.oth.four h0
    have e3 : S.o.size = rowN (slotF (S.log.gen - 1) base F t a' true b') := by rw [← size_list, e2, row_len]
    have h4 := rowN_le hfr
    have h5 := slotF_len (S.log.gen - 1) base F t a' b'
    exact ⟨by omega, y0, y1⟩
theorem ShInv.ok {S : Sh} {a b : List Rv} {m : Nat} (h : ShInv S a b m) : ShOk S := by
  obtain ⟨o1, o2, o3⟩ := h.osize
  obtain ⟨i, _, hx, _⟩ := h.safe
  exact ⟨⟨h.cur, sl_of (by have := h.csize.2; omega) (by omega) h.xle, sl_of (by omega) o2 o3⟩, _, h.lok⟩
theorem ShInv.rooms {S : Sh} {a b : List Rv} {m : Nat} (h : ShInv S a b m) : S.c.size + 4007 ≤ 1048576 ∧ S.o.size + 4007 ≤ 1048576 := ⟨by have := h.csize.2; omega, by have := h.osize.1; omega⟩
theorem ShInv.step {S : Sh} {a b : List Rv} {m : Nat} (h : ShInv S a b m) : StOk S := by
  refine ⟨fun h0 => ?_, fun h0 => ?_, fun h0 => ?_⟩
  · obtain ⟨_, _, h1, h2, h3, _⟩ := h.oth.one h0
    exact ⟨h1, h2, h3⟩
  · obtain ⟨_, _, h1, h2, h3, _⟩ := h.oth.two h0
    exact ⟨by omega, h3, h.rooms.2⟩
  · obtain ⟨hg, h1, h2, y0, y1, a', b', e1, e2, _⟩ := h.oth.three h0
    obtain ⟨f1, f2, f3, f4, f5⟩ := h.floor hg h1 h2
    rw [← e1] at f3
    rw [e2]
    exact (slot_read (w := true) (by omega) f5 f1 f2 f3 (fun e => by cases e)).1
end Go.Proofs.Ytgffippimmokiaa

/- What is done to an archive keeps what holds of it. -/
namespace Go.Proofs.Ytgffippimmokiaa
open Go.RowKit
set_option linter.unusedSimpArgs false
set_option linter.unusedVariables false

theorem OthOk.mono {S : Sh} {m n : Nat} (h : OthOk S m) (hmn : m ≤ n) (hn : n ≤ S.log.revs.length) : OthOk S n :=
  ⟨h.stage, h.zero, h.one, h.two, h.three, fun h4 => by
    obtain ⟨h1, h2, h3, h5, base, F, t, a, b, e1, e2, e3, e4⟩ := h.four h4
    exact ⟨h1, h2, h3, hn, base, F, t, a, b, e1, e2, e3, by omega⟩⟩
theorem inv_new : ShInv newS [] [] 0 := by
  rw [newS_is]
  refine ⟨by decide, by decide, by decide, zero_tab, by decide, rfl, trivial, rfl, rfl, rfl, ?_, ⟨0, Nat.le_refl _, ?_, by decide⟩, by simp, ?_⟩
  · show newP.size ≤ 4007 * (0 + 1) + 7
    rw [new_len]
    have h1 := wn_len (1 :: 0 :: zeroT)
    have h2 : wnE (1 :: 0 :: zeroT) = 0 := by decide
    show (headF 1 0 zeroT []).t.length + 7 + (0 + 7 + 0) ≤ _
    have e : (headF 1 0 zeroT []).t = wnT (1 :: 0 :: zeroT) := by
      rw [wnT, if_pos h2]
      show numsL _ ++ [] = _
      rw [List.append_nil]; rfl
    rw [e]
    have : (1 :: 0 :: zeroT).length = 18 := rfl
    omega
  · show (rowN (slotF 1 0 zeroT [] [] true []) : Int) ≤ (newP.size : Int)
    rw [new_len]
    exact Int.le_refl _
  · exact ⟨by decide, fun _ => ⟨rfl, rfl⟩, (fun h => by cases h), (fun h => by cases h), (fun h => by cases h), (fun h => by cases h)⟩
theorem frB_row (r : Rv) : (frB r).data.toList = rowL [revFr r] := by
  show frameL 2 (revB r) = _
  rw [row_one]; rfl
theorem slot_snoc (gen base : Nat) (F : List Int) (t : List UInt8) (a b : List Rv) (r : Rv) : slotF gen base F t a true (b ++ [r]) = slotF gen base F t a true b ++ [revFr r] := by
  simp [slotF]
theorem slot_snoc0 (gen base : Nat) (F : List Int) (t : List UInt8) (a : List Rv) (r : Rv) : slotF gen base F t (a ++ [r]) false [] = slotF gen base F t a false [] ++ [revFr r] := by
  simp [slotF]
theorem slot_done (gen base : Nat) (F : List Int) (t : List UInt8) (a : List Rv) : slotF gen base F t a true [] = slotF gen base F t a false [] ++ [doneFr] := by
  simp [slotF]
theorem cat_list (b c : ByteArray) : (b ++ c).data.toList = b.data.toList ++ c.data.toList := by
  simp
theorem tabK_more (S : Lg) (l : List Rv) (T : List Int) {k : Nat} (hk : k ≤ S.revs.length) : tabK { S with table := T, revs := S.revs ++ l } k = tabK S k := by
  unfold tabK tableAt
  show (addL _ ((S.revs ++ l).take k)).table = _
  rw [List.take_append_of_le_length hk]
theorem textAt_pre (k : Nat) : ∀ (l l2 : List Rv) (s : List UInt8), k ≤ l.length → textAt s (l ++ l2) k = textAt s l k := by
  induction k with
  | zero => intro l l2 s _; rw [text_zero, text_zero]
  | succ k ih =>
    intro l l2 s h
    cases l with
    | nil => simp at h
    | cons r l => exact ih l l2 (doL r.d s) (by simpa using h)
/-- one revision more -/
theorem inv_add {S : Sh} {a b : List Rv} {m : Nat} {r : Rv} (h : ShInv S a b m) (hm : m ≤ S.log.revs.length) (hE : addE S r = 0) : ShInv (addS S r) a (b ++ [r]) (m + 1) := by
  have hone := (next_zero hE).1
  obtain ⟨f1, f2, f3, f4, f5, f6, f7⟩ := add_facts (a ++ b) (hdS S)
  have f1' : (addL (hdS S) (a ++ b)).revs = S.log.revs := by rw [f1, h.revs]; rfl
  have hmay : mayL (hdS S) (S.log.text.length : Nat) (a ++ (b ++ [r])) := by
    rw [← List.append_assoc]
    refine (may_app _ _ _ _).2 ⟨h.may, ?_, trivial⟩
    rw [f1', f2, ← h.table]
    have e : lastN (S.log.text.length : Nat) (a ++ b) = lastZ S.log := by rw [lastZ, h.revs]
    rw [e]
    exact hE
  have hlen : (addS S r).log.revs.length = S.log.revs.length + 1 := by
    show (S.log.revs ++ [r]).length = _
    rw [List.length_append, List.length_singleton]
  have hkey : ∀ k, k ≤ S.log.revs.length → tabK (addS S r).log k = tabK S.log k ∧ textAt (addS S r).log.text (addS S r).log.revs k = textAt S.log.text S.log.revs k := fun k hk =>
    ⟨tabK_more S.log [r] _ hk, textAt_pre k S.log.revs [r] S.log.text hk⟩
  have hhd : headN (addS S r) = headN S + 1 := by unfold headN; rw [hlen]; rfl
  have hfl : S.log.base ≤ S.floor → S.floor ≤ headN S → flT (addS S r) = flT S ∧ flX (addS S r) = flX S := fun h1 h2 => by
    have h3 : S.floor - S.log.base ≤ S.log.revs.length := by unfold headN at h2; omega
    exact hkey _ h3
  refine ⟨h.cur, h.gen, h.base, h.first, h.text, ?_, hmay, ?_, ?_, h.whole, ?_, ?_, ?_, ?_⟩
  · show S.log.revs ++ [r] = _
    rw [h.revs, List.append_assoc]
  · show tabPut S.log.table r.who r.seq (S.log.base + (S.log.revs.length + 1)) = (addL (hdS S) (a ++ (b ++ [r]))).table
    rw [← List.append_assoc, add_app]
    show _ = tabPut (addL (hdS S) (a ++ b)).table r.who r.seq (((addL (hdS S) (a ++ b)).base : Int) + (((addL (hdS S) (a ++ b)).revs.length : Int) + 1))
    rw [← h.table, f1', f2]
    rfl
  · show (S.c ++ frB r).data.toList = _
    rw [cat_list, h.data, frB_row]
    show _ = rowL (slotF S.log.gen S.log.base S.log.first S.log.text a true (b ++ [r]))
    rw [slot_snoc, row_app]
    rfl
  · have := h.good
    show S.log.good ≤ _
    rw [hlen]; omega
  · obtain ⟨i, hi, hx, hs⟩ := h.safe
    refine ⟨i, by rw [List.length_append]; omega, ?_, hs⟩
    rw [List.take_append_of_le_length hi]
    exact hx
  · show S.x ≤ ((S.c ++ frB r).size : Nat)
    rw [ByteArray.size_append]
    have := h.xle
    omega
  · have ho : ∀ t, twoB S = t → (addS S r).o = if t then S.o ++ frB r else S.o := fun t ht => by rw [← ht]; rfl
    have htw : twoB S = (S.stage == 3 || S.stage == 4) := by
      unfold twoB
      rcases (by omega : S.stage = 3 ∨ S.stage = 4 ∨ (S.stage ≠ 3 ∧ S.stage ≠ 4)) with h3 | h3 | ⟨h3, h4⟩
      · rw [h3]; rfl
      · rw [h3]; rfl
      · have e1 : (S.stage == 3) = false := by rw [beq_eq_false_iff_ne]; exact h3
        have e2 : (S.stage == 4) = false := by rw [beq_eq_false_iff_ne]; exact h4
        have e3 : (((S.stage : Nat) : Int) == 3) = false := by rw [beq_eq_false_iff_ne]; omega
        have e4 : (((S.stage : Nat) : Int) == 4) = false := by rw [beq_eq_false_iff_ne]; omega
        rw [e1, e2, e3, e4]
    refine ⟨h.oth.stage, fun h0 => ?_, fun h0 => ?_, fun h0 => ?_, fun h0 => ?_, fun h0 => ?_⟩
    · have h0 : S.stage = 0 := h0
      rw [h0] at htw
      obtain ⟨e1, e2⟩ := h.oth.zero h0
      exact ⟨by rw [ho false htw]; exact e1, e2⟩
    · have h0 : S.stage = 1 := h0
      rw [h0] at htw
      obtain ⟨e1, e2, e3, e4, e5, e6⟩ := h.oth.one h0
      exact ⟨by rw [ho false htw]; exact e1, e2, e3, e4, by rw [hhd]; exact Nat.le_succ_of_le e5, e6⟩
    · have h0 : S.stage = 2 := h0
      rw [h0] at htw
      obtain ⟨e1, e2, e3, e4, e5, e6⟩ := h.oth.two h0
      refine ⟨e1, e2, e3, e4, by rw [hhd]; exact Nat.le_succ_of_le e5, ?_⟩
      rw [ho false htw]
      obtain ⟨g1, g2⟩ := hfl e3 (by omega)
      unfold othF
      rw [g1, g2]
      show S.o.data.toList = rowL (slotF (S.log.gen + 1) S.floor (flT S) (flX S) (((S.log.revs ++ [r]).drop (S.floor - S.log.base)).take (S.said - S.floor)) false [])
      have hd : ((S.log.revs ++ [r]).drop (S.floor - S.log.base)).take (S.said - S.floor) = (S.log.revs.drop (S.floor - S.log.base)).take (S.said - S.floor) := by
        unfold headN at e5
        rw [List.drop_append_of_le_length (by omega), List.take_append_of_le_length (by rw [List.length_drop]; omega)]
      rw [hd]
      exact e6
    · have h0 : S.stage = 3 := h0
      rw [h0] at htw
      obtain ⟨e1, e2, e3, y0, y1, a', b', e4, e5, i, hi, hx, hs⟩ := h.oth.three h0
      obtain ⟨g1, g2⟩ := hfl e2 e3
      refine ⟨e1, e2, by rw [hhd]; exact Nat.le_succ_of_le e3, y0, ?_, a', b' ++ [r], ?_, ?_, i, ?_, ?_, hs⟩
      · rw [ho true htw, if_pos rfl, ByteArray.size_append]
        show S.y ≤ _
        omega
      · show _ = (S.log.revs ++ [r]).drop (S.floor - S.log.base)
        unfold headN at e3
        rw [List.drop_append_of_le_length (by omega), ← e4, List.append_assoc]
      · rw [ho true htw, if_pos rfl, cat_list, e5, frB_row]
        unfold othF
        rw [g1, g2]
        show _ = rowL (slotF (S.log.gen + 1) S.floor (flT S) (flX S) a' true (b' ++ [r]))
        rw [slot_snoc, row_app]
      · rw [List.length_append]; omega
      · rcases hx with hx | hx
        · exact .inl hx
        · right
          rw [List.take_append_of_le_length hi]
          unfold othF
          rw [g1, g2]
          exact hx
    · have h0 : S.stage = 4 := h0
      rw [h0] at htw
      obtain ⟨e1, y0, y1, hm2, base, F, t, a', b', e4, e5, e6, e7⟩ := h.oth.four h0
      refine ⟨e1, y0, ?_, by rw [hlen]; omega, base, F, t, a', b' ++ [r], ?_, ?_, e6, by rw [List.length_append, List.length_singleton]; omega⟩
      · rw [ho true htw, if_pos rfl, ByteArray.size_append]
        show S.y ≤ _
        omega
      · rw [ho true htw, if_pos rfl, cat_list, e4, frB_row]
        show _ = rowL (slotF (S.log.gen - 1) base F t a' true (b' ++ [r]))
        rw [slot_snoc, row_app]
      · intro f hf
        have hf : f ∈ slotF (S.log.gen - 1) base F t a' true (b' ++ [r]) := hf
        rw [slot_snoc] at hf
        rcases List.mem_append.1 hf with hf | hf
        · exact e5 f hf
        · rw [List.mem_singleton.1 hf]; exact rev_fr_ok hone
end Go.Proofs.Ytgffippimmokiaa

/- Sync, Keep and each step of a move keep what holds of an archive. -/
namespace Go.Proofs.Ytgffippimmokiaa
open Go.RowKit
set_option linter.unusedSimpArgs false
set_option linter.unusedVariables false

theorem OthOk.any {S : Sh} {m : Nat} (h : OthOk S m) (n : Nat) (h4 : S.stage ≠ 4) : OthOk S n :=
  ⟨h.stage, h.zero, h.one, h.two, h.three, fun e => absurd e h4⟩
theorem ShInv.any {S : Sh} {a b : List Rv} {m : Nat} (h : ShInv S a b m) (n : Nat) (h4 : S.stage ≠ 4) : ShInv S a b n :=
  ⟨h.cur, h.gen, h.base, h.first, h.text, h.revs, h.may, h.table, h.data, h.whole, h.good, h.safe, h.xle, h.oth.any n h4⟩
theorem ShInv.head {S : Sh} {a b : List Rv} {m : Nat} (h : ShInv S a b m) : headN S = S.log.base + a.length + b.length ∧ S.safe ≤ headN S := by
  have e : headN S = S.log.base + a.length + b.length := by
    unfold headN
    rw [h.revs, List.length_append]; omega
  obtain ⟨i, hi, _, hs⟩ := h.safe
  exact ⟨e, by omega⟩
theorem twoB_not {S : Sh} (h : S.stage ≠ 3) (h4 : S.stage ≠ 4) : twoB S = false := by
  unfold twoB
  have e3 : (((S.stage : Nat) : Int) == 3) = false := by rw [beq_eq_false_iff_ne]; omega
  have e4 : (((S.stage : Nat) : Int) == 4) = false := by rw [beq_eq_false_iff_ne]; omega
  rw [e3, e4]; rfl
theorem twoB_yes {S : Sh} (h : S.stage = 3 ∨ S.stage = 4) : twoB S = true := by
  unfold twoB
  rcases h with h | h <;> rw [h] <;> rfl
theorem inv_sync {S : Sh} {a b : List Rv} {m : Nat} (h : ShInv S a b m) : ShInv (syncS S) a b m := by
  obtain ⟨o1, o2, o3⟩ := h.osize
  have hh := h.head.1
  have hst := h.oth.stage
  refine ⟨h.cur, h.gen, h.base, h.first, h.text, h.revs, h.may, h.table, h.data, h.whole, h.good, ⟨b.length, Nat.le_refl _, ?_, ?_⟩, Int.le_refl _, ?_⟩
  · rw [List.take_length]
    show (rowN (curF S a b) : Int) ≤ (S.c.size : Int)
    rw [h.csize.1]
    exact Int.le_refl _
  · show headN S ≤ _
    rw [hh]; exact Nat.le_refl _
  · have hy : ∀ t, twoB S = t → (syncS S).y = if t then ((S.o.size : Nat) : Int) else S.y := fun t ht => by rw [← ht]; rfl
    refine ⟨h.oth.stage, fun h0 => ?_, fun h0 => ?_, fun h0 => ?_, fun h0 => ?_, fun h0 => ?_⟩
    · have h0 : S.stage = 0 := h0
      have ht := twoB_not (S := S) (by omega) (by omega)
      obtain ⟨e1, e2⟩ := h.oth.zero h0
      exact ⟨e1, by rw [hy false ht]; exact e2⟩
    · have h0 : S.stage = 1 := h0
      have ht := twoB_not (S := S) (by omega) (by omega)
      obtain ⟨e1, e2, e3⟩ := h.oth.one h0
      exact ⟨e1, by rw [hy false ht]; exact e2, e3⟩
    · have h0 : S.stage = 2 := h0
      have ht := twoB_not (S := S) (by omega) (by omega)
      obtain ⟨e2, e3⟩ := h.oth.two h0
      exact ⟨by rw [hy false ht]; exact e2, e3⟩
    · have h0 : S.stage = 3 := h0
      have ht := twoB_yes (S := S) (.inl h0)
      obtain ⟨e1, e2, e3, y0, y1, a', b', e4, e5, _⟩ := h.oth.three h0
      have hl := congrArg List.length e4
      rw [List.length_append, List.length_drop] at hl
      have hs : S.o.size = rowN (othF S a' true b') := by rw [← size_list, e5, row_len]
      refine ⟨e1, e2, e3, by rw [hy true ht]; simp, by rw [hy true ht]; exact Int.le_refl _, a', b', e4, e5, b'.length, Nat.le_refl _, .inr ?_, ?_⟩
      · rw [hy true ht, if_pos rfl, List.take_length, hs]
        exact Int.le_refl _
      · show headN S ≤ S.floor + a'.length + b'.length
        unfold headN at e3 ⊢
        omega
    · have h0 : S.stage = 4 := h0
      have ht := twoB_yes (S := S) (.inr h0)
      obtain ⟨e1, y0, y1, e2⟩ := h.oth.four h0
      exact ⟨e1, by rw [hy true ht]; simp, by rw [hy true ht]; exact Int.le_refl _, e2⟩
theorem inv_keep {S : Sh} {a b : List Rv} {m : Nat} (h : ShInv S a b m) (r : Int) : ShInv (keepS S r) a b m := by
  by_cases h0 : kpE S r = 0
  · have e : keepS S r = { S with stage := 1, floor := r.toNat, said := r.toNat } := by rw [keepS, if_pos h0]
    rw [e]
    unfold kpE at h0
    split at h0
    · rename_i hst
      split at h0
      · rename_i hh
        split at h0
        · omega
        · rename_i hg
          obtain ⟨k, hk, hkl⟩ := has_zero hh
          obtain ⟨o1, o2⟩ := h.oth.zero hst
          refine ⟨h.cur, h.gen, h.base, h.first, h.text, h.revs, h.may, h.table, h.data, h.whole, h.good, h.safe, h.xle, ?_⟩
          refine ⟨by show 1 ≤ 4; omega, (fun e => by cases e), fun _ => ⟨o1, o2, by show S.log.gen < _; omega, ?_, ?_, rfl⟩, (fun e => by cases e), (fun e => by cases e), (fun e => by cases e)⟩
          · show S.log.base ≤ r.toNat
            omega
          · show r.toNat ≤ S.log.base + S.log.revs.length
            omega
      · omega
    · omega
  · rw [keepS, if_neg h0]; exact h
theorem done_row : doneB.data.toList = rowL [doneFr] := by
  show frameL 3 [] = _
  rw [row_one]; rfl
theorem head_row {S : Sh} {a b : List Rv} {m : Nat} (h : ShInv S a b m) (h1 : S.stage = 1) : (headB S).data.toList = rowL (othF S [] false []) := by
  obtain ⟨_, _, hg, hb, hf, hs⟩ := h.oth.one h1
  obtain ⟨f1, f2, f3, f4, f5⟩ := h.floor hg hb hf
  obtain ⟨_, g2, _⟩ := head_all (gen := S.log.gen + 1) (base := S.floor) (F := flT S) (text := flX S) (by omega) f5 f1 f2
  have e1 : ((S.log.gen + 1 : Nat) : Int) = (S.log.gen : Int) + 1 := by omega
  rw [e1] at g2
  have e3 : othF S [] false [] = [headF (S.log.gen + 1) S.floor (flT S) (flX S)] := by simp [slotF, othF]
  rw [e3, ← g2]
  unfold headB flT flX
  simp
theorem inv_head {S : Sh} {a b : List Rv} {m : Nat} (h : ShInv S a b m) (h1 : S.stage = 1) : ShInv (stepHead S) a b m := by
  obtain ⟨_, _, hg, hb, hf, hs⟩ := h.oth.one h1
  have hrow := head_row h h1
  obtain ⟨O, hO⟩ : ∃ O, headB S = O := ⟨_, rfl⟩
  have e : stepHead S = { S.disk S.c S.x O 0 with stage := 2 } := by unfold stepHead; rw [hO]
  rw [e]
  rw [hO] at hrow
  refine ⟨h.cur, h.gen, h.base, h.first, h.text, h.revs, h.may, h.table, h.data, h.whole, h.good, h.safe, h.xle, ?_⟩
  refine ⟨by show 2 ≤ 4; omega, (fun e => by cases e), (fun e => by cases e), fun _ => ⟨rfl, hg, hb, by show S.floor ≤ S.said; omega, by show S.said ≤ headN S; omega, ?_⟩, (fun e => by cases e), (fun e => by cases e)⟩
  show O.data.toList = rowL (othF S ((S.log.revs.drop (S.floor - S.log.base)).take (S.said - S.floor)) false [])
  have e0 : S.said - S.floor = 0 := by omega
  rw [e0, List.take_zero]
  exact hrow
theorem inv_next {S : Sh} {a b : List Rv} {m : Nat} (h : ShInv S a b m) (h2 : S.stage = 2) : ShInv (stepNext S) a b m := by
  obtain ⟨y0, hg, hb, hfs, hsh, hd⟩ := h.oth.two h2
  have hhd := h.head
  unfold stepNext
  split
  · rename_i he
    refine ⟨h.cur, h.gen, h.base, h.first, h.text, h.revs, h.may, h.table, h.data, h.whole, h.good, h.safe, h.xle, ?_⟩
    refine ⟨by show 3 ≤ 4; omega, (fun e => by cases e), (fun e => by cases e), (fun e => by cases e), fun _ => ?_, (fun e => by cases e)⟩
    have hta : (S.log.revs.drop (S.floor - S.log.base)).take (S.said - S.floor) = S.log.revs.drop (S.floor - S.log.base) := by
      refine List.take_of_length_le ?_
      rw [List.length_drop]
      unfold headN at he hsh
      omega
    rw [hta] at hd
    refine ⟨hg, hb, by show S.floor ≤ headN S; omega, by show (0 : Int) ≤ S.y; omega, ?_, S.log.revs.drop (S.floor - S.log.base), [], by rw [List.append_nil]; rfl, ?_, 0, Nat.le_refl _, .inl rfl, ?_⟩
    · show S.y ≤ ((S.o ++ doneB).size : Nat)
      rw [y0]; simp; omega
    · show (S.o ++ doneB).data.toList = rowL (slotF (S.log.gen + 1) S.floor (flT S) (flX S) (S.log.revs.drop (S.floor - S.log.base)) true [])
      rw [cat_list, hd, done_row, slot_done, row_app]; rfl
    · show S.safe ≤ S.floor + (S.log.revs.drop (S.floor - S.log.base)).length + 0
      rw [List.length_drop]
      unfold headN at hsh hhd
      omega
  · rename_i he
    refine ⟨h.cur, h.gen, h.base, h.first, h.text, h.revs, h.may, h.table, h.data, h.whole, h.good, h.safe, h.xle, ?_⟩
    have hst : ({ S.disk S.c S.x (S.o ++ frB (revAt S)) S.y with said := S.said + 1 } : Sh).stage = 2 := h2
    refine ⟨by rw [hst]; omega, (fun e => by rw [hst] at e; cases e), (fun e => by rw [hst] at e; cases e), fun _ => ⟨y0, hg, hb, by show S.floor ≤ S.said + 1; omega, by show S.said + 1 ≤ headN S; omega, ?_⟩, (fun e => by rw [hst] at e; cases e), (fun e => by rw [hst] at e; cases e)⟩
    show (S.o ++ frB (revAt S)).data.toList = rowL (slotF (S.log.gen + 1) S.floor (flT S) (flX S) ((S.log.revs.drop (S.floor - S.log.base)).take (S.said + 1 - S.floor)) false [])
    have hlt : S.said - S.log.base < S.log.revs.length := by unfold headN at hsh he; omega
    obtain ⟨r, hr⟩ : ∃ r, S.log.revs[S.said - S.log.base]? = some r := ⟨_, List.getElem?_eq_getElem hlt⟩
    have hra : revAt S = r := by unfold revAt; rw [hr]; rfl
    have e1 : S.said + 1 - S.floor = (S.said - S.floor) + 1 := by omega
    have e2 : (S.log.revs.drop (S.floor - S.log.base))[S.said - S.floor]? = some r := by
      rw [List.getElem?_drop, show S.floor - S.log.base + (S.said - S.floor) = S.said - S.log.base by omega]
      exact hr
    rw [e1, List.take_add_one, e2, hra]
    show _ = rowL (slotF _ _ _ _ (_ ++ [r]) false [])
    rw [slot_snoc0, row_app, cat_list, hd, frB_row]; rfl
theorem change_log {S : Sh} {a b : List Rv} {m : Nat} (h : ShInv S a b m) (h3 : S.stage = 3) : ∃ a' b', a' ++ b' = S.log.revs.drop (S.floor - S.log.base) ∧ S.o.data.toList = rowL (othF S a' true b') ∧
    logS (scanL S.o.data.toList).1 = { addL (headS (S.log.gen + 1) S.floor (flT S) (flX S)) (a' ++ b') with whole := true, good := rowN (othF S a' true b') } ∧ (∀ f ∈ othF S a' true b', frOk f = true) := by
  obtain ⟨hg, hb, hf, y0, y1, a', b', e1, e2, _⟩ := h.oth.three h3
  obtain ⟨f1, f2, f3, f4, f5⟩ := h.floor hg hb hf
  rw [← e1] at f3
  obtain ⟨_, r2, r3⟩ := slot_read (w := true) (by omega) f5 f1 f2 f3 (fun e => by cases e)
  exact ⟨a', b', e1, e2, by rw [e2]; exact r2, r3⟩
theorem inv_change {S : Sh} {a b : List Rv} {m : Nat} (h : ShInv S a b m) (h3 : S.stage = 3) : ∃ a' b', ShInv (changeS S) a' b' 0 ∧ a' ++ b' = S.log.revs.drop (S.floor - S.log.base) := by
  obtain ⟨a', b', e1, e2, e3, hfr⟩ := change_log h h3
  obtain ⟨hg, hb, hf, y0, y1, _⟩ := h.oth.three h3
  obtain ⟨f1, f2, f3, f4, f5⟩ := h.floor hg hb hf
  obtain ⟨g1, g2, g3, g4, g5, g6, g7⟩ := add_facts (a' ++ b') (headS (S.log.gen + 1) S.floor (flT S) (flX S))
  have hs : S.o.size = rowN (othF S a' true b') := by rw [← size_list, e2, row_len]
  have hl := congrArg List.length e1
  rw [List.length_append, List.length_drop] at hl
  have hbl := h.lok.revs
  refine ⟨a', b', ?_, e1⟩
  have hc : changeS S = { c := S.o, x := S.o.size, o := S.c, y := S.x, cur := 1 - S.cur, log := { addL (headS (S.log.gen + 1) S.floor (flT S) (flX S)) (a' ++ b') with whole := true, good := rowN (othF S a' true b') }, safe := S.floor + (a' ++ b').length, stage := 4, floor := S.floor, said := S.said } := by
    unfold changeS
    rw [e3]
    simp only [g1, g2]
    rfl
  rw [hc]
  have hhd : hdS { c := S.o, x := S.o.size, o := S.c, y := S.x, cur := 1 - S.cur, log := { addL (headS (S.log.gen + 1) S.floor (flT S) (flX S)) (a' ++ b') with whole := true, good := rowN (othF S a' true b') }, safe := S.floor + (a' ++ b').length, stage := 4, floor := S.floor, said := S.said } = headS (S.log.gen + 1) S.floor (flT S) (flX S) := by
    unfold hdS
    show headS (addL _ _).gen (addL _ _).base (addL _ _).first (addL _ _).text = _
    rw [g2, g3, g4, g5]; rfl
  have hcf : ∀ b2, curF { c := S.o, x := S.o.size, o := S.c, y := S.x, cur := 1 - S.cur, log := { addL (headS (S.log.gen + 1) S.floor (flT S) (flX S)) (a' ++ b') with whole := true, good := rowN (othF S a' true b') }, safe := S.floor + (a' ++ b').length, stage := 4, floor := S.floor, said := S.said } a' b2 = othF S a' true b2 := by
    intro b2
    unfold curF othF
    show slotF (addL _ _).gen (addL _ _).base (addL _ _).first (addL _ _).text _ _ _ = _
    rw [g2, g3, g4, g5]; rfl
  have hro := rowN_le hfr
  have hro2 := slotF_len (S.log.gen + 1) S.floor (flT S) (flX S) a' b'
  refine ⟨by show 1 - S.cur ≤ 1; omega, ?_, ?_, ?_, ?_, ?_, ?_, ?_, ?_, rfl, ?_, ?_, Int.le_refl _, ?_⟩
  · show (addL _ _).gen ≤ _
    rw [g3]; show S.log.gen + 1 ≤ _; omega
  · show (addL _ _).base ≤ _
    rw [g2]; exact f5
  · show TabOk (addL _ _).first
    rw [g5]; exact f1
  · show (addL _ _).text.length ≤ _
    rw [g4]; exact f2
  · show (addL _ _).revs = _
    rw [g1]; rfl
  · rw [hhd]
    show mayL _ ((addL _ _).text.length : Nat) _
    rw [g4, e1]
    exact f3
  · rw [hhd]
  · rw [hcf]; exact e2
  · show rowN (othF S a' true b') ≤ 4007 * ((addL _ _).revs.length + 1) + 7
    rw [g1]
    have hlen : ((headS (S.log.gen + 1) S.floor (flT S) (flX S)).revs ++ (a' ++ b')).length = a'.length + b'.length := by
      show ([] ++ (a' ++ b')).length = _
      rw [List.nil_append, List.length_append]
    rw [hlen]
    have hsplit : rowN (othF S a' true b') = rowN (othF S (a' ++ b') false []) + 7 := by
      unfold othF slotF
      have e8 : ∀ (A B : List Fr) (x : Fr), rowN (x :: (A ++ doneFr :: B)) = rowN (x :: (A ++ B)) + 7 := by
        intro A B x
        have q1 : x :: (A ++ doneFr :: B) = [x] ++ (A ++ ([doneFr] ++ B)) := rfl
        have q2 : x :: (A ++ B) = [x] ++ (A ++ B) := rfl
        rw [q1, q2, rowN_app, rowN_app, rowN_app, rowN_app, rowN_app]
        have : rowN [doneFr] = 7 := rfl
        omega
      rw [if_pos rfl, e8]
      simp
    rw [hsplit]
    have hfr2 : ∀ f ∈ othF S (a' ++ b') false [], frOk f = true := by
      intro f hf
      refine hfr f ?_
      unfold othF slotF at hf ⊢
      simp only [Bool.false_eq_true, if_false, List.append_nil, if_true, List.map_append, List.mem_cons, List.mem_append] at hf ⊢
      rcases hf with hf | hf | hf
      · exact .inl hf
      · exact .inr (.inl hf)
      · exact .inr (.inr (.inr hf))
    have h8 := rowN_le hfr2
    have h9 := slotF_len0 (S.log.gen + 1) S.floor (flT S) (flX S) (a' ++ b')
    rw [List.length_append] at h9
    unfold othF at h8 ⊢
    omega
  · refine ⟨b'.length, Nat.le_refl _, ?_, ?_⟩
    · rw [List.take_length, hcf]
      show (rowN _ : Int) ≤ (S.o.size : Int)
      rw [hs]
      exact Int.le_refl _
    · show S.floor + (a' ++ b').length ≤ (addL _ _).base + _ + _
      rw [g2, List.length_append]
      show _ ≤ S.floor + _ + _
      omega
  · refine ⟨by show 4 ≤ 4; omega, (fun e => by cases e), (fun e => by cases e), (fun e => by cases e), (fun e => by cases e), fun _ => ?_⟩
    obtain ⟨i, hi, hx, hsf⟩ := h.safe
    have eg : (addL (headS (S.log.gen + 1) S.floor (flT S) (flX S)) (a' ++ b')).gen - 1 = S.log.gen := by rw [g3]; show S.log.gen + 1 - 1 = _; omega
    refine ⟨?_, ?_, h.xle, Nat.zero_le _, S.log.base, S.log.first, S.log.text, a, b, ?_, ?_, ?_, ?_⟩
    · show 1 ≤ (addL _ _).gen
      rw [g3]; show 1 ≤ S.log.gen + 1; omega
    · show (0 : Int) ≤ S.x
      omega
    · show S.c.data.toList = rowL (slotF ((addL _ _).gen - 1) _ _ _ _ _ _)
      rw [eg]
      exact h.data
    · show ∀ f ∈ slotF ((addL _ _).gen - 1) _ _ _ _ _ _, _
      rw [eg]
      exact h.read.2.2
    · show hdL (headF ((addL _ _).gen - 1) _ _ _) = some (headS ((addL _ _).gen - 1) _ _ _)
      rw [eg]
      exact (head_all h.gen h.base h.first h.text).2.2.2
    · have := h.revs
      have h9 := congrArg List.length this
      rw [List.length_append] at h9
      omega
theorem inv_over {S : Sh} {a b : List Rv} {m : Nat} (h : ShInv S a b m) : ShInv (overS S) a b m := by
  refine ⟨h.cur, h.gen, h.base, h.first, h.text, h.revs, h.may, h.table, h.data, h.whole, h.good, h.safe, h.xle, ?_⟩
  exact ⟨by show 0 ≤ 4; omega, fun _ => ⟨rfl, rfl⟩, (fun e => by cases e), (fun e => by cases e), (fun e => by cases e), (fun e => by cases e)⟩
end Go.Proofs.Ytgffippimmokiaa
