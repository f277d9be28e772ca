/- What num.Get answers. -/
import Derived.Test.YtcghojnmnmmpoaaPtOwn
import Derived.Test.YtcghojnmnmmpoaaCodeFinds
import Derived.Deep.RegionWith
import Derived.BigQuiet
import Derived.Deep.RegionHeld3
namespace Go.Proofs.Ytcghojnmnmmpoaa
open Go.RowKit
set_option linter.unusedSimpArgs false
set_option linter.unusedVariables false

/-- one byte more, at place k -/
theorem get_add {s : List UInt8} {k : Nat} {c : UInt8} (h : s[k]? = some c) (p : Nat) (hp : p = 128 ^ k) : valL (s.take (k + 1)) = valL (s.take k) + p * (c.toNat % 128) := by
  have hk := (List.getElem?_eq_some_iff.1 h).1
  rw [take_snoc8 h, val_snoc, hp, show (s.take k).length = k by simp; omega]
theorem val_bound {s : List UInt8} {k : Nat} (hk : k ≤ 5) : valL (s.take k) < 34359738368 := by
  have h1 := val_lt (s.take k)
  have h2 : 128 ^ (s.take k).length ≤ 128 ^ 5 := Nat.pow_le_pow_right (by omega) (by simp; omega)
  have h3 : (128 : Nat) ^ 5 = 34359738368 := by decide
  omega

theorem get_shift {k x : Nat} (hk : k ≤ 4) (hx : x < 128) : wrap64 ((x : Int) * 2 ^ (7 * k)) = ((128 ^ k * x : Nat) : Int) ∧ 128 ^ k * x < 34359738368 := by
  have h3 : 128 ^ k ≤ 268435456 := by
    have h2 : (128 : Nat) ^ k ≤ 128 ^ 4 := Nat.pow_le_pow_right (by omega) hk
    have h3 : (128 : Nat) ^ 4 = 268435456 := by decide
    omega
  have h4 : 128 ^ k * x < 34359738368 := by
    have := Nat.mul_le_mul h3 (show x ≤ 127 by omega)
    omega
  refine ⟨?_, h4⟩
  have h6 : (x : Int) * 2 ^ (7 * k) = ((128 ^ k * x : Nat) : Int) := by
    rw [Int.pow_mul, show ((2 : Int) ^ 7) = ((128 : Nat) : Int) by decide, ← Int.natCast_pow, Int.mul_comm]
    exact (Int.natCast_mul _ _).symm
  rw [h6, IntWalk.wrap64_in _ ⟨by omega, by omega⟩]

set_option maxRecDepth 20000 in
set_option maxHeartbeats 2000000 in
theorem Get_any (s : ByteArray) (w : World) (hs : s.size ≤ 9223372036854775807) :
    Calls Try.prog 150 #[.string s] w fun e w' => e = .returned (.tuple #[.int .i64 (getN s.data.toList), .int .i64 (getK s.data.toList), .int .i64 (getE s.data.toList)]) ∧ w' = w := by
  have hl : s.data.toList.length = s.size := Array.length_toList
  obtain ⟨l, hll⟩ : ∃ l, s.data.toList = l := ⟨_, rfl⟩
  obtain ⟨q, hq⟩ : ∃ q, min s.size 5 = q := ⟨_, rfl⟩
  have hqm : (Builtin.min_ #[3, 3] 3 #[.int .i64 s.size, .int .i64 5]).run Try.prog w = .ok (.int .i64 (q : Int)) w := by
    rw [run_min_int2]
    congr 2
    split <;> omega
  go_enter Try.func150, Try.ntmps150
  go_wp2_with fail
  go_loop [5, 10] (fun x i => ∃ k : Nat, k ≤ q ∧ i = .int .i64 k ∧ x = .int .i64 (valL (l.take k) : Nat) ∧ ∀ x ∈ l.take k, bigB x = true) (fun _ i => q - (intOf i).toNat)
  case atStart => exact ⟨0, Nat.zero_le _, rfl, rfl, by simp⟩
  case round =>
    obtain ⟨k, hk, rfl, rfl, ha⟩ := hrel
    have hv := val_bound (s := l) (k := k) (by omega)
    obtain ⟨v, hvv⟩ : ∃ v, valL (l.take k) = v := ⟨_, rfl⟩
    rw [hvv] at hv ⊢
    by_cases hlt : k < q
    · obtain ⟨c, hc⟩ : ∃ c, s.data.toList[k]? = some c := ⟨s.data.toList[k]'(by omega), List.getElem?_eq_getElem _⟩
      have hks : k < s.size := by omega
      have hat := at_byte hc hks
      have hcl := UInt8.toNat_lt c
      have hk4 : k ≤ 4 := by omega
      obtain ⟨hsh, hxb⟩ := get_shift (k := k) (x := c.toNat % 128) hk4 (Nat.mod_lt _ (by omega))
      have hcm : ((c.toNat % 128 : Nat) : Int) = (c.toNat : Int) % 128 := by omega
      rw [hcm] at hsh
      have HV : Hid (valL (l.take (k + 1)) = v + 128 ^ k * (c.toNat % 128)) := by show _ = _; rw [← hvv]; exact get_add (hll ▸ hc) _ rfl
      obtain ⟨y, hy⟩ : ∃ y, 128 ^ k * (c.toNat % 128) = y := ⟨_, rfl⟩
      rw [hy] at hsh hxb
      have HY : Hid _ := hy
      have HH : Hid _ := hvv
      have HA : Hid _ := ha
      have HC : Hid (l[k]? = some c) := hll ▸ hc
      have HL : Hid (s.data.toList = l) := hll
      have HI : Hid (k < 5) := by show _ < _; omega
      clear hvv ha hc hq hl hll hcm hy
      by_cases hbig : 128 ≤ c.toNat
      · go_wp2_with fail
        go_round
        case rel =>
          refine ⟨k + 1, by omega, by go_num, ?_, all_snoc HC.out HA.out (by simpa [bigB] using hbig)⟩
          rw [HV.out, HY.out]; first | rfl | simp
        case measure => simp [intOf]; omega
      · have HG : Hid _ := get_stop HC.out HI.out HA.out (by simpa [bigB] using hbig)
        by_cases hz : 0 < k ∧ c.toNat = 0
        · have hE := HG.out.1 (.inl hz)
          obtain ⟨g1, g2⟩ := get_bad (s := l) (by omega)
          have HE : Hid (getE l = 3 ∧ getN l = 0 ∧ getK l = 0) := ⟨hE, g1, g2⟩
          obtain ⟨hz1, hz2⟩ := hz
          clear hE g1 g2 hbig
          go_wp2_with fail
          go_ret3
          exact ⟨by rw [HL.out, HE.out.1, HE.out.2.1, HE.out.2.2]; rfl, rfl⟩
        · by_cases hgt : 2147483647 < v + y
          · have hE := HG.out.1 (.inr (by rw [HV.out, HY.out]; exact hgt))
            obtain ⟨g1, g2⟩ := get_bad (s := l) (by omega)
            have HE : Hid (getE l = 3 ∧ getN l = 0 ∧ getK l = 0) := ⟨hE, g1, g2⟩
            clear hE g1 g2
            by_cases hk0 : 0 < k
            · have hc1 : ¬ c.toNat = 0 := fun h => hz ⟨hk0, h⟩
              have hc0 : ((c.toNat : Int) == 0) = false := by rw [beq_eq_false_iff_ne]; omega
              clear hc1
              clear hz
              go_wp2_with fail
              go_ret3
              exact ⟨by rw [HL.out, HE.out.1, HE.out.2.1, HE.out.2.2]; rfl, rfl⟩
            · clear hz
              go_wp2_with fail
              go_ret3
              exact ⟨by rw [HL.out, HE.out.1, HE.out.2.1, HE.out.2.2]; rfl, rfl⟩
          · have hE := HG.out.2 (by rw [HV.out, HY.out]; omega)
            rw [HV.out, HY.out] at hE
            have HE : Hid (getE l = 0 ∧ getN l = v + y ∧ getK l = k + 1) := hE
            clear hE
            by_cases hk0 : 0 < k
            · have hc1 : ¬ c.toNat = 0 := fun h => hz ⟨hk0, h⟩
              have hc0 : ((c.toNat : Int) == 0) = false := by rw [beq_eq_false_iff_ne]; omega
              clear hc1
              clear hz
              go_wp2_with fail
              go_ret3
              exact ⟨by rw [HL.out, HE.out.1, HE.out.2.1, HE.out.2.2]; simp, rfl⟩
            · clear hz
              go_wp2_with fail
              go_ret3
              exact ⟨by rw [HL.out, HE.out.1, HE.out.2.1, HE.out.2.2]; simp, rfl⟩
    · have hkq : k = q := by omega
      by_cases h5 : 5 ≤ s.size
      · have hE : getE l = 3 := get_long (by rw [← hll, hl]; exact h5) (by rw [show 5 = k by omega]; exact ha)
        obtain ⟨g1, g2⟩ := get_bad (s := l) (by omega)
        have HE : Hid (getE l = 3 ∧ getN l = 0 ∧ getK l = 0) := ⟨hE, g1, g2⟩
        have HL : Hid (s.data.toList = l) := hll
        clear hE g1 g2 hq ha hvv hll hl
        go_wp2_with fail
        go_ret3
        exact ⟨by rw [HL.out, HE.out.1, HE.out.2.1, HE.out.2.2]; rfl, rfl⟩
      · have hE : getE l = 5 := get_short (by rw [← hll, hl]; omega) (by rw [show l.length = k by rw [← hll, hl]; omega]; exact ha)
        obtain ⟨g1, g2⟩ := get_bad (s := l) (by omega)
        have HE : Hid (getE l = 5 ∧ getN l = 0 ∧ getK l = 0) := ⟨hE, g1, g2⟩
        have HL : Hid (s.data.toList = l) := hll
        clear hE g1 g2 hq ha hvv hll hl
        go_wp2_with fail
        go_ret3
        exact ⟨by rw [HL.out, HE.out.1, HE.out.2.1, HE.out.2.2]; rfl, rfl⟩
end Go.Proofs.Ytcghojnmnmmpoaa

/- What num.Put answers. -/
namespace Go.Proofs.Ytcghojnmnmmpoaa
open Go.RowKit
set_option linter.unusedSimpArgs false
set_option linter.unusedVariables false

theorem u8_of {x : Int} {n : Nat} (h : x = n) (hn : n < 256) : Value.int .u8 (IntKind.u8.wrap x) = Value.int .u8 ((UInt8.ofNat n).toNat : Int) := by
  rw [ofNat_toNat hn, h, IntKind.wrap_u8]
  congr 1; omega
theorem bytes_snoc (l : List UInt8) (c : UInt8) : Lib.byteCells (l ++ [c]) = Lib.byteCells l ++ [Value.int .u8 (c.toNat : Int)] := by simp [Lib.byteCells]
/-- a row of bytes, read as a text -/
theorem text_of {w : World} {B : Nat} {v : Value} {l : List UInt8} (h : w.ownsRow B 5 1 v l.length (Lib.byteCells l)) (hl : 0 < l.length) : ∃ g cap, v = .slice (some ⟨g, 0, none⟩) l.length cap ∧
    (convert 119 9 (.slice (some ⟨g, 0, none⟩) l.length cap)).run Try.prog w = .ok (.string ⟨l.toArray⟩) w := by
  obtain ⟨g, cap, rfl, _⟩ := own_at (j := 0) (u := .int .u8 (l[0].toNat : Int)) h (by simp [Lib.byteCells, hl])
  exact ⟨g, cap, rfl, run_convert_bytes_back w 119 9 5 ⟨g, 0, none⟩ cap l Try.underlying119 Try.underlying5 Try.underlying9 (fun j hj => text_at h j hj)⟩
theorem put_last {w : World} {B : Nat} {v : Value} {acc t : List UInt8} {m : Nat} (h : w.ownsRow B 5 1 v (acc.length + 1) (Lib.byteCells acc ++ [Value.int .u8 (m : Int)])) (hx : acc ++ numL m = t) (hm : m < 128) : w.ownsRow B 5 1 v t.length (Lib.byteCells t) := by
  subst hx
  rw [num_small hm, bytes_snoc, ofNat_toNat (by omega), List.length_append]
  exact h
theorem put_next {w : World} {B : Nat} {v : Value} {acc : List UInt8} {m : Nat} (h : w.ownsRow B 5 1 v (acc.length + 1) (Lib.byteCells acc ++ [Value.int .u8 ((m : Int) % 128 + 128)])) : w.ownsRow B 5 1 v (acc ++ [UInt8.ofNat (128 + m % 128)]).length (Lib.byteCells (acc ++ [UInt8.ofNat (128 + m % 128)])) := by
  rw [bytes_snoc, ofNat_toNat (by omega), List.length_append]
  rw [show ((m : Int) % 128 + 128) = ((128 + m % 128 : Nat) : Int) by omega] at h
  exact h
theorem put_on {acc t : List UInt8} {m : Nat} (hx : acc ++ numL m = t) (hm : 128 ≤ m) : (acc ++ [UInt8.ofNat (128 + m % 128)]) ++ numL (m / 128) = t := by
  rw [List.append_assoc, List.singleton_append, ← num_more (by omega)]
  exact hx
theorem num_part {acc : List UInt8} {m n : Nat} (h : acc ++ numL m = numL n) (hn : n ≤ 2147483647) : acc.length ≤ 5 := by
  have h5 := num_five hn
  rw [← h, List.length_append] at h5
  omega

set_option maxHeartbeats 1000000 in
theorem Put_not (n : Int) (w : World) (h : n < 0 ∨ 2147483647 < n) :
    Calls Try.prog 123 #[.int .i64 n] w fun e w' => e = .returned (.tuple #[.string ⟨#[]⟩, .int .i64 1]) ∧ w' = w := by
  go_enter Try.func123, Try.ntmps123
  rcases h with h | h
  · go_wp2_with fail
    go_ret2
    exact ⟨rfl, rfl⟩
  · have h0 : ¬ n < 0 := by omega
    go_wp2_with fail
    go_ret2
    exact ⟨rfl, rfl⟩

set_option maxRecDepth 20000 in
set_option maxHeartbeats 2000000 in
theorem Put_aux (n : Nat) (t : List UInt8) (w : World) (hn : n ≤ 2147483647) (HT : Hid (numL n = t)) :
    Calls Try.prog 123 #[.int .i64 n] w fun e w' => e = .returned (.tuple #[.string ⟨t.toArray⟩, .int .i64 0]) ∧ Below w.heap.size w w' := by
  obtain ⟨ib, hib, hb0, hb1, hb2⟩ := info_parts infoByte
  go_enter Try.func123, Try.ntmps123
  have g1 : ¬ (n : Int) < 0 := by omega
  have g2 : ¬ (2147483647 : Int) < n := by omega
  go_wp2_with fail
  have HN : Hid (n ≤ 2147483647) := hn
  clear hn g1 g2
  go_loopw [0, 4] (fun x v wr => ∃ (m : Nat) (acc : List UInt8) (ao : Option Addr) (co : Nat), m ≤ n ∧ x = .int .i64 m ∧ v = .slice ao acc.length co ∧ wr.ownsRow w.heap.size 5 1 (.slice ao acc.length co) acc.length (Lib.byteCells acc) ∧ acc ++ numL m = t ∧ Below w.heap.size w wr) (fun x _ _ => (intOf x).toNat)
  case atStart => exact ⟨n, [], none, 0, Nat.le_refl _, rfl, rfl, World.ownsRow_nil _ _ _ _, by simpa using HT.out, Below.refl _ _⟩
  case round =>
    rename World => wr
    obtain ⟨m, acc, ao, co, hm, rfl, rfl, hown, hx, hb⟩ := hrel
    have hz := hb.size
    have hal := num_part (hx.trans HT.out.symm) HN.out
    have HX : Hid (acc ++ numL m = t) := hx
    have HB : Hid (Below w.heap.size w wr) := hb
    have HO : Hid (wr.ownsRow w.heap.size 5 1 (.slice ao acc.length co) acc.length (Lib.byteCells acc)) := hown
    clear hx hb hown
    by_cases hlt : 128 ≤ m
    · go_wp2_with (at_builtin; refine wpList_append_own _ rfl _ _ 119 rfl w.heap.size 5 ib _ 1 1 Try.underlying119 hib hb0 hb1 hb2 rfl (by decide) _ _ _ rfl (own_alloc HO.out _) ⟨wr.heap.size, 0, none⟩ 1 1 [_] rfl rfl (cell_one_new _ _ _) (by simp [Value.oneCell']) ?c3 ?c4 ?c5 ?_)
      case c3 => unfold maxLen; omega
      case c4 => omega
      case c5 => first | omega | (simp; omega)
      intro v' w2 hown2 hgrow _
      obtain ⟨bo, cb2, rfl⟩ := slice_form' hown2
      have HB2 : Hid (Below w.heap.size w w2) := below_own' (HB.out.alloc hz _) (own_alloc HO.out _) hgrow (by simp; omega)
      have HO2 : Hid (w2.ownsRow w.heap.size 5 1 (.slice bo (acc.length + 1) cb2) (acc ++ [UInt8.ofNat (128 + m % 128)]).length (Lib.byteCells (acc ++ [UInt8.ofNat (128 + m % 128)]))) := put_next hown2
      clear hown2 hgrow
      have hmn : m ≤ 2147483647 := Nat.le_trans hm HN.out
      go_wp2_with fail
      go_roundw
      case rel =>
        refine ⟨m / 128, acc ++ [UInt8.ofNat (128 + m % 128)], bo, cb2, by omega, by first | rfl | go_num, by simp, by have h := HO2.out; rw [List.length_append] at h ⊢; exact h, ?_, HB2.out⟩
        exact put_on HX.out hlt
      case measure => simp [intOf]; omega
    · go_wp2_with (at_builtin; refine wpList_append_own _ rfl _ _ 119 rfl w.heap.size 5 ib _ 1 1 Try.underlying119 hib hb0 hb1 hb2 rfl (by decide) _ _ _ rfl (own_alloc HO.out _) ⟨wr.heap.size, 0, none⟩ 1 1 [_] rfl rfl (cell_one_new _ _ _) (by simp [Value.oneCell']) ?c3 ?c4 ?c5 ?_)
      case c3 => unfold maxLen; omega
      case c4 => omega
      case c5 => first | omega | (simp; omega)
      intro v' w2 hown2 hgrow _
      have HB2 : Hid (Below w.heap.size w w2) := below_own' (HB.out.alloc hz _) (own_alloc HO.out _) hgrow (by simp; omega)
      have hown3 := put_last hown2 HX.out (by omega)
      clear hown2 hgrow
      obtain ⟨g, cb2, rfl, hcv⟩ := text_of hown3 (by rw [← HT.out]; exact num_pos n)
      clear hown3
      go_wp2_with fail
      go_ret2
      exact ⟨rfl, HB2.out⟩
theorem Put_ok (n : Nat) (w : World) (hn : n ≤ 2147483647) :
    Calls Try.prog 123 #[.int .i64 n] w fun e w' => e = .returned (.tuple #[.string ⟨(numL n).toArray⟩, .int .i64 0]) ∧ Below w.heap.size w w' :=
  Put_aux n (numL n) w hn rfl

end Go.Proofs.Ytcghojnmnmmpoaa

/- What the document's own Num answers. -/
namespace Go.Proofs.Ytcghojnmnmmpoaa
open Go.RowKit
set_option linter.unusedSimpArgs false
set_option linter.unusedVariables false

/-- a row of one byte, read as a text -/
theorem one_text {w : World} {g : Nat} {x : Int} {b : UInt8} (h : w.cell? ⟨g, 0, none⟩ = some (.int .u8 x)) (hx : x = b.toNat) :
    (convert 119 9 (.slice (some ⟨g, 0, none⟩) 1 1)).run Try.prog w = .ok (.string ⟨#[b]⟩) w := by
  subst hx
  exact run_convert_bytes_back w 119 9 5 ⟨g, 0, none⟩ 1 [b] Try.underlying119 Try.underlying5 Try.underlying9 (fun j hj => by
    have : j = 0 := by simp at hj; omega
    subst this
    exact h)
theorem cell_new (w : World) (v : Value) (t : TypeId) : (w.alloc (.cells #[v] t)).cell? ⟨w.heap.size, 0, none⟩ = some v := by
  rw [Lib.cell_of_heap (Deep.blk_alloc_new w _)]; rfl

theorem cons_text (c : UInt8) (t : List UInt8) : (⟨#[c]⟩ ++ ⟨t.toArray⟩ : ByteArray) = ⟨(c :: t).toArray⟩ := by
  apply ByteArray.ext
  simp
/-- the row of one byte, behind a call: told only where it was laid ahead of it -/
theorem one_behind {w0 w1 w2 : World} {r : Nat} {c : UInt8} (hb : Below w1.heap.size w1 w2) (hr : c.toNat = 128 + r) :
    w1 = (w0.alloc (.cells #[.int .u8 (128 + (r : Int))] 5)).drew → (convert 119 9 (.slice (some ⟨w0.heap.size, 0, none⟩) 1 1)).run Try.prog w2 = .ok (.string ⟨#[c]⟩) w2 := by
  intro h
  refine one_text (x := 128 + (r : Int)) ?_ (by rw [hr]; omega)
  rw [hb.cell (p := ⟨w0.heap.size, 0, none⟩) (by rw [h]; show w0.heap.size < (w0.heap.push _).size; simp), h]
  exact cell_new _ _ _

end Go.Proofs.Ytcghojnmnmmpoaa

/- What the document's own Unnum answers. -/
namespace Go.Proofs.Ytcghojnmnmmpoaa
open Go.RowKit
set_option linter.unusedSimpArgs false
set_option linter.unusedVariables false

theorem val_drop {l : List UInt8} {j : Nat} {c : UInt8} (h : l[j]? = some c) : valL (l.drop j) = valL (l.drop (j + 1)) * 128 + c.toNat % 128 := by
  rw [drop_cons8 h, valL]; omega
theorem val_drop_lt {l : List UInt8} (hl : l.length ≤ 5) (j : Nat) : valL (l.drop j) < 34359738368 := by
  have h1 := val_lt (l.drop j)
  have h2 : 128 ^ (l.drop j).length ≤ 128 ^ 5 := Nat.pow_le_pow_right (by omega) (by simp; omega)
  have h3 : (128 : Nat) ^ 5 = 34359738368 := by decide
  omega
theorem take_text (s : ByteArray) (k : Nat) : (s.extract 0 k).data.toList = s.data.toList.take k := by
  rw [Lib.extract_data]; simp
theorem text_ne {t : List UInt8} {s : ByteArray} : ((⟨t.toArray⟩ : ByteArray) = s) ↔ t = s.data.toList := by
  constructor
  · intro h; subst h; rfl
  · intro h; subst h; exact str_eq s

end Go.Proofs.Ytcghojnmnmmpoaa
