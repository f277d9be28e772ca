/- What num.Get answers. -/
import Derived.Test.YtgffippimmokiaaPtOwn
import Derived.Test.YtgffippimmokiaaCodeFinds
import Derived.Deep.RegionWith
import Derived.BigQuiet
import Derived.Deep.RegionHeld3
namespace Go.Proofs.Ytgffippimmokiaa
open Go.RowKit
set_option linter.unusedSimpArgs false
set_option linter.unusedVariables false

/-- one byte more, at place k -/
theorem get_add {s : List UInt8} {k : Nat} {c : UInt8} (h : s[k]? = some c) (p : Nat) (hp : p = 128 ^ k) : valL (s.take (k + 1)) = valL (s.take k) + p * (c.toNat % 128) := by
  have hk := (List.getElem?_eq_some_iff.1 h).1
  rw [take_snoc8 h, val_snoc, hp, show (s.take k).length = k by simp; omega]
theorem val_bound {s : List UInt8} {k : Nat} (hk : k ≤ 5) : valL (s.take k) < 34359738368 := by
  have h1 := val_lt (s.take k)
  have h2 : 128 ^ (s.take k).length ≤ 128 ^ 5 := Nat.pow_le_pow_right (by omega) (by simp; omega)
  have h3 : (128 : Nat) ^ 5 = 34359738368 := by decide
  omega

theorem get_shift {k x : Nat} (hk : k ≤ 4) (hx : x < 128) : wrap64 ((x : Int) * 2 ^ (7 * k)) = ((128 ^ k * x : Nat) : Int) ∧ 128 ^ k * x < 34359738368 := by
  have h3 : 128 ^ k ≤ 268435456 := by
    have h2 : (128 : Nat) ^ k ≤ 128 ^ 4 := Nat.pow_le_pow_right (by omega) hk
    have h3 : (128 : Nat) ^ 4 = 268435456 := by decide
    omega
  have h4 : 128 ^ k * x < 34359738368 := by
    have := Nat.mul_le_mul h3 (show x ≤ 127 by omega)
    omega
  refine ⟨?_, h4⟩
  have h6 : (x : Int) * 2 ^ (7 * k) = ((128 ^ k * x : Nat) : Int) := by
    rw [Int.pow_mul, show ((2 : Int) ^ 7) = ((128 : Nat) : Int) by decide, ← Int.natCast_pow, Int.mul_comm]
    exact (Int.natCast_mul _ _).symm
  rw [h6, IntWalk.wrap64_in _ ⟨by omega, by omega⟩]

set_option maxRecDepth 20000 in
set_option maxHeartbeats 2000000 in
theorem Get_any (s : ByteArray) (w : World) (hs : s.size ≤ 9223372036854775807) :
    Calls Try.prog 143 #[.string s] w fun e w' => e = .returned (.tuple #[.int .i64 (getN s.data.toList), .int .i64 (getK s.data.toList), .int .i64 (getE s.data.toList)]) ∧ w' = w := by
  have hl : s.data.toList.length = s.size := Array.length_toList
  obtain ⟨l, hll⟩ : ∃ l, s.data.toList = l := ⟨_, rfl⟩
  obtain ⟨q, hq⟩ : ∃ q, min s.size 5 = q := ⟨_, rfl⟩
  have hqm : (Builtin.min_ #[3, 3] 3 #[.int .i64 s.size, .int .i64 5]).run Try.prog w = .ok (.int .i64 (q : Int)) w := by
    rw [run_min_int2]
    congr 2
    split <;> omega
  go_enter Try.func143, Try.ntmps143
  go_wp2_with fail
  go_loop [5, 10] (fun x i => ∃ k : Nat, k ≤ q ∧ i = .int .i64 k ∧ x = .int .i64 (valL (l.take k) : Nat) ∧ ∀ x ∈ l.take k, bigB x = true) (fun _ i => q - (intOf i).toNat)
  case atStart => exact ⟨0, Nat.zero_le _, rfl, rfl, by simp⟩
  case round =>
    obtain ⟨k, hk, rfl, rfl, ha⟩ := hrel
    have hv := val_bound (s := l) (k := k) (by omega)
    obtain ⟨v, hvv⟩ : ∃ v, valL (l.take k) = v := ⟨_, rfl⟩
    rw [hvv] at hv ⊢
    by_cases hlt : k < q
    · obtain ⟨c, hc⟩ : ∃ c, s.data.toList[k]? = some c := ⟨s.data.toList[k]'(by omega), List.getElem?_eq_getElem _⟩
      have hks : k < s.size := by omega
      have hat := at_byte hc hks
      have hcl := UInt8.toNat_lt c
      have hk4 : k ≤ 4 := by omega
      obtain ⟨hsh, hxb⟩ := get_shift (k := k) (x := c.toNat % 128) hk4 (Nat.mod_lt _ (by omega))
      have hcm : ((c.toNat % 128 : Nat) : Int) = (c.toNat : Int) % 128 := by omega
      rw [hcm] at hsh
      have HV : Hid (valL (l.take (k + 1)) = v + 128 ^ k * (c.toNat % 128)) := by show _ = _; rw [← hvv]; exact get_add (hll ▸ hc) _ rfl
      obtain ⟨y, hy⟩ : ∃ y, 128 ^ k * (c.toNat % 128) = y := ⟨_, rfl⟩
      rw [hy] at hsh hxb
      have HY : Hid _ := hy
      have HH : Hid _ := hvv
      have HA : Hid _ := ha
      have HC : Hid (l[k]? = some c) := hll ▸ hc
      have HL : Hid (s.data.toList = l) := hll
      have HI : Hid (k < 5) := by show _ < _; omega
      clear hvv ha hc hq hl hll hcm hy
      by_cases hbig : 128 ≤ c.toNat
      · go_wp2_with fail
        go_round
        case rel =>
          refine ⟨k + 1, by omega, by go_num, ?_, all_snoc HC.out HA.out (by simpa [bigB] using hbig)⟩
          rw [HV.out, HY.out]; first | rfl | simp
        case measure => simp [intOf]; omega
      · have HG : Hid _ := get_stop HC.out HI.out HA.out (by simpa [bigB] using hbig)
        by_cases hz : 0 < k ∧ c.toNat = 0
        · have hE := HG.out.1 (.inl hz)
          obtain ⟨g1, g2⟩ := get_bad (s := l) (by omega)
          have HE : Hid (getE l = 3 ∧ getN l = 0 ∧ getK l = 0) := ⟨hE, g1, g2⟩
          obtain ⟨hz1, hz2⟩ := hz
          clear hE g1 g2 hbig
          go_wp2_with fail
          go_ret3
          exact ⟨by rw [HL.out, HE.out.1, HE.out.2.1, HE.out.2.2]; rfl, rfl⟩
        · by_cases hgt : 2147483647 < v + y
          · have hE := HG.out.1 (.inr (by rw [HV.out, HY.out]; exact hgt))
            obtain ⟨g1, g2⟩ := get_bad (s := l) (by omega)
            have HE : Hid (getE l = 3 ∧ getN l = 0 ∧ getK l = 0) := ⟨hE, g1, g2⟩
            clear hE g1 g2
            by_cases hk0 : 0 < k
            · have hc1 : ¬ c.toNat = 0 := fun h => hz ⟨hk0, h⟩
              have hc0 : ((c.toNat : Int) == 0) = false := by rw [beq_eq_false_iff_ne]; omega
              clear hc1
              clear hz
              go_wp2_with fail
              go_ret3
              exact ⟨by rw [HL.out, HE.out.1, HE.out.2.1, HE.out.2.2]; rfl, rfl⟩
            · clear hz
              go_wp2_with fail
              go_ret3
              exact ⟨by rw [HL.out, HE.out.1, HE.out.2.1, HE.out.2.2]; rfl, rfl⟩
          · have hE := HG.out.2 (by rw [HV.out, HY.out]; omega)
            rw [HV.out, HY.out] at hE
            have HE : Hid (getE l = 0 ∧ getN l = v + y ∧ getK l = k + 1) := hE
            clear hE
            by_cases hk0 : 0 < k
            · have hc1 : ¬ c.toNat = 0 := fun h => hz ⟨hk0, h⟩
              have hc0 : ((c.toNat : Int) == 0) = false := by rw [beq_eq_false_iff_ne]; omega
              clear hc1
              clear hz
              go_wp2_with fail
              go_ret3
              exact ⟨by rw [HL.out, HE.out.1, HE.out.2.1, HE.out.2.2]; simp, rfl⟩
            · clear hz
              go_wp2_with fail
              go_ret3
              exact ⟨by rw [HL.out, HE.out.1, HE.out.2.1, HE.out.2.2]; simp, rfl⟩
    · have hkq : k = q := by omega
      by_cases h5 : 5 ≤ s.size
      · have hE : getE l = 3 := get_long (by rw [← hll, hl]; exact h5) (by rw [show 5 = k by omega]; exact ha)
        obtain ⟨g1, g2⟩ := get_bad (s := l) (by omega)
        have HE : Hid (getE l = 3 ∧ getN l = 0 ∧ getK l = 0) := ⟨hE, g1, g2⟩
        have HL : Hid (s.data.toList = l) := hll
        clear hE g1 g2 hq ha hvv hll hl
        go_wp2_with fail
        go_ret3
        exact ⟨by rw [HL.out, HE.out.1, HE.out.2.1, HE.out.2.2]; rfl, rfl⟩
      · have hE : getE l = 5 := get_short (by rw [← hll, hl]; omega) (by rw [show l.length = k by rw [← hll, hl]; omega]; exact ha)
        obtain ⟨g1, g2⟩ := get_bad (s := l) (by omega)
        have HE : Hid (getE l = 5 ∧ getN l = 0 ∧ getK l = 0) := ⟨hE, g1, g2⟩
        have HL : Hid (s.data.toList = l) := hll
        clear hE g1 g2 hq ha hvv hll hl
        go_wp2_with fail
        go_ret3
        exact ⟨by rw [HL.out, HE.out.1, HE.out.2.1, HE.out.2.2]; rfl, rfl⟩
end Go.Proofs.Ytgffippimmokiaa

/- What num.Put answers. -/
namespace Go.Proofs.Ytgffippimmokiaa
open Go.RowKit
set_option linter.unusedSimpArgs false
set_option linter.unusedVariables false

theorem u8_of {x : Int} {n : Nat} (h : x = n) (hn : n < 256) : Value.int .u8 (IntKind.u8.wrap x) = Value.int .u8 ((UInt8.ofNat n).toNat : Int) := by
  rw [ofNat_toNat hn, h, IntKind.wrap_u8]
  congr 1; omega
theorem bytes_snoc (l : List UInt8) (c : UInt8) : Lib.byteCells (l ++ [c]) = Lib.byteCells l ++ [Value.int .u8 (c.toNat : Int)] := by simp [Lib.byteCells]
/-- a row of bytes, read as a text -/
theorem text_of {w : World} {B : Nat} {v : Value} {l : List UInt8} (h : w.ownsRow B 5 1 v l.length (Lib.byteCells l)) (hl : 0 < l.length) : ∃ g cap, v = .slice (some ⟨g, 0, none⟩) l.length cap ∧
    (convert 134 9 (.slice (some ⟨g, 0, none⟩) l.length cap)).run Try.prog w = .ok (.string ⟨l.toArray⟩) w := by
  obtain ⟨g, cap, rfl, _⟩ := own_at (j := 0) (u := .int .u8 (l[0].toNat : Int)) h (by simp [Lib.byteCells, hl])
  exact ⟨g, cap, rfl, run_convert_bytes_back w 134 9 5 ⟨g, 0, none⟩ cap l Try.underlying134 Try.underlying5 Try.underlying9 (fun j hj => text_at h j hj)⟩
theorem put_last {w : World} {B : Nat} {v : Value} {acc t : List UInt8} {m : Nat} (h : w.ownsRow B 5 1 v (acc.length + 1) (Lib.byteCells acc ++ [Value.int .u8 (m : Int)])) (hx : acc ++ numL m = t) (hm : m < 128) : w.ownsRow B 5 1 v t.length (Lib.byteCells t) := by
  subst hx
  rw [num_small hm, bytes_snoc, ofNat_toNat (by omega), List.length_append]
  exact h
theorem put_next {w : World} {B : Nat} {v : Value} {acc : List UInt8} {m : Nat} (h : w.ownsRow B 5 1 v (acc.length + 1) (Lib.byteCells acc ++ [Value.int .u8 ((m : Int) % 128 + 128)])) : w.ownsRow B 5 1 v (acc ++ [UInt8.ofNat (128 + m % 128)]).length (Lib.byteCells (acc ++ [UInt8.ofNat (128 + m % 128)])) := by
  rw [bytes_snoc, ofNat_toNat (by omega), List.length_append]
  rw [show ((m : Int) % 128 + 128) = ((128 + m % 128 : Nat) : Int) by omega] at h
  exact h
theorem put_on {acc t : List UInt8} {m : Nat} (hx : acc ++ numL m = t) (hm : 128 ≤ m) : (acc ++ [UInt8.ofNat (128 + m % 128)]) ++ numL (m / 128) = t := by
  rw [List.append_assoc, List.singleton_append, ← num_more (by omega)]
  exact hx
theorem num_part {acc : List UInt8} {m n : Nat} (h : acc ++ numL m = numL n) (hn : n ≤ 2147483647) : acc.length ≤ 5 := by
  have h5 := num_five hn
  rw [← h, List.length_append] at h5
  omega

set_option maxHeartbeats 1000000 in
theorem Put_not (n : Int) (w : World) (h : n < 0 ∨ 2147483647 < n) :
    Calls Try.prog 119 #[.int .i64 n] w fun e w' => e = .returned (.tuple #[.string ⟨#[]⟩, .int .i64 1]) ∧ w' = w := by
  go_enter Try.func119, Try.ntmps119
  rcases h with h | h
  · go_wp2_with fail
    go_ret2
    exact ⟨rfl, rfl⟩
  · have h0 : ¬ n < 0 := by omega
    go_wp2_with fail
    go_ret2
    exact ⟨rfl, rfl⟩

set_option maxRecDepth 20000 in
set_option maxHeartbeats 2000000 in
theorem Put_aux (n : Nat) (t : List UInt8) (w : World) (hn : n ≤ 2147483647) (HT : Hid (numL n = t)) :
    Calls Try.prog 119 #[.int .i64 n] w fun e w' => e = .returned (.tuple #[.string ⟨t.toArray⟩, .int .i64 0]) ∧ Below w.heap.size w w' := by
  obtain ⟨ib, hib, hb0, hb1, hb2⟩ := info_parts infoByte
  go_enter Try.func119, Try.ntmps119
  have g1 : ¬ (n : Int) < 0 := by omega
  have g2 : ¬ (2147483647 : Int) < n := by omega
  go_wp2_with fail
  have HN : Hid (n ≤ 2147483647) := hn
  clear hn g1 g2
  go_loopw [0, 4] (fun x v wr => ∃ (m : Nat) (acc : List UInt8) (ao : Option Addr) (co : Nat), m ≤ n ∧ x = .int .i64 m ∧ v = .slice ao acc.length co ∧ wr.ownsRow w.heap.size 5 1 (.slice ao acc.length co) acc.length (Lib.byteCells acc) ∧ acc ++ numL m = t ∧ Below w.heap.size w wr) (fun x _ _ => (intOf x).toNat)
  case atStart => exact ⟨n, [], none, 0, Nat.le_refl _, rfl, rfl, World.ownsRow_nil _ _ _ _, by simpa using HT.out, Below.refl _ _⟩
  case round =>
    rename World => wr
    obtain ⟨m, acc, ao, co, hm, rfl, rfl, hown, hx, hb⟩ := hrel
    have hz := hb.size
    have hal := num_part (hx.trans HT.out.symm) HN.out
    have HX : Hid (acc ++ numL m = t) := hx
    have HB : Hid (Below w.heap.size w wr) := hb
    have HO : Hid (wr.ownsRow w.heap.size 5 1 (.slice ao acc.length co) acc.length (Lib.byteCells acc)) := hown
    clear hx hb hown
    by_cases hlt : 128 ≤ m
    · go_wp2_with (at_builtin; refine wpList_append_own _ rfl _ _ 134 rfl w.heap.size 5 ib _ 1 1 Try.underlying134 hib hb0 hb1 hb2 rfl (by decide) _ _ _ rfl (own_alloc HO.out _) ⟨wr.heap.size, 0, none⟩ 1 1 [_] rfl rfl (cell_one_new _ _ _) (by simp [Value.oneCell']) ?c3 ?c4 ?c5 ?_)
      case c3 => unfold maxLen; omega
      case c4 => omega
      case c5 => first | omega | (simp; omega)
      intro v' w2 hown2 hgrow _
      obtain ⟨bo, cb2, rfl⟩ := slice_form' hown2
      have HB2 : Hid (Below w.heap.size w w2) := below_own' (HB.out.alloc hz _) (own_alloc HO.out _) hgrow (by simp; omega)
      have HO2 : Hid (w2.ownsRow w.heap.size 5 1 (.slice bo (acc.length + 1) cb2) (acc ++ [UInt8.ofNat (128 + m % 128)]).length (Lib.byteCells (acc ++ [UInt8.ofNat (128 + m % 128)]))) := put_next hown2
      clear hown2 hgrow
      have hmn : m ≤ 2147483647 := Nat.le_trans hm HN.out
      go_wp2_with fail
      go_roundw
      case rel =>
        refine ⟨m / 128, acc ++ [UInt8.ofNat (128 + m % 128)], bo, cb2, by omega, by first | rfl | go_num, by simp, by have h := HO2.out; rw [List.length_append] at h ⊢; exact h, ?_, HB2.out⟩
        exact put_on HX.out hlt
      case measure => simp [intOf]; omega
    · go_wp2_with (at_builtin; refine wpList_append_own _ rfl _ _ 134 rfl w.heap.size 5 ib _ 1 1 Try.underlying134 hib hb0 hb1 hb2 rfl (by decide) _ _ _ rfl (own_alloc HO.out _) ⟨wr.heap.size, 0, none⟩ 1 1 [_] rfl rfl (cell_one_new _ _ _) (by simp [Value.oneCell']) ?c3 ?c4 ?c5 ?_)
      case c3 => unfold maxLen; omega
      case c4 => omega
      case c5 => first | omega | (simp; omega)
      intro v' w2 hown2 hgrow _
      have HB2 : Hid (Below w.heap.size w w2) := below_own' (HB.out.alloc hz _) (own_alloc HO.out _) hgrow (by simp; omega)
      have hown3 := put_last hown2 HX.out (by omega)
      clear hown2 hgrow
      obtain ⟨g, cb2, rfl, hcv⟩ := text_of hown3 (by rw [← HT.out]; exact num_pos n)
      clear hown3
      go_wp2_with fail
      go_ret2
      exact ⟨rfl, HB2.out⟩
theorem Put_ok (n : Nat) (w : World) (hn : n ≤ 2147483647) :
    Calls Try.prog 119 #[.int .i64 n] w fun e w' => e = .returned (.tuple #[.string ⟨(numL n).toArray⟩, .int .i64 0]) ∧ Below w.heap.size w w' :=
  Put_aux n (numL n) w hn rfl

end Go.Proofs.Ytgffippimmokiaa

/- What the document's own Num answers. -/
namespace Go.Proofs.Ytgffippimmokiaa
open Go.RowKit
set_option linter.unusedSimpArgs false
set_option linter.unusedVariables false

/-- a row of one byte, read as a text -/
theorem one_text {w : World} {g : Nat} {x : Int} {b : UInt8} (h : w.cell? ⟨g, 0, none⟩ = some (.int .u8 x)) (hx : x = b.toNat) :
    (convert 134 9 (.slice (some ⟨g, 0, none⟩) 1 1)).run Try.prog w = .ok (.string ⟨#[b]⟩) w := by
  subst hx
  exact run_convert_bytes_back w 134 9 5 ⟨g, 0, none⟩ 1 [b] Try.underlying134 Try.underlying5 Try.underlying9 (fun j hj => by
    have : j = 0 := by simp at hj; omega
    subst this
    exact h)
theorem cell_new (w : World) (v : Value) (t : TypeId) : (w.alloc (.cells #[v] t)).cell? ⟨w.heap.size, 0, none⟩ = some v := by
  rw [Lib.cell_of_heap (Deep.blk_alloc_new w _)]; rfl

theorem cons_text (c : UInt8) (t : List UInt8) : (⟨#[c]⟩ ++ ⟨t.toArray⟩ : ByteArray) = ⟨(c :: t).toArray⟩ := by
  apply ByteArray.ext
  simp
/-- the row of one byte, behind a call: told only where it was laid ahead of it -/
theorem one_behind {w0 w1 w2 : World} {r : Nat} {c : UInt8} (hb : Below w1.heap.size w1 w2) (hr : c.toNat = 128 + r) :
    w1 = (w0.alloc (.cells #[.int .u8 (128 + (r : Int))] 5)).drew → (convert 134 9 (.slice (some ⟨w0.heap.size, 0, none⟩) 1 1)).run Try.prog w2 = .ok (.string ⟨#[c]⟩) w2 := by
  intro h
  refine one_text (x := 128 + (r : Int)) ?_ (by rw [hr]; omega)
  rw [hb.cell (p := ⟨w0.heap.size, 0, none⟩) (by rw [h]; show w0.heap.size < (w0.heap.push _).size; simp), h]
  exact cell_new _ _ _

set_option maxRecDepth 20000 in
set_option maxHeartbeats 2000000 in
theorem RNum_any (n : Nat) (w : World) (hn : n ≤ 9223372036854775807) :
    Calls Try.prog 131 #[.int .i64 n] w fun e w' => e = .returned (.string ⟨(numL n).toArray⟩) ∧ Below w.heap.size w w' := by
  induction n using Nat.strongRecOn generalizing w with
  | _ n ih =>
    by_cases h1 : n < 128
    · have hcv1 : ∀ w : World, (convert 134 9 (.slice (some ⟨w.heap.size, 0, none⟩) 1 1)).run Try.prog (w.alloc (.cells #[.int .u8 (n : Int)] 5)) = .ok (.string ⟨#[UInt8.ofNat n]⟩) (w.alloc (.cells #[.int .u8 (n : Int)] 5)) := fun w => one_text (cell_new _ _ _) (by rw [ofNat_toNat (by omega)])
      have HN : Hid (numL n = [UInt8.ofNat n]) := num_small h1
      clear ih
      go_enter Try.func131, Try.ntmps131
      go_wp2_with fail
      go_ret
      exact ⟨by rw [HN.out]; rfl, (Below.refl _ _).alloc (Nat.le_refl _) _⟩
    · have IH : Hid _ := ih (n / 128) (by omega)
      obtain ⟨r, hr⟩ : ∃ r, n % 128 = r := ⟨_, rfl⟩
      obtain ⟨m, hm⟩ : ∃ m, n / 128 = m := ⟨_, rfl⟩
      obtain ⟨c, hc⟩ : ∃ c, UInt8.ofNat (128 + r) = c := ⟨_, rfl⟩
      have HC : Hid (c.toNat = 128 + r) := by show _ = _; rw [← hc]; exact ofNat_toNat (by omega)
      have ht : (n : Int).tmod 128 = (r : Int) := by rw [Int.tmod_eq_emod_of_nonneg (by omega)]; omega
      have hw1 : IntKind.i64.wrap (128 + (r : Int)) = 128 + (r : Int) := IntWalk.i64_in _ ⟨by omega, by omega⟩
      have hw2 : IntKind.u8.wrap (128 + (r : Int)) = 128 + (r : Int) := by rw [IntKind.wrap_u8]; omega
      have hd : IntKind.i64.wrap ((n : Int) / 128) = (m : Int) := by rw [IntWalk.i64_in _ ⟨by omega, by omega⟩]; omega
      have hcv2 : ∀ w : World, (convert 134 9 (.slice (some ⟨w.heap.size, 0, none⟩) 1 1)).run Try.prog (w.alloc (.cells #[.int .u8 (128 + (r : Int))] 5)).drew = .ok (.string ⟨#[c]⟩) (w.alloc (.cells #[.int .u8 (128 + (r : Int))] 5)).drew := fun w => one_text (cell_new _ _ _) (by have := HC.out; omega)
      have hcv1 : ∀ w : World, (convert 134 9 (.slice (some ⟨w.heap.size, 0, none⟩) 1 1)).run Try.prog (w.alloc (.cells #[.int .u8 (128 + (r : Int))] 5)) = .ok (.string ⟨#[c]⟩) (w.alloc (.cells #[.int .u8 (128 + (r : Int))] 5)) := fun w => one_text (cell_new _ _ _) (by have := HC.out; omega)
      have HN : Hid (numL n = c :: numL m) := by show _ = _; rw [num_more h1, hr, hm, hc]
      rw [hm] at IH
      have hmn : m ≤ 9223372036854775807 := by omega
      obtain ⟨t, htt⟩ : ∃ t, numL m = t := ⟨_, rfl⟩
      rw [htt] at IH HN
      have htl : t.length ≤ 9 := by rw [← htt]; exact num_len (k := 8) (by omega)
      clear ih hr hm htt hc
      go_enter Try.func131, Try.ntmps131
      go_wp2_with fail
      go_region_with (go_at_call 131; refine (IH.out _ hmn).mono ?_; rintro e w2 ⟨rfl, hb2⟩; have hcv3 := one_behind (r := r) (w0 := w) hb2 HC.out)
      all_goals
        go_wp2_with fail
        go_ret
        refine ⟨?_, ?_⟩
        · show Ending.returned (.string (⟨#[c]⟩ ++ ⟨t.toArray⟩)) = _
          rw [HN.out, cons_text]
        · first
            | exact (((Below.refl _ w).alloc (Nat.le_refl _) _).drew).trans (hb2.mono (by show w.heap.size ≤ (w.heap.push _).size; simp))
            | exact (((Below.refl _ w).drew).trans hb2).alloc (by have := hb2.size; exact this) _

end Go.Proofs.Ytgffippimmokiaa

/- What the document's own Unnum answers. -/
namespace Go.Proofs.Ytgffippimmokiaa
open Go.RowKit
set_option linter.unusedSimpArgs false
set_option linter.unusedVariables false

theorem val_drop {l : List UInt8} {j : Nat} {c : UInt8} (h : l[j]? = some c) : valL (l.drop j) = valL (l.drop (j + 1)) * 128 + c.toNat % 128 := by
  rw [drop_cons8 h, valL]; omega
theorem val_drop_lt {l : List UInt8} (hl : l.length ≤ 5) (j : Nat) : valL (l.drop j) < 34359738368 := by
  have h1 := val_lt (l.drop j)
  have h2 : 128 ^ (l.drop j).length ≤ 128 ^ 5 := Nat.pow_le_pow_right (by omega) (by simp; omega)
  have h3 : (128 : Nat) ^ 5 = 34359738368 := by decide
  omega
theorem take_text (s : ByteArray) (k : Nat) : (s.extract 0 k).data.toList = s.data.toList.take k := by
  rw [Lib.extract_data]; simp
theorem text_ne {t : List UInt8} {s : ByteArray} : ((⟨t.toArray⟩ : ByteArray) = s) ↔ t = s.data.toList := by
  constructor
  · intro h; subst h; rfl
  · intro h; subst h; exact str_eq s

set_option maxRecDepth 20000 in
set_option maxHeartbeats 4000000 in
theorem RUnnum_any (s : ByteArray) (w : World) (hs : s.size ≤ 9223372036854775807) :
    Calls Try.prog 110 #[.string s] w fun e w' => e = .returned (.tuple #[.int .i64 (getN s.data.toList), .int .i64 (getK s.data.toList), .int .i64 (getE s.data.toList)]) ∧ Below w.heap.size w w' := by
  obtain ⟨l, hll⟩ : ∃ l, s.data.toList = l := ⟨_, rfl⟩
  have hl : l.length = s.size := by rw [← hll]; exact Array.length_toList
  have HLL : Hid (s.data.toList = l) := hll
  have HL : Hid (l.length = s.size) := hl
  rw [hll]
  go_enter Try.func110, Try.ntmps110
  go_wp2_with fail
  clear hll hl
  go_loop [5] (fun i => ∃ k : Nat, k ≤ s.size ∧ i = .int .i64 k ∧ ∀ x ∈ l.take k, bigB x = true) (fun i => s.size - (intOf i).toNat)
  case atStart => exact ⟨0, Nat.zero_le _, rfl, by simp⟩
  case round =>
    obtain ⟨k, hk, rfl, ha⟩ := hrel
    have HA : Hid _ := ha
    clear ha
    by_cases hlt : k < s.size
    · obtain ⟨c, hc⟩ : ∃ c, s.data.toList[k]? = some c := ⟨s.data.toList[k]'(by rw [HLL.out, HL.out]; exact hlt), List.getElem?_eq_getElem _⟩
      have hat := at_byte hc hlt
      have hcl := UInt8.toNat_lt c
      have HC : Hid (l[k]? = some c) := by show _ = _; rw [← HLL.out]; exact hc
      clear hc
      by_cases hbig : 128 ≤ c.toNat
      · go_wp2_with fail
        go_round
        case rel => exact ⟨k + 1, by omega, by go_num, all_snoc HC.out HA.out (by simpa [bigB] using hbig)⟩
        case measure => simp [intOf]; omega
      · have HR : Hid (runN l = k) := run_here HC.out HA.out (by simpa [bigB] using hbig)
        by_cases h5 : 5 ≤ k
        · have hE : getE l = 3 := by rw [getE, HR.out, if_pos h5]
          obtain ⟨g1, g2⟩ := get_bad (s := l) (by omega)
          have HE : Hid (getE l = 3 ∧ getN l = 0 ∧ getK l = 0) := ⟨hE, g1, g2⟩
          clear hE g1 g2
          go_wp2_with fail
          go_ret3
          exact ⟨by rw [HE.out.1, HE.out.2.1, HE.out.2.2]; rfl, Below.refl _ _⟩
        · have hne : ((k : Int) == (s.size : Int)) = false := by rw [beq_eq_false_iff_ne]; omega
          have HT : Hid ((l.take (k + 1)).length = k + 1) := by show _ = _; rw [List.length_take, HL.out]; omega
          go_wp2_with fail
          go_loop [6, 7] (fun n i => ∃ j : Nat, j ≤ k + 1 ∧ i = .int .i64 ((j : Int) - 1) ∧ n = .int .i64 (valL ((l.take (k + 1)).drop j) : Nat)) (fun _ i => (intOf i + 1).toNat)
          case atStart => exact ⟨k + 1, Nat.le_refl _, by congr 1; omega, by rw [List.drop_of_length_le (by rw [HT.out]; exact Nat.le_refl _)]; rfl⟩
          case round =>
            obtain ⟨j, hj, rfl, rfl⟩ := hrel
            obtain ⟨v, hv⟩ : ∃ v, valL ((l.take (k + 1)).drop j) = v := ⟨_, rfl⟩
            have hvb : v < 34359738368 := by rw [← hv]; exact val_drop_lt (by rw [HT.out]; omega) j
            have HV : Hid _ := hv
            rw [hv]
            clear hv
            cases j with
            | zero =>
              have HV0 : Hid (valL (l.take (k + 1)) = v) := by have := HV.out; rwa [List.drop_zero] at this
              have HE0 : Hid (getE l = if v ≤ 2147483647 ∧ numL v = l.take (k + 1) then 0 else 3) := by
                show _ = _
                rw [getE, HR.out, if_neg h5, if_neg (by rw [HL.out]; omega), HV0.out]
              rw [show (((0 : Nat) : Int) - 1) = -1 by omega]
              by_cases hgt : 2147483647 < v
              · have hE : getE l = 3 := by rw [HE0.out, if_neg (by omega)]
                obtain ⟨g1, g2⟩ := get_bad (s := l) (by omega)
                have HE : Hid (getE l = 3 ∧ getN l = 0 ∧ getK l = 0) := ⟨hE, g1, g2⟩
                clear hE g1 g2
                have hgd : decide ((2147483647 : Int) < (v : Int)) = true := by rw [decide_eq_true_iff]; omega
                go_wp2_with fail
                go_quiet (fail)
                go_wp2_with fail
                go_ret3
                exact ⟨by rw [HE.out.1, HE.out.2.1, HE.out.2.2]; rfl, below_drewN (Below.refl _ _) _⟩
              · have hgd : decide ((2147483647 : Int) < (v : Int)) = false := by rw [decide_eq_false_iff_not]; omega
                have wk : IntKind.i64.wrap ((k : Int) + 1) = (k : Int) + 1 := IntWalk.i64_in _ ⟨by omega, by omega⟩
                have k0 : (0 : Int) ≤ (k : Int) + 1 := by omega
                have k1 : (k : Int) + 1 ≤ (s.size : Int) := by omega
                have hRN : Hid _ := fun w => RNum_any v w (by omega)
                obtain ⟨t, ht⟩ : ∃ t, numL v = t := ⟨_, rfl⟩
                rw [ht] at hRN HE0
                clear ht
                go_wp2_with fail
                go_region_held3 (fun _ => True) (trivial) (first | (go_at_call 131; refine (hRN.out _).mono ?_; rintro e w2 ⟨rfl, hb2⟩))
                all_goals
                  have HB2 : Hid (Below w.heap.size w w2) := ((Below.refl _ w).drew).trans hb2
                  clear hb2
                  by_cases heq : t = l.take (k + 1)
                  · have hx : (t == (s.extract 0 (k + 1)).toList) = true := by rw [ByteArray.toList_eq, take_text, HLL.out, heq]; exact beq_self_eq_true _
                    have hE : getE l = 0 := by rw [HE0.out, if_pos ⟨by omega, heq⟩]
                    obtain ⟨g1, g2⟩ := get_good hE
                    rw [HR.out, HV0.out] at g1
                    rw [HR.out] at g2
                    have HE : Hid (getE l = 0 ∧ getN l = v ∧ getK l = k + 1) := ⟨hE, g1, g2⟩
                    clear hE g1 g2 heq
                    try simp only [hx, Bool.not_true, Bool.not_false]
                    clear hx
                    go_wp2_with fail
                    go_ret3
                    exact ⟨by rw [HE.out.1, HE.out.2.1, HE.out.2.2]; first | rfl | simp, HB2.out⟩
                  · have hx : (t == (s.extract 0 (k + 1)).toList) = false := by rw [ByteArray.toList_eq, take_text, HLL.out]; exact beq_eq_false_iff_ne.2 heq
                    have hE : getE l = 3 := by rw [HE0.out, if_neg (fun h => heq h.2)]
                    obtain ⟨g1, g2⟩ := get_bad (s := l) (by omega)
                    have HE : Hid (getE l = 3 ∧ getN l = 0 ∧ getK l = 0) := ⟨hE, g1, g2⟩
                    clear hE g1 g2 heq
                    try simp only [hx, Bool.not_true, Bool.not_false]
                    clear hx
                    go_wp2_with fail
                    go_ret3
                    exact ⟨by rw [HE.out.1, HE.out.2.1, HE.out.2.2]; rfl, HB2.out⟩
            | succ j =>
              obtain ⟨d, hd⟩ : ∃ d, s.data.toList[j]? = some d := ⟨s.data.toList[j]'(by rw [HLL.out, HL.out]; omega), List.getElem?_eq_getElem _⟩
              have hjs : j < s.size := by omega
              have hat2 := at_byte hd hjs
              have hdl := UInt8.toNat_lt d
              have HD : Hid ((l.take (k + 1))[j]? = some d) := by
                show _ = _
                rw [List.getElem?_take_of_lt (by omega), ← HLL.out]; exact hd
              clear hd
              rw [show (((j + 1 : Nat) : Int) - 1) = (j : Int) by omega]
              go_wp2_with fail
              go_round
              case rel =>
                refine ⟨j, by omega, by first | rfl | go_num, ?_⟩
                rw [val_drop HD.out, HV.out]
                first | rfl | (congr 1; omega)
              case measure => simp [intOf] <;> omega
    · have hkk : k = s.size := by omega
      have HR : Hid (runN l = k ∧ l.length = k) := by
        have h1 : l.take k = l := List.take_of_length_le (by rw [HL.out]; omega)
        have h2 := HA.out
        rw [h1] at h2
        exact ⟨by rw [run_all h2, HL.out, hkk], by rw [HL.out, hkk]⟩
      by_cases h5 : 5 ≤ k
      · have hE : getE l = 3 := by rw [getE, HR.out.1, if_pos h5]
        obtain ⟨g1, g2⟩ := get_bad (s := l) (by omega)
        have HE : Hid (getE l = 3 ∧ getN l = 0 ∧ getK l = 0) := ⟨hE, g1, g2⟩
        clear hE g1 g2
        go_wp2_with fail
        go_ret3
        exact ⟨by rw [HE.out.1, HE.out.2.1, HE.out.2.2]; rfl, Below.refl _ _⟩
      · have hE : getE l = 5 := by rw [getE, HR.out.1, if_neg h5, if_pos HR.out.2.symm]
        obtain ⟨g1, g2⟩ := get_bad (s := l) (by omega)
        have HE : Hid (getE l = 5 ∧ getN l = 0 ∧ getK l = 0) := ⟨hE, g1, g2⟩
        clear hE g1 g2
        go_wp2_with fail
        go_ret3
        exact ⟨by rw [HE.out.1, HE.out.2.1, HE.out.2.2]; rfl, Below.refl _ _⟩

end Go.Proofs.Ytgffippimmokiaa
