/- What is written is read back: as lists. It speaks of no program. -/
import Derived.Test.YtaihofkmcpcjeaaDoorInt
import Derived.Test.YtaihofkmcpcjeaaDoorFixed
import Derived.Test.YtaihofkmcpcjeaaDoorText
import Derived.Test.YtaihofkmcpcjeaaDoorPart7
import Derived.Test.YtaihofkmcpcjeaaDoorVWrite
namespace Go.Proofs.YtaihofkmcpcjeaaDoor
open Go.RowKit
set_option linter.unusedVariables false
set_option linter.unusedSimpArgs false

theorem numGo_put (f : Nat) : ∀ (N k acc : Nat) (r : List UInt8), k + f = 9 → N < 2 * 128 ^ f → (k = 0 ∨ 0 < N) → numGo (putGo f N ++ r) k acc = (0, acc + N * 2 ^ (7 * k), r) := by
  induction f with
  | zero =>
    intro N k acc r hk hN h0
    simp at hN
    have hb : (UInt8.ofNat N).toNat = N := by rw [UInt8.toNat_ofNat']; omega
    simp only [putGo, List.singleton_append, numGo, hb]
    rw [if_neg (by omega), if_pos (by omega)]
  | succ f ih =>
    intro N k acc r hk hN h0
    have hp : 128 ^ (f + 1) = 128 ^ f * 128 := Nat.pow_succ _ _
    simp only [putGo]
    by_cases h1 : N < 128
    · rw [if_pos h1]
      have hb : (UInt8.ofNat N).toNat = N := by rw [UInt8.toNat_ofNat']; omega
      simp only [List.singleton_append, numGo, hb]
      rw [if_neg (by omega), if_pos h1]
    · rw [if_neg h1]
      have hb : (UInt8.ofNat (N % 128 + 128)).toNat = N % 128 + 128 := by rw [UInt8.toNat_ofNat']; omega
      simp only [List.cons_append, numGo, hb]
      rw [if_neg (by omega), if_neg (by omega), ih (N / 128) (k + 1) _ r (by omega) (by omega) (by omega), show N % 128 + 128 - 128 = N % 128 from by omega]
      have e : 2 ^ (7 * (k + 1)) = 128 * 2 ^ (7 * k) := by rw [show 7 * (k + 1) = 7 * k + 7 from by omega, Nat.pow_add]; omega
      rw [e]
      generalize 2 ^ (7 * k) = P
      have : N * P = (128 * (N / 128) + N % 128) * P := by rw [Nat.div_add_mod]
      rw [this, Nat.add_mul, Nat.mul_comm 128 (N / 128), Nat.mul_assoc]
      simp only [Prod.mk.injEq, true_and, and_true]
      omega
theorem rdU_put (N most : Nat) (r : List UInt8) (hN : N < 18446744073709551616) (hm : N ≤ most) : rdU (putU N ++ r) most = (0, N, r) := by
  have h := numGo_put 9 N 0 0 r rfl (by have : 2 * 128 ^ 9 = 18446744073709551616 := by decide
                                        omega) (.inl rfl)
  unfold rdU putU
  rw [h]
  simp only [Nat.mul_zero, Nat.pow_zero, Nat.mul_one, Nat.zero_add]
  rw [if_neg (by simp), if_neg (by omega)]
theorem zz_unzz (n : Int) : zz (unzz n) = n := by
  unfold zz unzz
  split <;> split <;> omega
theorem unzz_lt (n : Int) (h0 : -9223372036854775808 ≤ n) (h1 : n < 9223372036854775808) : unzz n < 18446744073709551616 := by
  unfold unzz; split <;> omega
theorem be_putF_take (n : Nat) (hn : n < 18446744073709551616) (k : Nat) (hk : k ≤ 8) : be ((putF n).take k) = n / 2 ^ (64 - 8 * k) := by
  induction k with
  | zero =>
    simp only [List.take_zero]
    show 0 = _
    rw [Nat.div_eq_of_lt]
    rw [show (2 : Nat) ^ (64 - 8 * 0) = 18446744073709551616 from by decide]; exact hn
  | succ k ih =>
    rw [putF_snoc n k (by omega), be_snoc, ih (by omega), UInt8.toNat_ofNat']
    have e : (2 : Nat) ^ (64 - 8 * k) = 2 ^ (64 - 8 * (k + 1)) * 256 := by
      rw [show (256 : Nat) = 2 ^ 8 from rfl, ← Nat.pow_add]; congr 1; omega
    rw [show 56 - 8 * k = 64 - 8 * (k + 1) from by omega, e, ← Nat.div_div_eq_div_mul]
    generalize n / 2 ^ (64 - 8 * (k + 1)) = x
    have : (2 : Nat) ^ 8 = 256 := rfl
    omega
theorem be_putF (n : Nat) (hn : n < 18446744073709551616) : be (putF n) = n := by
  have h := be_putF_take n hn 8 (Nat.le_refl _)
  rw [List.take_of_length_le (by rw [putF_length]; exact Nat.le_refl _)] at h
  rw [h]; simp

theorem rdByte_put (b : UInt8) (r : List UInt8) : rdByte (b :: r) 0 = (0, .int .u8 b.toNat, r) := rfl
theorem rdInt_put (n : Int) (r : List UInt8) (h0 : -9223372036854775808 ≤ n) (h1 : n < 9223372036854775808) : rdInt (putU (unzz n) ++ r) 0 = (0, .int .i64 n, r) := by
  unfold rdInt
  rw [rdU_put _ _ _ (unzz_lt n h0 h1) (by have := unzz_lt n h0 h1; omega), zz_unzz]
  rfl
theorem rdFixed_put (g : Nat) (r : List UInt8) (hg : g < 18446744073709551616) : rdFixed (putF g ++ r) 0 = (0, .int .u64 g, r) := by
  unfold rdFixed
  have hl := putF_length g
  rw [List.length_append, hl, if_neg (by omega), List.drop_left' hl, List.take_left' hl, be_putF g hg]
  rfl
theorem rdText_put (s : ByteArray) (r : List UInt8) (hs : s.size ≤ 4096) : rdText (putT s ++ r) 0 4096 = (0, .string s, r) := by
  unfold rdText putT
  have hl : s.data.toList.length = s.size := rfl
  rw [List.append_assoc, rdU_put s.size 4096 _ (by omega) hs]
  simp only [ne_eq, not_true, if_false]
  rw [List.length_append, hl, if_neg (by omega), List.drop_left' hl, List.take_left' hl]
  rfl
end Go.Proofs.YtaihofkmcpcjeaaDoor
