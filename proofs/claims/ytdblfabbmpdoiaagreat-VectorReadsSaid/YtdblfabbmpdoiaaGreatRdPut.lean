/- A number that is written is read back: as lists. -/
import Derived.Test.YtdblfabbmpdoiaaGreatRdU
import Derived.Test.YtdblfabbmpdoiaaGreatPut
namespace Go.Proofs.YtdblfabbmpdoiaaGreat
open Go.RowKit
set_option linter.unusedVariables false
set_option linter.unusedSimpArgs false

theorem numGo_put (f : Nat) : ∀ (N k acc : Nat) (r : List UInt8), k + f = 9 → N < 2 * 128 ^ f → (k = 0 ∨ 0 < N) → numGo (putGo f N ++ r) k acc = (0, acc + N * 2 ^ (7 * k), r) := by
  induction f with
  | zero =>
    intro N k acc r hk hN h0
    simp at hN
    have hb : (UInt8.ofNat N).toNat = N := by rw [UInt8.toNat_ofNat']; omega
    simp only [putGo, List.singleton_append, numGo, hb]
    rw [if_neg (by omega), if_pos (by omega)]
  | succ f ih =>
    intro N k acc r hk hN h0
    have hp : 128 ^ (f + 1) = 128 ^ f * 128 := Nat.pow_succ _ _
    simp only [putGo]
    by_cases h1 : N < 128
    · rw [if_pos h1]
      have hb : (UInt8.ofNat N).toNat = N := by rw [UInt8.toNat_ofNat']; omega
      simp only [List.singleton_append, numGo, hb]
      rw [if_neg (by omega), if_pos h1]
    · rw [if_neg h1]
      have hb : (UInt8.ofNat (N % 128 + 128)).toNat = N % 128 + 128 := by rw [UInt8.toNat_ofNat']; omega
      simp only [List.cons_append, numGo, hb]
      rw [if_neg (by omega), if_neg (by omega), ih (N / 128) (k + 1) _ r (by omega) (by omega) (by omega), show N % 128 + 128 - 128 = N % 128 from by omega]
      have e : 2 ^ (7 * (k + 1)) = 128 * 2 ^ (7 * k) := by rw [show 7 * (k + 1) = 7 * k + 7 from by omega, Nat.pow_add]; omega
      rw [e]
      generalize 2 ^ (7 * k) = P
      have : N * P = (128 * (N / 128) + N % 128) * P := by rw [Nat.div_add_mod]
      rw [this, Nat.add_mul, Nat.mul_comm 128 (N / 128), Nat.mul_assoc]
      simp only [Prod.mk.injEq, true_and, and_true]
      omega
theorem rdU_put (N most : Nat) (r : List UInt8) (hN : N < 18446744073709551616) (hm : N ≤ most) : rdU (putU N ++ r) most = (0, N, r) := by
  have h := numGo_put 9 N 0 0 r rfl (by have : 2 * 128 ^ 9 = 18446744073709551616 := by decide
                                        omega) (.inl rfl)
  unfold rdU putU
  rw [h]
  simp only [Nat.mul_zero, Nat.pow_zero, Nat.mul_one, Nat.zero_add]
  rw [if_neg (by simp), if_neg (by omega)]
end Go.Proofs.YtdblfabbmpdoiaaGreat
