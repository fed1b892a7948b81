/- Unlike values have unlike texts and bytes. It speaks of no program. -/
import Derived.Test.YtaihofkmcpcjeaaDoorOrdLaws
import Derived.Test.YtaihofkmcpcjeaaDoorPart4
import Derived.Test.YtaihofkmcpcjeaaDoorPart2
import Derived.Test.YtaihofkmcpcjeaaDoorPart7
import Derived.Lib.ItoaNum
namespace Go.Proofs.YtaihofkmcpcjeaaDoor
open Go.RowKit
set_option linter.unusedVariables false
set_option linter.unusedSimpArgs false
set_option maxRecDepth 10000

/-! ### Digits -/
def decVal (l : List UInt8) : Nat := l.foldl (fun a d => a * 10 + (d.toNat - 48)) 0
theorem decVal_snoc (l : List UInt8) (d : UInt8) : decVal (l ++ [d]) = decVal l * 10 + (d.toNat - 48) := by
  unfold decVal; rw [List.foldl_append]; rfl
theorem digit_toNat (d : Nat) (h : d < 10) : (UInt8.ofNat (48 + d)).toNat = 48 + d := by
  rw [UInt8.toNat_ofNat']; omega
theorem decDigits_val (u : Nat) : decVal (Go.Lib.decDigits u) = u ∧ Go.Lib.decDigits u ≠ [] ∧ ∀ c ∈ Go.Lib.decDigits u, 48 ≤ c.toNat ∧ c.toNat < 58 := by
  induction u using Nat.strongRecOn with
  | ind u ih =>
    rw [Go.Lib.decDigits]
    by_cases h : u < 10
    · rw [dif_pos h]
      have hd := digit_toNat u h
      refine ⟨?_, by simp, ?_⟩
      · show 0 * 10 + ((UInt8.ofNat (48 + u)).toNat - 48) = u
        rw [hd]; omega
      · intro c hc
        rw [List.mem_singleton] at hc
        subst hc; rw [hd]; omega
    · rw [dif_neg h]
      obtain ⟨h1, h2, h3⟩ := ih (u / 10) (by omega)
      have hd := digit_toNat (u % 10) (Nat.mod_lt _ (by decide))
      refine ⟨?_, by simp, ?_⟩
      · rw [decVal_snoc, h1, hd]; omega
      · intro c hc
        rw [List.mem_append] at hc
        rcases hc with hc | hc
        · exact h3 c hc
        · rw [List.mem_singleton] at hc
          subst hc; rw [hd]; omega
theorem itoa_inj {a b : Int} (h : Go.Lib.itoa a = Go.Lib.itoa b) : a = b := by
  unfold Go.Lib.itoa at h
  have no : ∀ u (l : List UInt8), Go.Lib.decDigits u ≠ 45 :: l := by
    intro u l e
    have := (decDigits_val u).2.2 45 (by rw [e]; simp)
    have h45 : (45 : UInt8).toNat = 45 := rfl
    omega
  by_cases ha : a < 0 <;> by_cases hb : b < 0
  · rw [if_pos ha, if_pos hb] at h
    have := congrArg decVal (List.cons.inj h).2
    rw [(decDigits_val _).1, (decDigits_val _).1] at this; omega
  · rw [if_pos ha, if_neg hb] at h; exact absurd h.symm (no _ _)
  · rw [if_neg ha, if_pos hb] at h; exact absurd h (no _ _)
  · rw [if_neg ha, if_neg hb] at h
    have := congrArg decVal h
    rw [(decDigits_val _).1, (decDigits_val _).1] at this; omega

/-! ### Quotes -/
theorem quoteGo_inj {a b : List UInt8} (h : quoteGo a = quoteGo b) : a = b := by
  induction a generalizing b with
  | nil =>
    cases b with
    | nil => rfl
    | cons d ds => simp only [quoteGo] at h; split at h <;> cases h
  | cons c cs ih =>
    cases b with
    | nil => simp only [quoteGo] at h; split at h <;> cases h
    | cons d ds =>
      simp only [quoteGo] at h
      by_cases hc : c = 34 ∨ c = 92 <;> by_cases hd : d = 34 ∨ d = 92
      · rw [if_pos hc, if_pos hd] at h
        injection h with _ h; injection h with h1 h2
        rw [h1, ih h2]
      · rw [if_pos hc, if_neg hd] at h
        injection h with h1 h2
        exact absurd (.inr h1.symm) hd
      · rw [if_neg hc, if_pos hd] at h
        injection h with h1 h2
        exact absurd (.inr h1) hc
      · rw [if_neg hc, if_neg hd] at h
        injection h with h1 h2
        rw [h1, ih h2]

/-! ### Numbers in bytes: none begins another -/
theorem putGo_free {f : Nat} {n m : Nat} {x y : List UInt8} (hn : n < 2 * 128 ^ f) (hm : m < 2 * 128 ^ f) (h : putGo f n ++ x = putGo f m ++ y) : n = m ∧ x = y := by
  induction f generalizing n m with
  | zero =>
    simp only [putGo, List.singleton_append] at h
    injection h with h1 h2
    have := congrArg UInt8.toNat h1
    rw [UInt8.toNat_ofNat', UInt8.toNat_ofNat'] at this
    simp at hn hm
    exact ⟨by omega, h2⟩
  | succ f ih =>
    simp only [putGo] at h
    have hp : 128 ^ (f + 1) = 128 ^ f * 128 := Nat.pow_succ _ _
    by_cases h1 : n < 128 <;> by_cases h2 : m < 128
    · rw [if_pos h1, if_pos h2] at h
      simp only [List.singleton_append] at h
      injection h with e1 e2
      have := congrArg UInt8.toNat e1
      rw [UInt8.toNat_ofNat', UInt8.toNat_ofNat'] at this
      exact ⟨by omega, e2⟩
    · rw [if_pos h1, if_neg h2] at h
      simp only [List.singleton_append, List.cons_append] at h
      injection h with e1 e2
      have := congrArg UInt8.toNat e1
      rw [UInt8.toNat_ofNat', UInt8.toNat_ofNat'] at this
      omega
    · rw [if_neg h1, if_pos h2] at h
      simp only [List.singleton_append, List.cons_append] at h
      injection h with e1 e2
      have := congrArg UInt8.toNat e1
      rw [UInt8.toNat_ofNat', UInt8.toNat_ofNat'] at this
      omega
    · rw [if_neg h1, if_neg h2] at h
      simp only [List.cons_append] at h
      injection h with e1 e2
      have := congrArg UInt8.toNat e1
      rw [UInt8.toNat_ofNat', UInt8.toNat_ofNat'] at this
      obtain ⟨e3, e4⟩ := ih (by omega) (by omega) e2
      exact ⟨by omega, e4⟩
theorem putU_free {n m : Nat} {x y : List UInt8} (hn : n < 18446744073709551616) (hm : m < 18446744073709551616) (h : putU n ++ x = putU m ++ y) : n = m ∧ x = y :=
  putGo_free (f := 9) (by have : 2 * 128 ^ 9 = 18446744073709551616 := by decide
                          omega) (by have : 2 * 128 ^ 9 = 18446744073709551616 := by decide
                                     omega) h
theorem unzz_inj {a b : Int} (h : unzz a = unzz b) : a = b := by
  unfold unzz at h; split at h <;> split at h <;> omega
theorem mod_pows {b n m : Nat} (k : Nat) (h : ∀ j, j < k → n / b ^ j % b = m / b ^ j % b) : n % b ^ k = m % b ^ k := by
  induction k with
  | zero => simp [Nat.mod_one]
  | succ k ih => rw [Nat.mod_pow_succ, Nat.mod_pow_succ, ih (fun j hj => h j (by omega)), h k (by omega)]
theorem putF_inj {n m : Nat} (hn : n < 18446744073709551616) (hm : m < 18446744073709551616) (h : putF n = putF m) : n = m := by
  have key : ∀ j, j < 8 → n / 256 ^ j % 256 = m / 256 ^ j % 256 := by
    intro j hj
    have e := congrArg (fun l => l[7 - j]?) h
    simp only [putF, List.getElem?_map, List.getElem?_range (show 7 - j < 8 by omega), Option.map_some, Option.some.injEq] at e
    have e2 := congrArg UInt8.toNat e
    rw [UInt8.toNat_ofNat', UInt8.toNat_ofNat'] at e2
    have e3 : (2 : Nat) ^ (56 - 8 * (7 - j)) = 256 ^ j := by rw [show (256 : Nat) = 2 ^ 8 from rfl, ← Nat.pow_mul]; congr 1; omega
    rw [e3] at e2
    exact e2
  have := mod_pows (b := 256) 8 key
  rw [show (256 : Nat) ^ 8 = 18446744073709551616 from by decide, Nat.mod_eq_of_lt hn, Nat.mod_eq_of_lt hm] at this
  exact this
end Go.Proofs.YtaihofkmcpcjeaaDoor
