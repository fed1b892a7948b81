/- Sums of doubles at noughts: x + -x, x + -0; whole numbers as doubles. It speaks of no program. -/
import Derived.Test.YtaihofkmcpcjeabDoorFSum
namespace Go.Proofs.YtaihofkmcpcjeabDoor
open Go.RowKit
set_option linter.unusedVariables false
set_option maxRecDepth 10000

theorem lp_eq : Ieee.double.leastPlace = -1074 := by decide
theorem fb_eq : Ieee.double.fractionBits = 52 := rfl
def mOf (r : Nat) : Nat := if r < fB then r else fB + r % fB
def kOf (r : Nat) : Nat := if r < fB then 0 else r / fB - 1
theorem read_word {x : Nat} (h : rung x < fI) : Ieee.double.read x = .number (fneg x) (mOf (rung x)) (Ieee.double.leastPlace + (kOf (rung x) : Int)) := by
  unfold Ieee.Format.read
  simp only [binade_eq, infRung_eq, signWeight_eq]
  show (if rung x < fB then _ else if rung x < fI then _ else if rung x = fI then _ else _) = _
  unfold mOf kOf
  by_cases h1 : rung x < fB
  · rw [if_pos h1, if_pos h1, if_pos h1]; simp; exact ⟨rfl, rfl⟩
  · rw [if_neg h1, if_neg h1, if_neg h1, if_pos h]; rfl

theorem xor_low (f : Nat) (h : f < 2 ^ 63) : f ^^^ 2 ^ 63 = 2 ^ 63 + f := by
  have e := Nat.two_pow_add_eq_or_of_lt (i := 63) (b := f) h 1
  rw [Nat.mul_one] at e
  rw [e]
  apply Nat.eq_of_testBit_eq
  intro i
  rw [Nat.testBit_xor, Nat.testBit_or, Nat.testBit_two_pow]
  by_cases hi : 63 = i
  · subst hi
    rw [Nat.testBit_lt_two_pow h]; rfl
  · rw [decide_eq_false hi]; simp
theorem xor_high (g : Nat) (h : g < 2 ^ 63) : (2 ^ 63 + g) ^^^ 2 ^ 63 = g := by
  rw [← xor_low g h, Nat.xor_assoc, Nat.xor_self, Nat.xor_zero]
theorem two63' : (2 : Nat) ^ 63 = 9223372036854775808 := by decide
theorem neg_rung (f : Nat) (h : f < 18446744073709551616) : rung (f ^^^ 2 ^ 63) = rung f ∧ fneg (f ^^^ 2 ^ 63) = !fneg f ∧ f ^^^ 2 ^ 63 < 18446744073709551616 := by
  unfold rung fneg fS
  by_cases hs : f < 9223372036854775808
  · rw [xor_low f (by rw [two63']; exact hs), two63']
    have e1 : (9223372036854775808 + f) / 9223372036854775808 % 2 = 1 := by omega
    have e2 : f / 9223372036854775808 % 2 = 0 := by omega
    rw [e1, e2]
    exact ⟨by omega, rfl, by omega⟩
  · obtain ⟨g, rfl⟩ : ∃ g, f = 2 ^ 63 + g := ⟨f - 9223372036854775808, by rw [two63']; omega⟩
    rw [two63'] at h hs
    have hg : g < 9223372036854775808 := by omega
    rw [xor_high g (by rw [two63']; exact hg), two63']
    have e1 : (9223372036854775808 + g) / 9223372036854775808 % 2 = 1 := by omega
    have e2 : g / 9223372036854775808 % 2 = 0 := by omega
    rw [e1, e2]
    exact ⟨by omega, rfl, by omega⟩

/-- x + -x is 0. -/
theorem add_neg (f : Nat) (h : f < 18446744073709551616) (hr : rung f < fI) : Ieee.double.add f (f ^^^ 2 ^ 63) = some 0 := by
  obtain ⟨e1, e2, _⟩ := neg_rung f h
  unfold Ieee.Format.add
  rw [read_word hr, read_word (x := f ^^^ 2 ^ 63) (by rw [e1]; exact hr), e1, e2]
  simp only [Ieee.Datum.sum, Int.min_self, Int.sub_self, Int.toNat_zero, signed_eq]
  have : sgn (fneg f) (mOf (rung f) * 2 ^ 0) + sgn (!fneg f) (mOf (rung f) * 2 ^ 0) = 0 := by
    cases fneg f <;> simp [sgn] <;> omega
  rw [this]
  simp only [Int.natAbs_zero, if_true, Option.map_some, Ieee.Format.write, Ieee.Format.nearest, Bool.and_not_self]
  rfl

theorem rung_eq (f : Nat) (h : f < 18446744073709551616) : f = (if fneg f then fS + rung f else rung f) := by
  unfold fneg rung fS
  by_cases hs : f < 9223372036854775808
  · have e : f / 9223372036854775808 % 2 = 0 := by omega
    rw [e]; simp; omega
  · have e : f / 9223372036854775808 % 2 = 1 := by omega
    rw [e]; simp; omega

theorem cut_exact (s : Bool) (m k : Nat) (hm : 0 < m) : Ieee.Toward.even.cut s (m * 2 ^ k) k = m := by
  unfold Ieee.Toward.cut
  have hk : k ≤ (m * 2 ^ k).log2 + 2 := by
    have : k ≤ (m * 2 ^ k).log2 := by
      rw [Nat.le_log2 (by have := Nat.two_pow_pos k; exact Nat.ne_of_gt (Nat.mul_pos hm this))]
      exact Nat.le_mul_of_pos_left _ hm
    omega
  have hg : 1 <<< min k ((m * 2 ^ k).log2 + 2) = 2 ^ k := by rw [Nat.min_eq_left hk, Nat.one_shiftLeft]
  simp only [hg, Nat.mul_mod_left, Nat.mul_div_cancel _ (Nat.two_pow_pos k)]
  have hp := Nat.two_pow_pos k
  have e1 : decide (2 ^ k < 2 * 0) = false := decide_eq_false (by omega)
  have e2 : (2 ^ k == 2 * 0) = false := by rw [beq_eq_false_iff_ne]; omega
  rw [e1, e2]; rfl

/-- A double's own size is nearest to itself. -/
theorem nearest_self (s : Bool) (r : Nat) (h : r < fI) : Ieee.double.nearest s (mOf r * 2 ^ kOf r) Ieee.double.leastPlace = if s then fS + r else r := by
  unfold Ieee.Format.nearest
  rw [binade_eq, infRung_eq, fb_eq, lp_eq]
  have hw : ∀ r, Ieee.double.word s r = if s then fS + r else r := fun r => by unfold Ieee.Format.word; rw [signWeight_eq]
  by_cases h0 : r = 0
  · subst h0
    rw [if_pos (by decide), hw]
  have hB : fB = 4503599627370496 := rfl
  have hp := Nat.two_pow_pos (kOf r)
  have hm : 0 < mOf r := by unfold mOf; split <;> omega
  rw [if_neg (Nat.ne_of_gt (Nat.mul_pos hm hp))]
  by_cases h1 : r < fB
  · have em : mOf r = r := if_pos h1
    have ek : kOf r = 0 := if_pos h1
    rw [em, ek, Nat.pow_zero, Nat.mul_one]
    have hl : r.log2 < 52 := (Nat.log2_lt h0).2 (by rw [hB] at h1; omega)
    have e1 : max ((-1074 : Int) + (r.log2 : Int) - ((52 : Nat) : Int)) (-1074) = -1074 := by omega
    simp only [e1, Int.sub_self, Int.toNat_zero, Nat.shiftLeft_zero, Nat.zero_mul, Nat.zero_add]
    have := cut_exact s r 0 (by omega)
    rw [Nat.pow_zero, Nat.mul_one] at this
    rw [this, Nat.min_eq_left (by omega), hw]
  · have em : mOf r = fB + r % fB := if_neg h1
    have ek : kOf r = r / fB - 1 := if_neg h1
    generalize hk : kOf r = k at *
    have hm2 : mOf r < 9007199254740992 := by rw [em, hB]; omega
    have hm1 : 4503599627370496 ≤ mOf r := by rw [em, hB]; omega
    have hl : (mOf r * 2 ^ k).log2 = 52 + k := by
      have hne : mOf r * 2 ^ k ≠ 0 := Nat.ne_of_gt (Nat.mul_pos hm hp)
      refine Nat.le_antisymm ?_ ?_
      · refine Nat.le_of_lt_succ ((Nat.log2_lt hne).2 ?_)
        show _ < 2 ^ (52 + k + 1)
        rw [show 52 + k + 1 = 53 + k from by omega, Nat.pow_add, show (2 : Nat) ^ 53 = 9007199254740992 from by decide]
        exact Nat.mul_lt_mul_of_pos_right hm2 hp
      · rw [Nat.le_log2 hne, Nat.pow_add, show (2 : Nat) ^ 52 = 4503599627370496 from by decide]
        exact Nat.mul_le_mul_right _ hm1
    rw [hl]
    have e1 : max ((-1074 : Int) + ((52 + k : Nat) : Int) - ((52 : Nat) : Int)) (-1074) = -1074 + (k : Int) := by omega
    have e2 : ((-1074 : Int) - (-1074 + (k : Int))).toNat = 0 := by omega
    have e3 : ((-1074 : Int) + (k : Int) - (-1074)).toNat = k := by omega
    simp only [e1, e2, e3, Nat.shiftLeft_zero]
    rw [cut_exact s (mOf r) k hm]
    have er : k * fB + mOf r = r := by
      rw [em, ek]
      have hd := Nat.div_add_mod r fB
      have hq : 1 ≤ r / fB := (Nat.one_le_div_iff (by decide)).2 (by omega)
      rw [Nat.sub_mul, Nat.one_mul, Nat.mul_comm]
      have : fB ≤ fB * (r / fB) := Nat.le_mul_of_pos_right _ hq
      omega
    rw [er, Nat.min_eq_left (by omega), hw]

/-- x + -0 is x. -/
theorem add_nought (f : Nat) (h : f < 18446744073709551616) (hr : rung f < fI) : Ieee.double.add f 9223372036854775808 = some f := by
  have hz : Ieee.double.read 9223372036854775808 = .number true 0 (Ieee.double.leastPlace + ((0 : Nat) : Int)) := read_word (x := 9223372036854775808) (by decide)
  unfold Ieee.Format.add
  rw [read_word hr, hz]
  have e1 : min (Ieee.double.leastPlace + (kOf (rung f) : Int)) (Ieee.double.leastPlace + ((0 : Nat) : Int)) = Ieee.double.leastPlace := by omega
  have e2 : (Ieee.double.leastPlace + (kOf (rung f) : Int) - Ieee.double.leastPlace).toNat = kOf (rung f) := by omega
  simp only [Ieee.Datum.sum, e1, e2, signed_eq]
  have e3 : sgn true (0 * 2 ^ (Ieee.double.leastPlace + ((0 : Nat) : Int) - Ieee.double.leastPlace).toNat) = 0 := by rw [Nat.zero_mul]; rfl
  rw [e3, Int.add_zero]
  generalize hM : mOf (rung f) * 2 ^ kOf (rung f) = M
  have e4 : (sgn (fneg f) M).natAbs = M := by unfold sgn; split <;> omega
  have e5 : (if sgn (fneg f) M = 0 then (fneg f && true) else decide (sgn (fneg f) M < 0)) = fneg f := by
    by_cases hz : M = 0
    · subst hz
      rw [if_pos (by unfold sgn; split <;> rfl)]; simp
    · rw [if_neg (by unfold sgn; split <;> omega)]
      cases fneg f
      · exact decide_eq_false (by show ¬ ((M : Int) < 0); omega)
      · exact decide_eq_true (by show -(M : Int) < 0; omega)
  rw [e4, e5]
  simp only [Option.map_some, Ieee.Format.write]
  rw [← hM, nearest_self _ _ hr, ← rung_eq f h]

theorem cut_le (s : Bool) (n d : Nat) : Ieee.Toward.even.cut s n d ≤ n / (1 <<< min d (n.log2 + 2)) + 1 := by
  unfold Ieee.Toward.cut
  exact Nat.add_le_add_left (Bool.toNat_le _) _
theorem nearest_small (s : Bool) (M : Nat) (h : M ≤ 9223372036854775808) : Ieee.double.nearest s M 0 < 18446744073709551616 ∧ rung (Ieee.double.nearest s M 0) < fI := by
  have hw : ∀ r, Ieee.double.word s r = if s then fS + r else r := fun r => by unfold Ieee.Format.word; rw [signWeight_eq]
  have key : ∀ r, r < fI → (Ieee.double.word s r < 18446744073709551616 ∧ rung (Ieee.double.word s r) < fI) := by
    intro r hr
    have hr' : r < 9218868437227405312 := hr
    have hS : fS = 9223372036854775808 := rfl
    rw [hw]
    show _ ∧ (if s then fS + r else r) % 9223372036854775808 < 9218868437227405312
    rw [hS]
    split <;> omega
  unfold Ieee.Format.nearest
  rw [binade_eq, infRung_eq, fb_eq, lp_eq]
  by_cases h0 : M = 0
  · rw [if_pos h0]; exact key 0 (by decide)
  rw [if_neg h0]
  have hL : M.log2 < 64 := (Nat.log2_lt h0).2 (by rw [show (2 : Nat) ^ 64 = 18446744073709551616 from by decide]; omega)
  have hM : M < 2 ^ (M.log2 + 1) := Nat.lt_log2_self
  generalize hl : M.log2 = L at *
  have e1 : max ((0 : Int) + (L : Int) - ((52 : Nat) : Int)) (-1074) = (L : Int) - 52 := by omega
  simp only [e1]
  refine key _ (Nat.lt_of_le_of_lt (Nat.min_le_left _ _) ?_)
  have e2 : ((L : Int) - 52 - (-1074)).toNat = L + 1022 := by omega
  rw [e2]
  have hkept : Ieee.Toward.even.cut s (M <<< (0 - ((L : Int) - 52)).toNat) ((L : Int) - 52 - 0).toNat ≤ 9007199254740993 := by
    by_cases h52 : L ≤ 52
    · have e3 : ((L : Int) - 52 - 0).toNat = 0 := by omega
      have e4 : (0 - ((L : Int) - 52)).toNat = 52 - L := by omega
      rw [e3, e4]
      refine Nat.le_trans (cut_le _ _ _) ?_
      rw [Nat.zero_min, Nat.shiftLeft_zero, Nat.div_one, Nat.shiftLeft_eq]
      have : M * 2 ^ (52 - L) < 2 ^ (L + 1) * 2 ^ (52 - L) := Nat.mul_lt_mul_of_pos_right hM (Nat.two_pow_pos _)
      rw [← Nat.pow_add, show L + 1 + (52 - L) = 53 from by omega, show (2 : Nat) ^ 53 = 9007199254740992 from by decide] at this
      omega
    · have e3 : ((L : Int) - 52 - 0).toNat = L - 52 := by omega
      have e4 : (0 - ((L : Int) - 52)).toNat = 0 := by omega
      rw [e3, e4, Nat.shiftLeft_zero]
      refine Nat.le_trans (cut_le _ _ _) ?_
      rw [hl, Nat.min_eq_left (by omega), Nat.one_shiftLeft]
      have : M / 2 ^ (L - 52) < 9007199254740992 := by
        rw [Nat.div_lt_iff_lt_mul (Nat.two_pow_pos _), show (9007199254740992 : Nat) = 2 ^ 53 from by decide, ← Nat.pow_add, show 53 + (L - 52) = L + 1 from by omega]
        exact hM
      omega
  have hI : fI = 9218868437227405312 := rfl
  have hB : fB = 4503599627370496 := rfl
  rw [hI, hB]
  omega
theorem ofInt_fin (n : Int) (h0 : -9223372036854775808 ≤ n) (h1 : n < 9223372036854775808) : floatOfInt .f64 n < 18446744073709551616 ∧ rung (floatOfInt .f64 n) < fI :=
  nearest_small (decide (n < 0)) n.natAbs (by omega)
theorem num_of_rung {f : Nat} (h : rung f < fI) : isNaN f = false := decide_eq_false (by omega)
end Go.Proofs.YtaihofkmcpcjeabDoor
