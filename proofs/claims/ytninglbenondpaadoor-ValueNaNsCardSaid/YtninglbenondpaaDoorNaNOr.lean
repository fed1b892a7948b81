/- Bits set by 'or' make a NaN: for quirelaw2.ValueNaNs. -/
import Derived.Test.YtninglbenondpaaDoorIeee
namespace Go.Proofs.YtninglbenondpaaDoor
set_option linter.unusedVariables false

/-- A word with the bits of a NaN set is a NaN. -/
theorem nan_or (a c : Nat) (hc : fI < c % fS) : isNaN (a ||| c) = true := by
  refine decide_eq_true ?_
  show fI < (a ||| c) % fS
  have e : fS = 2 ^ 63 := by decide
  rw [e] at hc ⊢
  rw [Nat.or_mod_two_pow]
  exact Nat.lt_of_lt_of_le hc Nat.right_le_or
theorem nan_or_pos (a : Nat) : isNaN (a ||| 9218868437227405313) = true := nan_or a _ (by decide)
theorem nan_or_neg (a : Nat) : isNaN (a ||| 18442240474082181121) = true := nan_or a _ (by decide)
/-- A word stays a word. -/
theorem or_word (a c : Nat) (ha : a < 18446744073709551616) (hc : c < 18446744073709551616) : a ||| c < 18446744073709551616 := by
  have := Nat.or_lt_two_pow (n := 64) (x := a) (y := c) (by omega) (by omega)
  omega
end Go.Proofs.YtninglbenondpaaDoor
