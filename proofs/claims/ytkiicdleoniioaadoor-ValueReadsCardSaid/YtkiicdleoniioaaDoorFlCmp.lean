/- Floats as values stand as their ranks do. It speaks of no function. -/
import Derived.Test.YtkiicdleoniioaaDoorVals
namespace Go.Proofs.YtkiicdleoniioaaDoor
open Go.RowKit
set_option linter.unusedVariables false
set_option maxRecDepth 100000

abbrev fl (f : Nat) : V := ⟨3, 0, f, ⟨#[]⟩⟩
theorem refText_same (s : ByteArray) : refText s s = 0 := by
  have h : Op.bytesLess s.toList s.toList = false := by
    generalize s.toList = l
    induction l with
    | nil => rfl
    | cons x r ih => simp [Op.bytesLess, ih]
  unfold refText
  rw [h]
  simp
theorem refInts_same (a : Int) : refInts a a = 0 := by
  unfold refInts; rw [if_neg (by omega), if_neg (by omega)]
theorem refCmp_fl (a b : Nat) : refCmp (fl a) (fl b) = refInts (refOrder a) (refOrder b) := by
  unfold refCmp
  simp only [refInts_same, refText_same, ne_eq, not_true, if_false]
  split
  · rfl
  · rename_i h; simpa using Eq.symm (by simpa using h)

theorem refOrder_num (f : Nat) (h : isNaN f = false) (hf : f < 18446744073709551616) : refOrder f = (if f < 9223372036854775808 then fkey f else fkey f - 1) ∧ (f < 9223372036854775808 → fkey f = f) ∧ (¬ f < 9223372036854775808 → fkey f = 9223372036854775808 - (f : Int)) ∧ refOrder f < 9223372036854775807 := by
  have hr : ¬ fI < rung f := of_decide_eq_false h
  have hI : fI = 9218868437227405312 := rfl
  rw [hI] at hr
  unfold refOrder fkey fneg rung fS at *
  rw [h]
  by_cases hs : f < 9223372036854775808
  · have e1 : f % 9223372036854775808 = f := by omega
    have e2 : f / 9223372036854775808 = 0 := by omega
    rw [e1, e2] at *
    simp [hs]
    omega
  · have e1 : f % 9223372036854775808 = f - 9223372036854775808 := by omega
    have e2 : f / 9223372036854775808 = 1 := by omega
    rw [e1, e2] at *
    simp [hs]
    omega
theorem refOrder_nan (f : Nat) (h : isNaN f = true) : refOrder f = 9223372036854775807 := by
  unfold refOrder; rw [h]; rfl
end Go.Proofs.YtkiicdleoniioaaDoor
