/- The sum of doubles is the same either way round. It speaks of no program. -/
import Derived.Test.YtkiicdleoniioaaDoorFSum
namespace Go.Proofs.YtkiicdleoniioaaDoor
open Go.RowKit
set_option linter.unusedVariables false

theorem sum_comm (a b : Ieee.Datum) : a.sum b = b.sum a := by
  cases a with
  | nan s f => cases b <;> rfl
  | infinity s =>
    cases b with
    | nan t g => rfl
    | infinity t =>
      by_cases h : s = t
      · subst h; rfl
      · simp only [Ieee.Datum.sum, if_neg h, if_neg (fun e => h (Eq.symm e))]
    | number t n j => rfl
  | number s m i =>
    cases b with
    | nan t g => rfl
    | infinity t => rfl
    | number t n j => simp only [Ieee.Datum.sum, Int.min_comm i j, Int.add_comm (Ieee.signed s m _), Bool.and_comm s t]
theorem add_comm_bits (x y : Nat) : Ieee.double.add x y = Ieee.double.add y x := by
  unfold Ieee.Format.add; rw [sum_comm]
theorem sumBits_comm (x y : Nat) : sumBits x y = sumBits y x := by
  unfold sumBits; rw [add_comm_bits]
theorem refAdd_comm (a b : V) : refAdd a b = refAdd b a := by
  unfold refAdd
  rw [Bool.and_comm (isNum a), Bool.and_comm (a.k == 2), Int.add_comm a.n, sumBits_comm (vFloat a)]
theorem refBits_idem (f : Nat) : refBits (refBits f) = refBits f := by
  unfold refBits
  cases h : isNaN f
  · simp [h]
  · simp only [if_true]
    have : isNaN nanBits = true := by decide +kernel
    rw [this]; rfl
theorem refClean_idem (v : V) : refClean (refClean v) = refClean v := by
  obtain ⟨k, n, f, s⟩ := v
  unfold refClean
  by_cases h : k = 3 <;> simp [h, refBits_idem]
end Go.Proofs.YtkiicdleoniioaaDoor
