/- The contract of ids.Has. -/
import Derived.Test.YtdblfabbmpdoiaaOnlyR
namespace Go.Proofs.Ytdblfabbmpdoiaa
open Go.RowKit Go.Shelf
set_option linter.unusedVariables false
set_option linter.unusedSimpArgs false
set_option maxRecDepth 100000
attribute [local go_sem] Oper.semAt_some

def hasB (l : List Rg) (c k : Int) : Bool := (l.filter Rg.ok).any fun r => r.has c k
theorem hasB_turn (l : List Rg) (c k : Int) : hasB l c k = decide (turnOf (tns l) c k = 1) := by
  unfold hasB
  induction l with
  | nil => rfl
  | cons x l ih =>
    have hp := turnOf_pos (tns l) c k
    have hz : turnOf (tns l) c k = 0 ∨ turnOf (tns l) c k = 1 := by
      clear ih hp
      induction l with
      | nil => exact .inl rfl
      | cons x l ih =>
        rw [tns_cons, turnOf]
        have : x.tn.n = 1 := rfl
        split
        · rw [this]; omega
        · exact ih
    rw [tns_cons, turnOf, Rg.tn_ok]
    by_cases h : x.ok = true
    · rw [List.filter_cons_of_pos h, List.any_cons, ih, h]
      simp only [Bool.true_and, Rg.tn_has]
      have : x.tn.n = 1 := rfl
      by_cases g : x.has c k = true
      · rw [if_pos g, g, this]; simp; omega
      · rw [if_neg g]; simp [g]
    · rw [List.filter_cons_of_neg h, ih]; simp [h]
end Go.Proofs.Ytdblfabbmpdoiaa
