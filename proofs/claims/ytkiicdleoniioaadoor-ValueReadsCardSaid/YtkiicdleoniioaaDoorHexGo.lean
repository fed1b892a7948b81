/- A word in sixteen digits, as a list. It speaks of no program. -/
import Derived.WalkKit
namespace Go.Proofs.YtkiicdleoniioaaDoor
set_option linter.unusedVariables false

def hexDigits : List UInt8 := [48, 49, 50, 51, 52, 53, 54, 55, 56, 57, 97, 98, 99, 100, 101, 102]
/-- The k highest of sixteen digits. -/
def hexGo (n : Nat) (k : Nat) : List UInt8 := (List.range k).map fun j => hexDigits.getD (n / 16 ^ (15 - j) % 16) 0
theorem hexGo_succ (n k : Nat) : hexGo n (k + 1) = hexGo n k ++ [hexDigits.getD (n / 16 ^ (15 - k) % 16) 0] := by
  unfold hexGo; rw [List.range_succ, List.map_append]; rfl
theorem hexGo_length (n k : Nat) : (hexGo n k).length = k := by simp [hexGo]
end Go.Proofs.YtkiicdleoniioaaDoor
