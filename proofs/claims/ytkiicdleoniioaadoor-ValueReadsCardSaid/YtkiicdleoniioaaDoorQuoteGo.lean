/- Bytes between marks, as lists. It speaks of no program. -/
import Derived.WalkKit
namespace Go.Proofs.YtkiicdleoniioaaDoor
open Go.RowKit
set_option linter.unusedVariables false

/-- Bytes with a stroke ahead of each mark and stroke. -/
def quoteGo : List UInt8 → List UInt8
  | [] => []
  | c :: cs => if c = 34 ∨ c = 92 then 92 :: c :: quoteGo cs else c :: quoteGo cs
theorem quoteGo_append (a b : List UInt8) : quoteGo (a ++ b) = quoteGo a ++ quoteGo b := by
  induction a with
  | nil => rfl
  | cons c cs ih =>
    simp only [List.cons_append, quoteGo, ih]
    split <;> rfl
theorem quoteGo_length (a : List UInt8) : (quoteGo a).length ≤ 2 * a.length := by
  induction a with
  | nil => simp [quoteGo]
  | cons c cs ih =>
    simp only [quoteGo]
    split <;> simp <;> omega
def refQuote (s : ByteArray) : ByteArray := ⟨(34 :: quoteGo s.data.toList ++ [34]).toArray⟩
end Go.Proofs.YtkiicdleoniioaaDoor
