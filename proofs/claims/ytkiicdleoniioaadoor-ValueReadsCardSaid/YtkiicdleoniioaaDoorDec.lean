/- The contract of quireref2.Dec: decimal digits. -/
import Derived.Test.YtkiicdleoniioaaDoorLib
import Derived.Test.YtkiicdleoniioaaDoorProg
import Derived.Laws.Concat
import Derived.Laws.BitsAllLaws
namespace Go.Proofs.YtkiicdleoniioaaDoor
open Go.RowKit
set_option linter.unusedVariables false

/-- Decimal digits ahead of what is there. -/
def decGo : Nat → Nat → ByteArray → ByteArray
  | 0, _, out => out
  | f + 1, n, out => if n / 10 = 0 then ⟨#[UInt8.ofNat (48 + n % 10)]⟩ ++ out else decGo f (n / 10) (⟨#[UInt8.ofNat (48 + n % 10)]⟩ ++ out)
def refDec (n : Int) : ByteArray := (if n < 0 then ⟨#[45]⟩ else ⟨#[]⟩) ++ decGo 20 n.natAbs ⟨#[]⟩

theorem digit_cut (d : Nat) (h : d < 10) : (ByteArray.mk #[48, 49, 50, 51, 52, 53, 54, 55, 56, 57]).extract d (d + 1) = ⟨#[UInt8.ofNat (48 + d)]⟩ := by
  have h' : d = 0 ∨ d = 1 ∨ d = 2 ∨ d = 3 ∨ d = 4 ∨ d = 5 ∨ d = 6 ∨ d = 7 ∨ d = 8 ∨ d = 9 := by omega
  rcases h' with rfl | rfl | rfl | rfl | rfl | rfl | rfl | rfl | rfl | rfl <;> decide +kernel

end Go.Proofs.YtkiicdleoniioaaDoor
