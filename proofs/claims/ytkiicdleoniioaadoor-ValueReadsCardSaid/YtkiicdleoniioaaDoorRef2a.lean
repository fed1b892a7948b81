/- The contracts of quireref2: Bits, Bits. -/
import Derived.Test.YtkiicdleoniioaaDoorIeee
import Derived.Test.YtkiicdleoniioaaDoorLib
import Derived.Test.YtkiicdleoniioaaDoorProg
import Derived.Laws.BitsAllLaws
import Derived.Deep.RegionHeld
namespace Go.Proofs.YtkiicdleoniioaaDoor
open Go.RowKit
set_option linter.unusedVariables false

theorem f64bits_run (b : Nat) (w : World) : (callFunc 20 #[.float .f64 b]).run Tryd.prog w = .ok (.value (.int .u64 b)) w := by kernel_rfl
theorem f64frombits_run (b : Nat) (w : World) : (callFunc 14 #[.int .u64 b]).run Tryd.prog w = .ok (.value (.float .f64 b)) w := by kernel_rfl

/-- f != f: just where f is a NaN. -/
theorem self_neq (b : Nat) : (FloatKind.f64.format.order b b != some Ordering.eq) = isNaN b := by
  show (Ieee.double.order b b != some Ordering.eq) = isNaN b
  rw [order_double]
  cases h : isNaN b
  · simp
  · simp

def nanBits : Nat := 9221120237041090560
def refBits (f : Nat) : Nat := if isNaN f then nanBits else f

end Go.Proofs.YtkiicdleoniioaaDoor
