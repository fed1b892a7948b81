/- The contracts of quireref2: Bits, Bits. -/
import Derived.Test.YtninglbenondpaaDoorIeee
import Derived.Test.YtninglbenondpaaDoorLib
import Derived.Test.YtninglbenondpaaDoorProg
import Derived.Laws.BitsAllLaws
import Derived.Deep.RegionHeld
namespace Go.Proofs.YtninglbenondpaaDoor
open Go.RowKit
set_option linter.unusedVariables false

theorem f64bits_run (b : Nat) (w : World) : (callFunc 20 #[.float .f64 b]).run Tryd.prog w = .ok (.value (.int .u64 b)) w := by kernel_rfl
theorem f64frombits_run (b : Nat) (w : World) : (callFunc 12 #[.int .u64 b]).run Tryd.prog w = .ok (.value (.float .f64 b)) w := by kernel_rfl

/-- f != f: just where f is a NaN. -/
theorem self_neq (b : Nat) : (FloatKind.f64.format.order b b != some Ordering.eq) = isNaN b := by
  show (Ieee.double.order b b != some Ordering.eq) = isNaN b
  rw [order_double]
  cases h : isNaN b
  · simp
  · simp

def nanBits : Nat := 9221120237041090560
def refBits (f : Nat) : Nat := if isNaN f then nanBits else f

set_option maxHeartbeats 400000 in
theorem ref_bits (f : Nat) (w : World) : Calls Tryd.prog 48 #[.float .f64 f] w fun e w' => e = .returned (.int .u64 (refBits f)) ∧ w' = w := by
  have h1 := f64bits_run
  have h2 := self_neq f
  cases h : isNaN f
  · rw [h] at h2
    have HE : Hid (refBits f = f) := by simp [Hid, refBits, h]
    go_enter Tryd.func48, Tryd.ntmps48
    go_wp2
    go_ret
    exact ⟨congrArg (fun x : Nat => Ending.returned (.int .u64 x)) HE.out.symm, rfl⟩
  · rw [h] at h2
    have HE : Hid (refBits f = nanBits) := by simp [Hid, refBits, h]
    go_enter Tryd.func48, Tryd.ntmps48
    go_wp2
    go_ret
    exact ⟨congrArg (fun x : Nat => Ending.returned (.int .u64 x)) HE.out.symm, rfl⟩
end Go.Proofs.YtninglbenondpaaDoor
