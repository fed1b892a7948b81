/- All NaNs are one: in the order, in sums, written and told. It speaks of no function. -/
import Derived.Test.YtninglbenondpaaDoorNaNOr
import Derived.Test.YtninglbenondpaaDoorFSum
import Derived.Test.YtninglbenondpaaDoorFlCmp
import Derived.Test.YtninglbenondpaaDoorVWrite
import Derived.Test.YtninglbenondpaaDoorVText
import Derived.Laws.BitsAllLaws
namespace Go.Proofs.YtninglbenondpaaDoor
open Go.RowKit
set_option linter.unusedVariables false
set_option maxRecDepth 10000

theorem sumBits_nan {x : Nat} (h : isNaN x = true) (y : Nat) : sumBits x y = nanBits := by
  obtain ⟨f, hf⟩ := read_nan h
  have : Ieee.double.add x y = none := by
    show ((Ieee.double.read x).sum (Ieee.double.read y)).map _ = none
    rw [hf]
    cases Ieee.double.read y <;> rfl
  unfold sumBits
  rw [this]
theorem refBits_nan {x : Nat} (h : isNaN x = true) : refBits x = nanBits := by unfold refBits; rw [if_pos h]
theorem refCmp_nan {x y : Nat} (hx : isNaN x = true) (hy : isNaN y = true) (o : V) : refCmp (fl x) o = refCmp (fl y) o := by
  unfold refCmp fl
  simp only
  rw [refOrder_nan x hx, refOrder_nan y hy]
theorem refSame_nan {x y : Nat} (hx : isNaN x = true) (hy : isNaN y = true) : (refCmp (fl x) (fl y) == 0) = true := by
  rw [refCmp_fl, refOrder_nan x hx, refOrder_nan y hy]; decide
theorem refAdd_nan {x : Nat} (hx : isNaN x = true) (o : V) : refAdd (fl x) o = if isNum o then ⟨3, 0, nanBits, .empty⟩ else ⟨0, 0, 0, .empty⟩ := by
  unfold refAdd
  have h1 : isNum (fl x) = true := rfl
  rw [h1, Bool.true_and]
  have h2 : ((fl x).k == 2 && o.k == 2) = false := rfl
  rw [h2]
  have h3 : vFloat (fl x) = x := rfl
  rw [h3, sumBits_nan hx]
  rfl
theorem writeOf_nan {x y : Nat} (hx : isNaN x = true) (hy : isNaN y = true) : writeOf (fl x) = writeOf (fl y) := by
  unfold writeOf fl
  simp only
  rw [refBits_nan hx, refBits_nan hy]
theorem hexText_nan {x : Nat} (hx : isNaN x = true) : hexText x = ⟨#[102, 55, 102, 102, 56, 48, 48, 48, 48, 48, 48, 48, 48, 48, 48, 48, 48]⟩ := by
  unfold hexText; rw [refBits_nan hx]; decide +kernel
end Go.Proofs.YtninglbenondpaaDoor
