/- A world that holds the listed tables as their initialisers lay them: for the witnesses. -/
import Derived.Test.YtphcnjbiojdalaaGreatDoorCards
import Derived.Test.YtphcnjbiojdalaaGreatDoorTie
import Derived.Deep.DeepHandedRow
import Derived.Lib.LaidTab
import Derived.WalkKit
import Derived.ProofKit
import Derived.OpenShut
import Derived.ChangeMaps5
import Derived.SizedLaws
namespace Go.Proofs.YtphcnjbiojdalaaGreatDoor
open Go.ChangeShapes Go.WideShapes Go.ChangeAt Go.RowKit
set_option linter.unusedVariables false

theorem own : ownKnob Tryz.prog.godebug = none := by kernel_rfl
theorem laidOut : laidOutB Tryz.prog = true := by kernel_rfl
def putTab (g : Nat) (k : IntKind) (zs : List Nat) (w : World) : World :=
  { w with heap := w.heap.modify g fun
      | .cells _ t frozen => .cells (zs.map fun z : Nat => Value.int k (z : Int)).toArray t frozen
      | o => o }
/-- A world with the tables laid. -/
def laidOn (w : World) : World :=
  putTab 2 .u8 [128, 191, 160, 191, 128, 159, 144, 191, 128, 143, 0, 0, 0, 0, 0, 0, 0, 0, 0, 0, 0, 0, 0, 0, 0, 0, 0, 0, 0, 0, 0, 0]
    (putTab 1 .u8 Go.Pinned.utf8FirstZ w)
end Go.Proofs.YtphcnjbiojdalaaGreatDoor
