/- The contracts of the document's Has and Count. -/
import Derived.Test.YtdblfabbmpdoiaaRfC
import Derived.Test.YtdblfabbmpdoiaaIdUse
import Derived.Test.YtdblfabbmpdoiaaIdHas
namespace Go.Proofs.Ytdblfabbmpdoiaa
open Go.RowKit Go.Maps
set_option linter.unusedVariables false
set_option linter.unusedSimpArgs false
set_option maxRecDepth 100000

theorem hasB_any (l : List Rg) (c k : Int) : hasB l c k = l.any fun r => r.ok && r.has c k := by
  unfold hasB; rw [List.any_filter]
end Go.Proofs.Ytdblfabbmpdoiaa
