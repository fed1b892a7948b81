/- The contracts of the document's Has and Count. -/
import Derived.Test.YtccgiabihagjoaaRfC
import Derived.Test.YtccgiabihagjoaaIdUse
import Derived.Test.YtccgiabihagjoaaIdHas
namespace Go.Proofs.Ytccgiabihagjoaa
open Go.RowKit Go.Maps
set_option linter.unusedVariables false
set_option linter.unusedSimpArgs false
set_option maxRecDepth 100000

theorem hasB_any (l : List Rg) (c k : Int) : hasB l c k = l.any fun r => r.ok && r.has c k := by
  unfold hasB; rw [List.any_filter]
end Go.Proofs.Ytccgiabihagjoaa
