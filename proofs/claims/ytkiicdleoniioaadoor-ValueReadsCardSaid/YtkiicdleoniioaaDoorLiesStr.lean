/- Bytes that lie, as a string. -/
import Derived.Test.YtkiicdleoniioaaDoorWBytes
import Derived.Laws.IdiomStrings
import Derived.Laws.BytesArg
namespace Go.Proofs.YtkiicdleoniioaaDoor
open Go.RowKit
set_option linter.unusedVariables false
set_option linter.unusedSimpArgs false

theorem lies_string {w : World} {g : Nat} {ao : Option Addr} {bs : List UInt8} (h : Lies w g ao bs) (n cap : Nat) (hn : n = bs.length) : (convert 22 9 (.slice ao n cap)).run Tryd.prog w = .ok (.string ⟨bs.toArray⟩) w := by
  subst hn
  rcases ao with _ | a
  · rcases h with rfl | ⟨off, e, _⟩
    · exact run_convert_bytes_nil w 22 5 Tryd.underlying22 Tryd.underlying5 _ _ 9 Tryd.underlying9
    · cases e
  · refine run_convert_bytes_back w 22 9 5 a cap bs Tryd.underlying22 Tryd.underlying5 Tryd.underlying9 ?_
    intro j hj
    rcases h with rfl | ⟨off, e, h⟩
    · simp at hj
    · cases e
      have e2 : (⟨g, off, none⟩ : Addr).add j = ⟨g, off + j, none⟩ := by unfold Addr.add; split <;> simp_all
      rw [e2]; exact h j hj

end Go.Proofs.YtkiicdleoniioaaDoor
