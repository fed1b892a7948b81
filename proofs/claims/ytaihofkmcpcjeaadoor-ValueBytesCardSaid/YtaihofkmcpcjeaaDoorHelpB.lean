/- Bytes as a string; the contract of quirehelp.Bytes. -/
import Derived.Test.YtaihofkmcpcjeaaDoorClone
import Derived.Laws.IdiomStrings
import Derived.Laws.BytesArg
namespace Go.Proofs.YtaihofkmcpcjeaaDoor
open Go.RowKit
set_option linter.unusedVariables false
set_option linter.unusedSimpArgs false

theorem lies_string {w : World} {g : Nat} {ao : Option Addr} {bs : List UInt8} (h : Lies w g ao bs) (n cap : Nat) (hn : n = bs.length) : (convert 40 9 (.slice ao n cap)).run Tryd.prog w = .ok (.string ⟨bs.toArray⟩) w := by
  subst hn
  rcases ao with _ | a
  · rcases h with rfl | ⟨off, e, _⟩
    · exact run_convert_bytes_nil w 40 5 Tryd.underlying40 Tryd.underlying5 _ _ 9 Tryd.underlying9
    · cases e
  · refine run_convert_bytes_back w 40 9 5 a cap bs Tryd.underlying40 Tryd.underlying5 Tryd.underlying9 ?_
    intro j hj
    rcases h with rfl | ⟨off, e, h⟩
    · simp at hj
    · cases e
      have e2 : (⟨g, off, none⟩ : Addr).add j = ⟨g, off + j, none⟩ := by unfold Addr.add; split <;> simp_all
      rw [e2]; exact h j hj

set_option maxRecDepth 100000 in
set_option maxHeartbeats 400000 in
theorem help_bytes (g g2 : Nat) (ao bo : Option Addr) (a b : List UInt8) (n m c d : Nat) (hn : n = a.length) (hm : m = b.length) (w : World) (h1 : Lies w g ao a) (h2 : Lies w g2 bo b) :
    Calls Tryd.prog 23 #[.slice ao n c, .slice bo m d] w fun e w' => e = .returned (.bool (a == b)) ∧ w' = w := by
  subst hn hm
  have k1 := lies_string h1 a.length c rfl
  have k2 := lies_string h2 b.length d rfl
  clear h1 h2
  go_enter Tryd.func23, Tryd.ntmps23
  go_wp2
  go_ret
  exact ⟨rfl, rfl⟩
end Go.Proofs.YtaihofkmcpcjeaaDoor
