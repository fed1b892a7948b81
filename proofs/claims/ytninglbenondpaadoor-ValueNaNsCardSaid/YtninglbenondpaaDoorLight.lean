/- The contract of quirelaw2.light. -/
import Derived.Test.YtninglbenondpaaDoorVals
namespace Go.Proofs.YtninglbenondpaaDoor
open Go.RowKit
set_option linter.unusedVariables false
set_option maxRecDepth 100000

set_option maxHeartbeats 400000 in
theorem l_light (k n : Int) (f : Nat) (s : ByteArray) (w : World) : Calls Tryd.prog 7 #[.agg #[.int .i64 k, .int .i64 n, .float .f64 f, .string s]] w fun e w' => e = .returned (.bool (decide (s.size ≤ 6000))) ∧ w' = w.alloc (.cells #[.int .i64 k, .int .i64 n, .float .f64 f, .string s] 24) := by
  go_enter Tryd.func7, Tryd.ntmps7
  go_wp2_with fail
  go_ret
  refine ⟨?_, rfl⟩
  simp only [Ending.returned.injEq]
  by_cases h : s.size ≤ 6000
  · rw [decide_eq_true h]; simp; omega
  · rw [decide_eq_false h]; simp; omega
end Go.Proofs.YtninglbenondpaaDoor
