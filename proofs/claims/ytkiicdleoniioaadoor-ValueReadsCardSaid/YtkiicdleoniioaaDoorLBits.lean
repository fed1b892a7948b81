/- The contract of quirelaw2.bits, at a value and itself. -/
import Derived.Test.YtkiicdleoniioaaDoorVals
import Derived.Deep.QuietTactic
import Derived.BigQuiet
namespace Go.Proofs.YtkiicdleoniioaaDoor
open Go.RowKit
set_option linter.unusedVariables false
set_option maxRecDepth 100000

set_option maxHeartbeats 400000 in
theorem l_bits (k n : Int) (f : Nat) (s : ByteArray) (w : World) : Calls Tryd.prog 9 #[.agg #[.int .i64 k, .int .i64 n, .float .f64 f, .string s], .agg #[.int .i64 k, .int .i64 n, .float .f64 f, .string s]] w fun e w' => e = .returned (.bool true) ∧ Touch (fun _ => False) w w' := by
  have hb := f64bits_run
  have e0 : (k == k) = true := by simp
  have e1 : (n == n) = true := by simp
  have e2 : (s.toList == s.toList) = true := by simp
  have e3 : ((f : Int) == (f : Int)) = true := by simp
  have HT : Hid (Touch (fun _ => False) w ((w.alloc (.cells #[.int .i64 k, .int .i64 n, .float .f64 f, .string s] 31)).alloc (.cells #[.int .i64 k, .int .i64 n, .float .f64 f, .string s] 31))) := ((Touch.refl _ _).alloc _).alloc _
  go_enter Tryd.func9, Tryd.ntmps9
  go_wp2_with fail
  go_quiet (fail)
  go_wp2_with fail
  go_ret
  exact ⟨rfl, HT.out.drewN _⟩
end Go.Proofs.YtkiicdleoniioaaDoor
