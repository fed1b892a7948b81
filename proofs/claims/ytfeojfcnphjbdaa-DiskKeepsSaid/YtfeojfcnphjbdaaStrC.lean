/- The contract of strings.Clone. -/
import Derived.Test.YtfeojfcnphjbdaaShelfC
import Derived.Test.YtfeojfcnphjbdaaLib
import Derived.WalkLawsBesides
namespace Go.Proofs.Ytfeojfcnphjbdaa
open Go.RowKit
set_option linter.unusedVariables false

theorem touch_of_below {w w' : World} (h : Below w.heap.size w w') : Touch (fun _ => False) w w' := ⟨h.os, h.tape, h.output, h.size, fun k hk _ => h.block k hk⟩

set_option maxHeartbeats 400000 in
theorem strClone_any (s : ByteArray) (w : World) (hs : s.size ≤ 281474976710656) :
    Calls Try.prog 57 #[.string s] w fun e w' => e = .returned (.string s) ∧ Touch (fun _ => False) w w' := by
  have HC : Hid (Calls Try.prog 60 #[.string s] w fun e w' => e = .returned (.string s) ∧ Below w.heap.size w w') := Try.stringslite_Clone s w hs
  go_enter Try.func57, Try.ntmps57
  go_wp2_with fail
  refine HC.out.mono ?_
  rintro e w1 ⟨rfl, hb⟩
  have hT : Hid (Touch (fun _ => False) w w1) := touch_of_below hb
  clear hb HC
  go_wp2_with fail
  go_ret
  exact ⟨rfl, hT.out⟩
end Go.Proofs.Ytfeojfcnphjbdaa
