/- The statement UtfEach, as a contract. -/
import Derived.Test.YteemjbnhiiadaaaDoorKnown3
import Derived.Test.YteemjbnhiiadaaaDoorUtfHelp
import Derived.Test.YteemjbnhiiadaaaDoorUtfEachB
namespace Go.Proofs.YteemjbnhiiadaaaDoor
open Go.RowKit
set_option linter.unusedVariables false
set_option maxRecDepth 100000

set_option maxHeartbeats 2000000 in
theorem utfEach_any (s : ByteArray) (hs : s.size ≤ 9223372036854775807) (n : Int) (hn : -9223372036854775808 ≤ n ∧ n ≤ 9223372036854775807) (w : World) (hT : TabsU w) : Calls Tryd.prog 6 #[.string s, .int .i64 n] w fun e w' => e = .returned (.bool true) ∧ Touch (fun _ => False) w w' := by
  have HK : Hid (Calls Tryd.prog 9 #[] w fun e w' => e = .returned (.bool true) ∧ Touch (fun _ => False) w w') := known_any w hT
  have HT : Hid (TabsU w) := hT
  clear hT
  by_cases hz : 2000 < s.size
  · go_enter Tryd.func6, Tryd.ntmps6
    go_wp2_with fail
    refine HK.out.mono ?_
    rintro e w1 ⟨rfl, t1⟩
    go_wp2_with fail
    go_ret
    exact ⟨rfl, t1⟩
  have hln : (rsOf s.data.toList).length ≤ 2000 := by have := rsOf_len s.data.toList; simp at this; omega
  have P1 : Hid (∀ w, Calls Tryd.prog 16 #[.string s] w (RunesAny s.data.toList w)) := fun w => ref_runes_any s (by omega) w
  go_enter Tryd.func6, Tryd.ntmps6
  go_wp2_with fail
  refine HK.out.mono ?_
  rintro _ w1 ⟨rfl, h1⟩
  go_wp2_with fail
  refine (P1.out _).mono ?_
  rintro _ w2 ⟨t1, a, c, rfl, hrow⟩
  have h2 := h1.trans t1
  clear h1 t1
  have HRow : Hid (Row w2 a c (rsOf s.data.toList)) := hrow
  clear hrow
  generalize (runesOf s.data.toList).isSome = bb
  go_wp2_with fail
  rw [show (((rsOf s.data.toList).length : Int) + 1) = (((rsOf s.data.toList).length + 1 : Nat) : Int) from by omega]
  refine (help_place n ((rsOf s.data.toList).length + 1) (by omega) (by omega) hn _).mono ?_
  rintro _ w3 ⟨⟨p, hp, rfl⟩, rfl⟩
  have P2 : Hid (∀ w, TabsU w → Row w a c (rsOf s.data.toList) → Calls Tryd.prog 25 #[.string s, .int .i64 (p : Int), .slice a (rsOf s.data.toList).length c] w fun e w' => e = .returned (.bool true) ∧ Touch (fun _ => False) w w') := fun w h hr => each_any s (by omega) p (by omega) a c w h hr
  go_wp2_with fail
  refine (P2.out _ (HT.out.keep h2) HRow.out).mono ?_
  rintro _ w4 ⟨rfl, t1⟩
  have h4 := h2.trans t1
  have HRow4 : Hid (Row w4 a c (rsOf s.data.toList)) := HRow.out.keep t1
  clear h2 t1 HRow
  go_wp2_with fail
  refine (P2.out _ (HT.out.keep h4) HRow4.out).mono ?_
  rintro _ w5 ⟨rfl, t1⟩
  have h5 := h4.trans t1
  clear h4 t1 HRow4
  go_wp2_with fail
  go_ret
  exact ⟨rfl, h5⟩
end Go.Proofs.YteemjbnhiiadaaaDoor
