/- quirelaw6.IdsEach. -/
import Derived.Test.YtipncloegjcjfaaEachB
import Derived.Test.YtipncloegjcjfaaArgR
namespace Go.Proofs.Ytipncloegjcjfaa
open Go.RowKit Go.Maps
set_option linter.unusedVariables false
set_option linter.unusedSimpArgs false
set_option maxRecDepth 100000

set_option maxHeartbeats 1600000 in
theorem idsEach_any (w : World) (vl : Value) (l : List Rg) (sl : SlR w vl l) (gl : ∀ r ∈ l, fitsR r) (most : Int) (hm : -9223372036854775808 ≤ most ∧ most ≤ 9223372036854775807) :
    Calls Try.prog 6 #[vl, .int .i64 most] w fun e w' => e = .returned (.bool true) ∧ Touch (fun _ => False) w w' := by
  have SL : Hid (SlR w vl l) := sl
  obtain ⟨ao, cap, rfl, _⟩ := sl
  clear gl
  have KN := known_any w
  have L0 := fun W => light_any l.length ao cap W
  have P0 := fun W => place_any most W hm.1 hm.2
  go_enter Try.func6, Try.ntmps6
  go_wp2_with fail
  refine KN.mono ?_
  rintro e w0 ⟨rfl, t0⟩
  have HT : Hid (Touch (fun _ => False) w w0) := t0
  clear t0 KN
  cases hd0 : decide (l.length ≤ 60) with
  | false =>
    rw [hd0] at L0
    go_wp2_with fail
    refine (L0 _).mono ?_
    rintro e w2 ⟨rfl, rfl⟩
    go_wp2_with fail
    go_ret
    exact ⟨rfl, HT.out⟩
  | true =>
  rw [hd0] at L0
  go_wp2_with fail
  refine (L0 _).mono ?_
  rintro e w2 ⟨rfl, hw⟩
  rw [hw]
  clear hw w2 L0
  have hl60 : l.length ≤ 60 := by simpa using hd0
  go_wp2_with fail
  refine (P0 _).mono ?_
  rintro e w3 ⟨p, rfl, hp, hw⟩
  rw [hw]
  clear hw w3 P0
  have E1 := each_any l _ p w0 (SL.out.touch HT.out) hl60 hp
  go_wp2_with fail
  refine E1.mono ?_
  rintro e w4 ⟨rfl, t4⟩
  have HT4 : Hid (Touch (fun _ => False) w w4) := HT.out.trans t4
  clear t4 E1
  have E2 := each_any l _ p w4 (SL.out.touch HT4.out) hl60 hp
  go_wp2_with fail
  refine E2.mono ?_
  rintro e w5 ⟨rfl, t5⟩
  have HT5 : Hid (Touch (fun _ => False) w w5) := HT4.out.trans t5
  clear t5 E2
  go_wp2_with fail
  go_ret
  exact ⟨rfl, HT5.out⟩
end Go.Proofs.Ytipncloegjcjfaa
