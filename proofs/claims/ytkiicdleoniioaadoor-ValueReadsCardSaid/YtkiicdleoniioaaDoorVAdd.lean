/- The contracts of value's empty, asFloat. -/
import Derived.Test.YtkiicdleoniioaaDoorVBase
import Derived.Test.YtkiicdleoniioaaDoorFSum
namespace Go.Proofs.YtkiicdleoniioaaDoor
open Go.RowKit
set_option linter.unusedVariables false
set_option maxRecDepth 100000

/-- Nothing but a kind. -/
def vEmpty (v : V) : Bool := (v.n == 0) && ((v.f : Int) == 0) && v.s.toList.isEmpty
set_option maxHeartbeats 400000 in
theorem v_empty (v : V) (w : World) : Calls Tryd.prog 50 #[v.val] w fun e w' => e = .returned (.bool (vEmpty v)) ∧ w' = w.alloc (.cells v.cells 31) := by
  have HE : Hid (vEmpty v = ((v.n == 0) && ((v.f : Int) == 0) && v.s.toList.isEmpty)) := rfl
  generalize vEmpty v = E at *
  obtain ⟨k, n, f, s⟩ := v
  simp only [V.val, V.cells] at *
  have hb := f64bits_run
  cases h0 : (n == 0) <;> cases h1 : ((f : Int) == 0) <;> cases h2 : s.toList.isEmpty
  all_goals
    have HR2 := HE.out
    rw [h0, h1, h2] at HR2
    have HF : Hid (E = _) := HR2
    clear HR2 HE
    go_enter Tryd.func50, Tryd.ntmps50
    go_wp2_with fail
    go_ret
    exact ⟨by rw [HF.out]; rfl, rfl⟩

/-- The number as a float, and whether it is one. -/
def vNum (v : V) : Nat := if isNum v then vFloat v else 0
set_option maxHeartbeats 400000 in
theorem v_asFloat (v : V) (w : World) : Calls Tryd.prog 38 #[v.val] w fun e w' => e = .returned (.tuple #[.float .f64 (vNum v), .bool (isNum v)]) ∧ w' = w.alloc (.cells v.cells 31) := by
  obtain ⟨k, n, f, s⟩ := v
  have HN : Hid (vNum ⟨k, n, f, s⟩ = if (k == 2 || k == 3) then (if k == 2 then floatOfInt .f64 n else f) else 0) := rfl
  have HI : Hid (isNum ⟨k, n, f, s⟩ = (k == 2 || k == 3)) := rfl
  simp only [V.val, V.cells] at *
  generalize vNum ⟨k, n, f, s⟩ = A at *
  generalize isNum ⟨k, n, f, s⟩ = B at *
  cases t1 : (k == 2)
  · cases t2 : (k == 3)
    · have HX : Hid (A = 0 ∧ B = false) := ⟨by rw [HN.out, t1, t2]; rfl, by rw [HI.out, t1, t2]; rfl⟩
      clear HN HI
      go_enter Tryd.func38, Tryd.ntmps38
      go_wp2_with fail
      refine bodyPost_ret (by simp [results, Tryd.results38, go_sem]; rfl) rfl ⟨?_, rfl⟩
      rw [HX.out.1, HX.out.2]
    · have HX : Hid (A = f ∧ B = true) := ⟨by rw [HN.out, t1, t2]; rfl, by rw [HI.out, t1, t2]; rfl⟩
      clear HN HI
      go_enter Tryd.func38, Tryd.ntmps38
      go_wp2_with fail
      refine bodyPost_ret (by simp [results, Tryd.results38, go_sem]; rfl) rfl ⟨?_, rfl⟩
      rw [HX.out.1, HX.out.2]
  · have HX : Hid (A = floatOfInt .f64 n ∧ B = true) := ⟨by rw [HN.out, t1]; rfl, by rw [HI.out, t1]; rfl⟩
    clear HN HI
    go_enter Tryd.func38, Tryd.ntmps38
    go_wp2_with fail
    refine bodyPost_ret (by simp [results, Tryd.results38, go_sem]; rfl) rfl ⟨?_, rfl⟩
    rw [HX.out.1, HX.out.2]
end Go.Proofs.YtkiicdleoniioaaDoor
