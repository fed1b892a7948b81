/- The contract of value.Clean. -/
import Derived.Test.YtaihofkmcpcjeaaDoorVAdd
namespace Go.Proofs.YtaihofkmcpcjeaaDoor
open Go.RowKit
set_option linter.unusedVariables false
set_option maxRecDepth 100000

/-- A NaN's bits are the one NaN's, whatever the kind. -/
def vClean (v : V) : V := ⟨v.k, v.n, refBits v.f, v.s⟩
set_option maxHeartbeats 400000 in
theorem v_clean (v : V) (w : World) : Calls Tryd.prog 11 #[v.val] w fun e w' => e = .returned (vClean v).val ∧ Touch (fun _ => False) w w' := by
  obtain ⟨k, n, f, s⟩ := v
  have HB : Hid (∀ w, Calls Tryd.prog 37 #[.float .f64 f] w fun e w' => e = .returned (.float .f64 (refBits f)) ∧ w' = w) := v_oneNaN f
  simp only [V.val, vClean] at *
  generalize refBits f = g at *
  have h2 := run_store_f64 Tryd.prog
  go_enter Tryd.func11, Tryd.ntmps11
  go_wp2_with fail
  refine (HB.out _).mono ?_
  rintro e w1 ⟨rfl, rfl⟩
  go_wp2_with fail
  refine bodyPost_ret (v := .agg #[.int .i64 k, .int .i64 n, .float .f64 g, .string s]) (by simp [results, Tryd.results11, go_sem]) rfl ⟨rfl, ?_⟩
  first
    | exact ((Touch.refl _ _).alloc _).alloc _
    | exact (((((((Touch.refl _ _).alloc _).alloc _).setCell _ _ (fun h => by simp only at h; omega)).setCell _ _ (fun h => by simp only at h; omega)).setCell _ _ (fun h => by simp only at h; omega)).setCell _ _ (fun h => by simp only at h; omega)).setCell _ _ (fun h => by simp only at h; omega)
end Go.Proofs.YtaihofkmcpcjeaaDoor
