/- The contract of quireref2.Clean. -/
import Derived.Test.YtaihofkmcpcjeaaDoorFSum
namespace Go.Proofs.YtaihofkmcpcjeaaDoor
open Go.RowKit
set_option linter.unusedVariables false

set_option maxRecDepth 100000 in
set_option maxHeartbeats 1000000 in
theorem ref_clean (v : V) (w : World) : Calls Tryd.prog 30 #[v.val] w fun e w' => e = .returned (refClean v).val ∧ w' = (w.alloc (.cells (refClean v).cells 24)).alloc (.cells (refClean v).cells 24) := by
  obtain ⟨k, n, f, s⟩ := v
  simp only [V.val, V.cells] at *
  have h1 := f64frombits_run
  have h2 := run_store_f64 Tryd.prog
  have HC : Hid ((refClean ⟨k, n, f, s⟩) = if k = 3 then ⟨k, n, refBits f, s⟩ else ⟨k, n, f, s⟩) := rfl
  generalize refClean ⟨k, n, f, s⟩ = C at *
  by_cases hk : k = 3
  · have t1 : (k == 3) = true := by rw [hk]; rfl
    have HE : Hid (C = ⟨k, n, refBits f, s⟩) := by rw [Hid, HC.out, if_pos hk]
    clear HC hk
    go_enter Tryd.func30, Tryd.ntmps30
    go_wp2_with fail
    refine (ref_bits f _).mono ?_
    rintro e w1 ⟨rfl, rfl⟩
    generalize refBits f = g at *
    go_wp2_with fail
    refine bodyPost_ret (v := .agg #[.int .i64 k, .int .i64 n, .float .f64 g, .string s]) (by simp [results, Tryd.results30, go_sem]) rfl ⟨by rw [HE.out], by rw [HE.out]⟩
  · have t1 : (k == 3) = false := by rw [beq_eq_false_iff_ne]; exact hk
    have HE : Hid (C = ⟨k, n, f, s⟩) := by rw [Hid, HC.out, if_neg hk]
    clear HC hk
    go_enter Tryd.func30, Tryd.ntmps30
    go_wp2_with fail
    refine bodyPost_ret (v := .agg #[.int .i64 k, .int .i64 n, .float .f64 f, .string s]) (by simp [results, Tryd.results30, go_sem]) rfl ⟨by rw [HE.out], by rw [HE.out]⟩
end Go.Proofs.YtaihofkmcpcjeaaDoor
