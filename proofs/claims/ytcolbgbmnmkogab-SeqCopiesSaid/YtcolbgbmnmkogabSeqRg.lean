/- Package seq's row: newRow. -/
import Derived.Test.YtcolbgbmnmkogabSeqRf
namespace Go.Proofs.Ytcolbgbmnmkogab
open Go.RowKit
set_option linter.unusedVariables false
set_option linter.unusedSimpArgs false
set_option maxRecDepth 100000

theorem heap_two (w : World) (a b : Obj) : ((w.alloc a).alloc b).heap[w.heap.size]? = some a ∧ ((w.alloc a).alloc b).heap[w.heap.size + 1]? = some b := by
  constructor
  · rw [Below.heap_alloc _ _ _ (by simp)]; exact heap_alloc_new _ _
  · have := heap_alloc_new (w.alloc a) b
    simpa using this
set_option maxHeartbeats 2000000 in
theorem newRow_any (w : World) : Calls Try.prog 18 #[] w fun e w' => ∃ g, e = .returned (.agg #[.slice (some ⟨g, 0, none⟩) 1 1]) ∧ w.heap.size ≤ g ∧ w'.heap[g]? = some (.cells #[iV 0, iV 0, iV 0, iV 0, iV 0] 82 (0, 0)) ∧ Touch (fun _ => False) w w' := by
  have hbz : ∀ (W : World), (Instr.buildSlice 52 1 #[(0, .agg #[iV 0, iV 0, iV 0, iV 0, iV 0])]).run Try.prog W = .ok (.slice (some ⟨W.heap.size, 0, none⟩) 1 1) (W.alloc zeroTO) := fun W => by kernel_rfl
  go_enter Try.func18, Try.ntmps18
  go_wp2_with fail
  have hw2 := heap_two w (.cells #[.slice (some ⟨w.heap.size + 1, 0, none⟩) 1 1] 54) zeroTO
  refine bodyPost_ret (v := .agg #[.slice (some ⟨w.heap.size + 1, 0, none⟩) 1 1]) (by simp [results, Try.results18, go_sem]) rfl ?_
  exact ⟨_, rfl, by omega, hw2.2, ((Touch.refl _ _).alloc _).alloc _⟩
end Go.Proofs.Ytcolbgbmnmkogab
