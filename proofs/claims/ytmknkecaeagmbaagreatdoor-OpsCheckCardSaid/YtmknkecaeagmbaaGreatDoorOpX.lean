/- ops.names. -/
import Derived.Test.YtmknkecaeagmbaaGreatDoorOpW
import Derived.Test.YtmknkecaeagmbaaGreatDoorPart5
namespace Go.Proofs.YtmknkecaeagmbaaGreatDoor
open Go.RowKit
set_option linter.unusedVariables false
set_option linter.unusedSimpArgs false
set_option maxRecDepth 100000

theorem cells_stored {W : World} {B : Nat} {C : Array Value} {t : TypeId} (h : W.heap[B]? = some (.cells C t (0, 0))) (k : Nat) (vs : List Value) : (W.setCells B k vs).heap[B]? = some (.cells ((vs.zipIdx k).foldl (fun (c : Array Value) x => c.setIfInBounds x.2 x.1) C) t (0, 0)) := by
  have key : ∀ (vs : List Value) (k : Nat) (W : World) (c : Array Value), W.heap[B]? = some (.cells c t (0, 0)) → (W.setCells B k vs).heap[B]? = some (.cells ((vs.zipIdx k).foldl (fun (c : Array Value) x => c.setIfInBounds x.2 x.1) c) t (0, 0)) := by
    intro vs
    induction vs with
    | nil => intro k W c h; exact h
    | cons v r ih =>
      intro k W c h
      rw [World.setCells]
      exact ih (k + 1) _ _ (heap_setCell_same W B k v h)
  exact key vs k W C h
theorem there_of_block {W : World} {B : Nat} {C : Array Value} {t : TypeId} (h : W.heap[B]? = some (.cells C t (0, 0))) (k n : Nat) (hk : k + n ≤ C.size) : W.there B k n := by
  intro j hj
  refine ⟨?_, free_of_block h⟩
  rw [cell_of_block h, Array.getElem?_eq_getElem (by omega)]
  rfl
/-- The ids that an operation may name. -/
def namesL (o : O) : List (Int × Int) := [(o.lc, o.lk), (o.rc, o.rk), (o.fc, o.fk), (o.tc, o.tk), (o.pc, o.pk)]
abbrev namesA (o : O) : Array Value := #[.int .u64 o.lc, .int .u64 o.lk, .int .u64 o.rc, .int .u64 o.rk, .int .u64 o.fc, .int .u64 o.fk, .int .u64 o.tc, .int .u64 o.tk, .int .u64 o.pc, .int .u64 o.pk]
set_option maxHeartbeats 4000000 in
theorem names_any (o : O) (w : World) : Calls Tryz.prog 54 #[o.val] w fun e w' => e = .returned (.agg (namesA o)) ∧ Touch (fun _ => False) w w' := by
  go_enter Tryz.func54, Tryz.ntmps54
  go_upto_region 1 with fail
  obtain ⟨W0, hW0⟩ : ∃ W0, Hid (W0 = (w.alloc (opO o)).alloc (.cells #[.int .u64 0, .int .u64 0, .int .u64 0, .int .u64 0, .int .u64 0, .int .u64 0, .int .u64 0, .int .u64 0, .int .u64 0, .int .u64 0] 67)) := ⟨_, Eq.refl _⟩
  have HT0 : Hid (Touch (fun _ => False) w W0) := by rw [hW0.out]; exact ((Touch.refl _ _).alloc _).alloc _
  have hA : OpAt w.heap.size o W0 := by rw [hW0.out]; exact (heap_two w _ _).1
  have HB : Hid (W0.heap[w.heap.size + 1]? = some (.cells #[.int .u64 0, .int .u64 0, .int .u64 0, .int .u64 0, .int .u64 0, .int .u64 0, .int .u64 0, .int .u64 0, .int .u64 0, .int .u64 0] 67)) := by rw [hW0.out]; exact (heap_two w _ _).2
  rw [← hW0.out]
  clear hW0
  have q4 := hA.q4
  have q5 := hA.q5
  have q6 := hA.q6
  have q7 := hA.q7
  have q14 := hA.q14
  have q15 := hA.q15
  have q16 := hA.q16
  have q17 := hA.q17
  have q19 := hA.q19
  have q20 := hA.q20
  clear hA
  refine wp_region_lit ?_
  refine wpList_plain rfl fun K hK => ?_
  go_simp
  refine hK _ _ ?_
  clear hK K
  refine wpList_plain rfl fun K hK => ?_
  go_simp
  refine hK _ _ ?_
  clear hK K
  refine wpList_plain rfl fun K hK => ?_
  go_simp
  refine hK _ _ ?_
  clear hK K
  refine wpList_plain rfl fun K hK => ?_
  go_simp
  refine hK _ _ ?_
  clear hK K
  refine wpList_plain rfl fun K hK => ?_
  go_simp
  refine hK _ _ ?_
  clear hK K
  refine wpList_plain rfl fun K hK => ?_
  go_simp
  refine hK _ _ ?_
  clear hK K
  refine wpList_plain rfl fun K hK => ?_
  go_simp
  refine hK _ _ ?_
  clear hK K
  refine wpList_plain rfl fun K hK => ?_
  go_simp
  refine hK _ _ ?_
  clear hK K
  refine wpList_plain rfl fun K hK => ?_
  go_simp
  refine hK _ _ ?_
  clear hK K
  refine wpList_plain rfl fun K hK => ?_
  go_simp
  refine hK _ _ ?_
  clear hK K
  refine wpList_plain rfl fun K hK => ?_
  go_simp
  refine hK _ _ ?_
  clear hK K
  refine wpList_plain rfl fun K hK => ?_
  go_simp
  refine hK _ _ ?_
  clear hK K
  refine wpList_plain rfl fun K hK => ?_
  go_simp
  refine hK _ _ ?_
  clear hK K
  clear q4 q5 q6 q7 q14 q15 q16 q17 q19 q20
  refine wpList_store_mid rfl 67 (.tmp 2) (.tmp 15) rfl (w.heap.size + 1) 0 (namesA o) rfl rfl (there_of_block HB.out 0 10 (by decide)) (by kernel_rfl) (by kernel_rfl) ?_
  simp only [Act.put]
  obtain ⟨W1, hW1⟩ : ∃ W1, Hid (W1 = W0.setCells (w.heap.size + 1) 0 (namesA o).toList) := ⟨_, Eq.refl _⟩
  have HT1 : Hid (Touch (fun _ => False) w W1) := by rw [hW1.out]; exact HT0.out.stored (by omega) _ _
  have hB : W1.heap[w.heap.size + 1]? = some (.cells (namesA o) 67 (0, 0)) := by rw [hW1.out]; exact (cells_stored HB.out 0 (namesA o).toList).trans (by kernel_rfl)
  rw [← hW1.out]
  clear hW1 HT0 HB
  have f0 := cell_of_block (i := 0) hB
  have f1 := cell_of_block (i := 1) hB
  have f2 := cell_of_block (i := 2) hB
  have f3 := cell_of_block (i := 3) hB
  have f4 := cell_of_block (i := 4) hB
  have f5 := cell_of_block (i := 5) hB
  have f6 := cell_of_block (i := 6) hB
  have f7 := cell_of_block (i := 7) hB
  have f8 := cell_of_block (i := 8) hB
  have f9 := cell_of_block (i := 9) hB
  clear hB
  go_wp2_with fail
  refine bodyPost_ret (v := .agg (namesA o)) ?_ rfl ⟨rfl, HT1.out⟩
  simp [results, Tryz.results54, go_sem, f0, f1, f2, f3, f4, f5, f6, f7, f8, f9]
end Go.Proofs.YtmknkecaeagmbaaGreatDoor
