/- ops.Check. -/
import Derived.Test.YtphcnjbiojdalaaGreatDoorOpZ
namespace Go.Proofs.YtphcnjbiojdalaaGreatDoor
open Go.RowKit
set_option linter.unusedVariables false
set_option linter.unusedSimpArgs false
set_option maxRecDepth 100000

def opErr (b : Bool) : Int := match b with | true => 0 | false => 120
def checkB (o : O) : Bool := formB o && idsB o
set_option maxHeartbeats 4000000 in
theorem ops_check (o : O) (h : o.tx.size ≤ 4611686018427387904 ∧ o.ky.size ≤ 4611686018427387904 ∧ o.vs.size ≤ 4611686018427387904 ∧ o.vf < 18446744073709551616) (w : World) (hU : TabsU w) : Calls Tryz.prog 11 #[o.val] w fun e w' => e = .returned (.int .i64 (opErr (checkB o))) ∧ Touch (fun _ => False) w w' := by
  have HF : Hid (∀ W, Touch (fun _ => False) w W → Calls Tryz.prog 35 #[o.val] W fun e w' => e = .returned (.bool (formB o)) ∧ Touch (fun _ => False) W w') := fun W t => form_any o h W (hU.keep t)
  have HI : Hid (∀ W, Touch (fun _ => False) w W → Calls Tryz.prog 36 #[o.val] W fun e w' => e = .returned (.bool (idsB o)) ∧ Touch (fun _ => False) W w') := fun W t => ids_any o h.1 W (hU.keep t)
  have HG : Hid (checkB o = (formB o && idsB o)) := rfl
  generalize formB o = a at *
  generalize idsB o = b at *
  clear h hU
  go_enter Tryz.func11, Tryz.ntmps11
  go_upto_region 1 with fail
  have HA0 : Hid (OpAt w.heap.size o (w.alloc (opO o))) := heap_alloc_new _ _
  refine wp_region_lit ?_
  refine wpList_load_mid rfl 31 (.tmp 1) rfl w.heap.size 0 rfl o.vals.toList _ (rangeAt_of HA0.out) Tryz.underlying31 rfl (by kernel_rfl) ?_
  simp only [Act.put, List.setIfInBounds_toArray]
  refine wpList_plain rfl fun K hK => ?_
  go_simp
  refine (HF.out _ ((Touch.refl _ _).alloc _)).mono ?_
  rintro e w1 ⟨rfl, t⟩
  have HA1 : Hid (OpAt w.heap.size o w1 ∧ Touch (fun _ => False) w w1) := ⟨HA0.out.keep t, ((Touch.refl _ _).alloc _).trans t⟩
  clear t HA0 HF
  refine hK _ _ ?_
  clear hK K
  cases a
  · go_wp2_with fail
    go_ret
    exact ⟨by rw [HG.out]; rfl, HA1.out.2⟩
  · skip
    refine wpList_plain rfl fun K hK => ?_
    go_simp
    refine hK _ _ ?_
    clear hK K
    refine wpList_plain rfl fun K hK => ?_
    go_simp
    refine hK _ _ ?_
    clear hK K
    refine wpList_step fun K hK => ?_
    rw [if_pos (by kernel_rfl)]
    refine wp_load_mid 31 (.tmp 1) rfl w.heap.size 0 rfl o.vals.toList _ (rangeAt_of HA1.out.1) Tryz.underlying31 rfl (by kernel_rfl) (hK _ _ ?_)
    clear hK K
    simp only [Act.put, List.setIfInBounds_toArray, List.set_cons_succ, List.set_cons_zero]
    go_wp2_with fail
    refine (HI.out _ HA1.out.2).mono ?_
    rintro e w2 ⟨rfl, t⟩
    have HT : Hid (Touch (fun _ => False) w w2) := HA1.out.2.trans t
    clear t HA1 HI
    cases b
    · go_wp2_with fail
      go_ret
      exact ⟨by rw [HG.out]; rfl, HT.out⟩
    · go_wp2_with fail
      go_ret
      exact ⟨by rw [HG.out]; rfl, HT.out⟩
end Go.Proofs.YtphcnjbiojdalaaGreatDoor
