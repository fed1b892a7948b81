/- ops.Cut. -/
import Derived.Test.YtphcnjbiojdalaaGreatDoorOpW
import Derived.Test.YtphcnjbiojdalaaGreatDoorPart10
import Derived.Test.YtphcnjbiojdalaaGreatDoorUtfCutB
namespace Go.Proofs.YtphcnjbiojdalaaGreatDoor
open Go.RowKit
set_option linter.unusedVariables false
set_option linter.unusedSimpArgs false
set_option maxRecDepth 100000

def cutOk (o : O) (f t : Int) : Bool := decide (0 ≤ f) && (decide (f < t) && decide (t ≤ (lenO o : Int)))
/-- With the one NaN. -/
def O.clean (o : O) : O := { o with vf := refBits o.vf }
/-- The part of it; its id moved on. -/
def O.moved (o : O) (f : Int) : O := { o with k := IntKind.u64.wrap (o.k + IntKind.u64.wrap f), lc := o.c, lk := IntKind.u64.wrap (IntKind.u64.wrap (o.k + IntKind.u64.wrap f) - 1) }
def O.cutT (o : O) (f t : Int) : O := { o with tx := cutOf o.tx.data.toList f t }
def cutRes (o : O) (f t : Int) : O :=
  if cutOk o f t = true then
    (if o.kind = 1 then (if 0 < f then (o.clean.cutT f t).moved f else o.clean.cutT f t) else (if 0 < f then o.clean.moved f else o.clean))
  else zeroO
set_option maxHeartbeats 8000000 in
theorem cut_neg (o : O) (f tt : Int) (h1 : f < 0) (h : o.tx.size ≤ 281474976710656) (w : World) (hU : TabsU w) : Calls Tryz.prog 14 #[o.val, .int .i64 f, .int .i64 tt] w fun e w' => e = .returned (.tuple #[(cutRes o f tt).val, .bool (cutOk o f tt)]) ∧ Touch (fun _ => False) w w' := by
  have HG1 : Hid (cutOk o f tt = false) := by unfold cutOk Hid; simp; omega
  have HG2 : Hid (cutRes o f tt = zeroO) := by unfold cutRes Hid; rw [HG1.out]; rfl
  have HL : Hid (∀ W, Touch (fun _ => False) w W → Calls Tryz.prog 17 #[o.val] W fun e w' => e = .returned (.int .i64 (lenO o : Int)) ∧ Touch (fun _ => False) W w') := fun W t => ops_len o (by omega) W (hU.keep t)
  have HC : Hid (∀ W, Touch (fun _ => False) w W → Calls Tryz.prog 45 #[o.v.val] W fun e w' => e = .returned (vClean o.v).val ∧ Touch (fun _ => False) W w') := fun W t => v_clean o.v W
  have HX : Hid (∀ W, Touch (fun _ => False) w W → Calls Tryz.prog 46 #[.string o.tx, .int .i64 f, .int .i64 tt] W fun e w' => e = .returned (.string (cutOf o.tx.data.toList f tt)) ∧ Touch (fun _ => False) W w') := fun W t => utf_cut o.tx h f tt W (hU.keep t)
  clear h hU
  go_enter Tryz.func14, Tryz.ntmps14
  go_upto_region 1 with fail
  obtain ⟨W1, hW1⟩ : ∃ W1, Hid (W1 = (w.alloc (opO o)).alloc (.cells #[.int .u64 0, .int .u64 0, .int .i64 0, .int .u64 0, .int .u64 0, .int .u64 0, .int .u64 0, .int .u64 0, .string ⟨#[]⟩, .int .i64 0, .int .i64 0, .float .f64 0, .string ⟨#[]⟩, .string ⟨#[]⟩, .int .u64 0, .int .u64 0, .int .u64 0, .int .u64 0, .bool false, .int .u64 0, .int .u64 0, .bool false] 31)) := ⟨_, Eq.refl _⟩
  have HT1 : Hid (Touch (fun _ => False) w W1) := by rw [hW1.out]; exact ((Touch.refl _ _).alloc _).alloc _
  have HA1 : Hid (OpAt w.heap.size o W1 ∧ OpAt (w.heap.size + 1) zeroO W1) := by rw [hW1.out]; exact heap_two w _ _
  rw [← hW1.out]
  clear hW1
  go_upto_region 2 with fail
  refine wp_region_lit ?_
  refine wpList_plain rfl fun K hK => ?_
  go_simp
  refine hK _ _ ?_
  clear hK K
  refine wpList_store_mid rfl 31 (.tmp 6) (.tmp 21) rfl (w.heap.size + 1) 0 zeroO.vals rfl rfl (HA1.out.2.there 0 22 (by decide)) (by kernel_rfl) (by kernel_rfl) ?_
  simp only [Act.put]
  obtain ⟨W2, hW2⟩ : ∃ W2, Hid (W2 = W1.setCells (w.heap.size + 1) 0 zeroO.vals.toList) := ⟨_, Eq.refl _⟩
  have HT2 : Hid (Touch (fun _ => False) w W2) := by rw [hW2.out]; exact HT1.out.stored (by omega) 0 zeroO.vals.toList
  have HA2 : Hid (OpAt w.heap.size (o) W2 ∧ OpAt (w.heap.size + 1) (zeroO) W2) := ⟨by rw [hW2.out]; exact HA1.out.1.stored_other (by omega) 0 zeroO.vals.toList, by rw [hW2.out]; exact HA1.out.2.stored 0 zeroO.vals.toList (by kernel_rfl)⟩
  rw [← hW2.out]
  clear hW2 HT1 HA1
  go_wp2_with fail
  have hLd := run_loadVar_mid (P := Tryz.prog) W2 (w.heap.size + 1) 0 31 (zeroO).vals.toList _ (rangeAt_of HA2.out.2) Tryz.underlying31 rfl (by kernel_rfl)
  refine bodyPost_ret (v := .tuple #[(zeroO).val, .bool false]) ?_ rfl ⟨by rw [HG1.out, HG2.out], HT2.out⟩
  simp [results, Tryz.results14, asAddr, hLd]
set_option maxHeartbeats 8000000 in
theorem cut_none (o : O) (f tt : Int) (h1 : ¬ f < 0) (h2 : tt ≤ f) (h : o.tx.size ≤ 281474976710656) (w : World) (hU : TabsU w) : Calls Tryz.prog 14 #[o.val, .int .i64 f, .int .i64 tt] w fun e w' => e = .returned (.tuple #[(cutRes o f tt).val, .bool (cutOk o f tt)]) ∧ Touch (fun _ => False) w w' := by
  have HG1 : Hid (cutOk o f tt = false) := by unfold cutOk Hid; simp; omega
  have HG2 : Hid (cutRes o f tt = zeroO) := by unfold cutRes Hid; rw [HG1.out]; rfl
  have HL : Hid (∀ W, Touch (fun _ => False) w W → Calls Tryz.prog 17 #[o.val] W fun e w' => e = .returned (.int .i64 (lenO o : Int)) ∧ Touch (fun _ => False) W w') := fun W t => ops_len o (by omega) W (hU.keep t)
  have HC : Hid (∀ W, Touch (fun _ => False) w W → Calls Tryz.prog 45 #[o.v.val] W fun e w' => e = .returned (vClean o.v).val ∧ Touch (fun _ => False) W w') := fun W t => v_clean o.v W
  have HX : Hid (∀ W, Touch (fun _ => False) w W → Calls Tryz.prog 46 #[.string o.tx, .int .i64 f, .int .i64 tt] W fun e w' => e = .returned (.string (cutOf o.tx.data.toList f tt)) ∧ Touch (fun _ => False) W w') := fun W t => utf_cut o.tx h f tt W (hU.keep t)
  clear h hU
  go_enter Tryz.func14, Tryz.ntmps14
  go_upto_region 1 with fail
  obtain ⟨W1, hW1⟩ : ∃ W1, Hid (W1 = (w.alloc (opO o)).alloc (.cells #[.int .u64 0, .int .u64 0, .int .i64 0, .int .u64 0, .int .u64 0, .int .u64 0, .int .u64 0, .int .u64 0, .string ⟨#[]⟩, .int .i64 0, .int .i64 0, .float .f64 0, .string ⟨#[]⟩, .string ⟨#[]⟩, .int .u64 0, .int .u64 0, .int .u64 0, .int .u64 0, .bool false, .int .u64 0, .int .u64 0, .bool false] 31)) := ⟨_, Eq.refl _⟩
  have HT1 : Hid (Touch (fun _ => False) w W1) := by rw [hW1.out]; exact ((Touch.refl _ _).alloc _).alloc _
  have HA1 : Hid (OpAt w.heap.size o W1 ∧ OpAt (w.heap.size + 1) zeroO W1) := by rw [hW1.out]; exact heap_two w _ _
  rw [← hW1.out]
  clear hW1
  go_upto_region 2 with fail
  refine wp_region_lit ?_
  refine wpList_plain rfl fun K hK => ?_
  go_simp
  refine hK _ _ ?_
  clear hK K
  refine wpList_store_mid rfl 31 (.tmp 6) (.tmp 21) rfl (w.heap.size + 1) 0 zeroO.vals rfl rfl (HA1.out.2.there 0 22 (by decide)) (by kernel_rfl) (by kernel_rfl) ?_
  simp only [Act.put]
  obtain ⟨W2, hW2⟩ : ∃ W2, Hid (W2 = W1.setCells (w.heap.size + 1) 0 zeroO.vals.toList) := ⟨_, Eq.refl _⟩
  have HT2 : Hid (Touch (fun _ => False) w W2) := by rw [hW2.out]; exact HT1.out.stored (by omega) 0 zeroO.vals.toList
  have HA2 : Hid (OpAt w.heap.size (o) W2 ∧ OpAt (w.heap.size + 1) (zeroO) W2) := ⟨by rw [hW2.out]; exact HA1.out.1.stored_other (by omega) 0 zeroO.vals.toList, by rw [hW2.out]; exact HA1.out.2.stored 0 zeroO.vals.toList (by kernel_rfl)⟩
  rw [← hW2.out]
  clear hW2 HT1 HA1
  go_wp2_with fail
  have hLd := run_loadVar_mid (P := Tryz.prog) W2 (w.heap.size + 1) 0 31 (zeroO).vals.toList _ (rangeAt_of HA2.out.2) Tryz.underlying31 rfl (by kernel_rfl)
  refine bodyPost_ret (v := .tuple #[(zeroO).val, .bool false]) ?_ rfl ⟨by rw [HG1.out, HG2.out], HT2.out⟩
  simp [results, Tryz.results14, asAddr, hLd]
set_option maxHeartbeats 8000000 in
theorem cut_over (o : O) (f tt : Int) (h1 : ¬ f < 0) (h2 : ¬ tt ≤ f) (h3 : (lenO o : Int) < tt) (h : o.tx.size ≤ 281474976710656) (w : World) (hU : TabsU w) : Calls Tryz.prog 14 #[o.val, .int .i64 f, .int .i64 tt] w fun e w' => e = .returned (.tuple #[(cutRes o f tt).val, .bool (cutOk o f tt)]) ∧ Touch (fun _ => False) w w' := by
  have HG1 : Hid (cutOk o f tt = false) := by unfold cutOk Hid; simp; omega
  have HG2 : Hid (cutRes o f tt = zeroO) := by unfold cutRes Hid; rw [HG1.out]; rfl
  have HL : Hid (∀ W, Touch (fun _ => False) w W → Calls Tryz.prog 17 #[o.val] W fun e w' => e = .returned (.int .i64 (lenO o : Int)) ∧ Touch (fun _ => False) W w') := fun W t => ops_len o (by omega) W (hU.keep t)
  have HC : Hid (∀ W, Touch (fun _ => False) w W → Calls Tryz.prog 45 #[o.v.val] W fun e w' => e = .returned (vClean o.v).val ∧ Touch (fun _ => False) W w') := fun W t => v_clean o.v W
  have HX : Hid (∀ W, Touch (fun _ => False) w W → Calls Tryz.prog 46 #[.string o.tx, .int .i64 f, .int .i64 tt] W fun e w' => e = .returned (.string (cutOf o.tx.data.toList f tt)) ∧ Touch (fun _ => False) W w') := fun W t => utf_cut o.tx h f tt W (hU.keep t)
  clear h hU
  go_enter Tryz.func14, Tryz.ntmps14
  go_upto_region 1 with fail
  obtain ⟨W1, hW1⟩ : ∃ W1, Hid (W1 = (w.alloc (opO o)).alloc (.cells #[.int .u64 0, .int .u64 0, .int .i64 0, .int .u64 0, .int .u64 0, .int .u64 0, .int .u64 0, .int .u64 0, .string ⟨#[]⟩, .int .i64 0, .int .i64 0, .float .f64 0, .string ⟨#[]⟩, .string ⟨#[]⟩, .int .u64 0, .int .u64 0, .int .u64 0, .int .u64 0, .bool false, .int .u64 0, .int .u64 0, .bool false] 31)) := ⟨_, Eq.refl _⟩
  have HT1 : Hid (Touch (fun _ => False) w W1) := by rw [hW1.out]; exact ((Touch.refl _ _).alloc _).alloc _
  have HA1 : Hid (OpAt w.heap.size o W1 ∧ OpAt (w.heap.size + 1) zeroO W1) := by rw [hW1.out]; exact heap_two w _ _
  rw [← hW1.out]
  clear hW1
  refine wp_region_lit ?_
  refine wpList_plain rfl fun K hK => ?_
  go_simp
  refine hK _ _ ?_
  clear hK K
  refine wpList_plain rfl fun K hK => ?_
  go_simp
  refine hK _ _ ?_
  clear hK K
  refine wpList_plain rfl fun K hK => ?_
  go_simp
  refine hK _ _ ?_
  clear hK K
  refine wpList_step fun K hK => ?_
  rw [if_pos (by kernel_rfl)]
  go_simp
  refine hK _ _ ?_
  clear hK K
  refine wpList_step fun K hK => ?_
  rw [if_pos (by kernel_rfl)]
  go_simp
  refine hK _ _ ?_
  clear hK K
  refine wpList_step fun K hK => ?_
  rw [if_pos (by kernel_rfl)]
  go_simp
  refine hK _ _ ?_
  clear hK K
  refine wpList_plain rfl fun K hK => ?_
  go_simp
  refine hK _ _ ?_
  clear hK K
  refine wpList_plain rfl fun K hK => ?_
  go_simp
  refine hK _ _ ?_
  clear hK K
  refine wpList_step fun K hK => ?_
  rw [if_pos (by kernel_rfl)]
  go_simp
  refine hK _ _ ?_
  clear hK K
  refine wpList_step fun K hK => ?_
  rw [if_pos (by kernel_rfl)]
  refine wp_load_mid 31 (.tmp 3) rfl w.heap.size 0 rfl (o).vals.toList _ (rangeAt_of HA1.out.1) Tryz.underlying31 rfl (by kernel_rfl) (hK _ _ ?_)
  clear hK K
  simp only [Act.put, List.setIfInBounds_toArray, List.set_cons_succ, List.set_cons_zero]
  refine wpList_step fun K hK => ?_
  rw [if_pos (by kernel_rfl)]
  go_simp
  refine (HL.out _ HT1.out).mono ?_
  rintro e W2 ⟨rfl, t⟩
  have HT2 : Hid (Touch (fun _ => False) w W2) := HT1.out.trans t
  have HA2 : Hid (OpAt w.heap.size (o) W2 ∧ OpAt (w.heap.size + 1) (zeroO) W2) := ⟨HA1.out.1.keep t, HA1.out.2.keep t⟩
  clear t HT1 HA1
  refine hK _ _ ?_
  clear hK K
  go_upto_region 2 with fail
  refine wp_region_lit ?_
  refine wpList_plain rfl fun K hK => ?_
  go_simp
  refine hK _ _ ?_
  clear hK K
  refine wpList_store_mid rfl 31 (.tmp 6) (.tmp 21) rfl (w.heap.size + 1) 0 zeroO.vals rfl rfl (HA2.out.2.there 0 22 (by decide)) (by kernel_rfl) (by kernel_rfl) ?_
  simp only [Act.put]
  obtain ⟨W3, hW3⟩ : ∃ W3, Hid (W3 = W2.setCells (w.heap.size + 1) 0 zeroO.vals.toList) := ⟨_, Eq.refl _⟩
  have HT3 : Hid (Touch (fun _ => False) w W3) := by rw [hW3.out]; exact HT2.out.stored (by omega) 0 zeroO.vals.toList
  have HA3 : Hid (OpAt w.heap.size (o) W3 ∧ OpAt (w.heap.size + 1) (zeroO) W3) := ⟨by rw [hW3.out]; exact HA2.out.1.stored_other (by omega) 0 zeroO.vals.toList, by rw [hW3.out]; exact HA2.out.2.stored 0 zeroO.vals.toList (by kernel_rfl)⟩
  rw [← hW3.out]
  clear hW3 HT2 HA2
  go_wp2_with fail
  have hLd := run_loadVar_mid (P := Tryz.prog) W3 (w.heap.size + 1) 0 31 (zeroO).vals.toList _ (rangeAt_of HA3.out.2) Tryz.underlying31 rfl (by kernel_rfl)
  refine bodyPost_ret (v := .tuple #[(zeroO).val, .bool false]) ?_ rfl ⟨by rw [HG1.out, HG2.out], HT3.out⟩
  simp [results, Tryz.results14, asAddr, hLd]
set_option maxHeartbeats 8000000 in
theorem cut_t0 (o : O) (f tt : Int) (h1 : ¬ f < 0) (h2 : ¬ tt ≤ f) (h3 : ¬ (lenO o : Int) < tt) (hk : o.kind = 1) (hf : ¬ 0 < f) (h : o.tx.size ≤ 281474976710656) (w : World) (hU : TabsU w) : Calls Tryz.prog 14 #[o.val, .int .i64 f, .int .i64 tt] w fun e w' => e = .returned (.tuple #[(cutRes o f tt).val, .bool (cutOk o f tt)]) ∧ Touch (fun _ => False) w w' := by
  have HG1 : Hid (cutOk o f tt = true) := by unfold cutOk Hid; simp; omega
  have HG2 : Hid (cutRes o f tt = (o.clean.cutT f tt)) := by unfold cutRes Hid; rw [if_pos HG1.out, if_pos hk, if_neg hf]
  have HD : Hid (o.kind = 1) := hk
  clear hk
  have HL : Hid (∀ W, Touch (fun _ => False) w W → Calls Tryz.prog 17 #[o.val] W fun e w' => e = .returned (.int .i64 (lenO o : Int)) ∧ Touch (fun _ => False) W w') := fun W t => ops_len o (by omega) W (hU.keep t)
  have HC : Hid (∀ W, Touch (fun _ => False) w W → Calls Tryz.prog 45 #[o.v.val] W fun e w' => e = .returned (vClean o.v).val ∧ Touch (fun _ => False) W w') := fun W t => v_clean o.v W
  have HX : Hid (∀ W, Touch (fun _ => False) w W → Calls Tryz.prog 46 #[.string o.tx, .int .i64 f, .int .i64 tt] W fun e w' => e = .returned (.string (cutOf o.tx.data.toList f tt)) ∧ Touch (fun _ => False) W w') := fun W t => utf_cut o.tx h f tt W (hU.keep t)
  clear h hU
  go_enter Tryz.func14, Tryz.ntmps14
  go_upto_region 1 with fail
  obtain ⟨W1, hW1⟩ : ∃ W1, Hid (W1 = (w.alloc (opO o)).alloc (.cells #[.int .u64 0, .int .u64 0, .int .i64 0, .int .u64 0, .int .u64 0, .int .u64 0, .int .u64 0, .int .u64 0, .string ⟨#[]⟩, .int .i64 0, .int .i64 0, .float .f64 0, .string ⟨#[]⟩, .string ⟨#[]⟩, .int .u64 0, .int .u64 0, .int .u64 0, .int .u64 0, .bool false, .int .u64 0, .int .u64 0, .bool false] 31)) := ⟨_, Eq.refl _⟩
  have HT1 : Hid (Touch (fun _ => False) w W1) := by rw [hW1.out]; exact ((Touch.refl _ _).alloc _).alloc _
  have HA1 : Hid (OpAt w.heap.size o W1 ∧ OpAt (w.heap.size + 1) zeroO W1) := by rw [hW1.out]; exact heap_two w _ _
  rw [← hW1.out]
  clear hW1
  refine wp_region_lit ?_
  refine wpList_plain rfl fun K hK => ?_
  go_simp
  refine hK _ _ ?_
  clear hK K
  refine wpList_plain rfl fun K hK => ?_
  go_simp
  refine hK _ _ ?_
  clear hK K
  refine wpList_plain rfl fun K hK => ?_
  go_simp
  refine hK _ _ ?_
  clear hK K
  refine wpList_step fun K hK => ?_
  rw [if_pos (by kernel_rfl)]
  go_simp
  refine hK _ _ ?_
  clear hK K
  refine wpList_step fun K hK => ?_
  rw [if_pos (by kernel_rfl)]
  go_simp
  refine hK _ _ ?_
  clear hK K
  refine wpList_step fun K hK => ?_
  rw [if_pos (by kernel_rfl)]
  go_simp
  refine hK _ _ ?_
  clear hK K
  refine wpList_plain rfl fun K hK => ?_
  go_simp
  refine hK _ _ ?_
  clear hK K
  refine wpList_plain rfl fun K hK => ?_
  go_simp
  refine hK _ _ ?_
  clear hK K
  refine wpList_step fun K hK => ?_
  rw [if_pos (by kernel_rfl)]
  go_simp
  refine hK _ _ ?_
  clear hK K
  refine wpList_step fun K hK => ?_
  rw [if_pos (by kernel_rfl)]
  refine wp_load_mid 31 (.tmp 3) rfl w.heap.size 0 rfl (o).vals.toList _ (rangeAt_of HA1.out.1) Tryz.underlying31 rfl (by kernel_rfl) (hK _ _ ?_)
  clear hK K
  simp only [Act.put, List.setIfInBounds_toArray, List.set_cons_succ, List.set_cons_zero]
  refine wpList_step fun K hK => ?_
  rw [if_pos (by kernel_rfl)]
  go_simp
  refine (HL.out _ HT1.out).mono ?_
  rintro e W2 ⟨rfl, t⟩
  have HT2 : Hid (Touch (fun _ => False) w W2) := HT1.out.trans t
  have HA2 : Hid (OpAt w.heap.size (o) W2 ∧ OpAt (w.heap.size + 1) (zeroO) W2) := ⟨HA1.out.1.keep t, HA1.out.2.keep t⟩
  clear t HT1 HA1
  refine hK _ _ ?_
  clear hK K
  go_upto_region 3 with fail
  refine wp_region_lit ?_
  have q9 := HA2.out.1.q9
  have q10 := HA2.out.1.q10
  have q11 := HA2.out.1.q11
  have q12 := HA2.out.1.q12
  refine wpList_plain rfl fun K hK => ?_
  go_simp
  refine hK _ _ ?_
  clear hK K
  refine wpList_plain rfl fun K hK => ?_
  go_simp
  refine hK _ _ ?_
  clear hK K
  clear q9 q10 q11 q12
  refine wpList_plain rfl fun K hK => ?_
  go_simp
  refine (HC.out _ HT2.out).mono ?_
  rintro e W3 ⟨rfl, t⟩
  have HT3 : Hid (Touch (fun _ => False) w W3) := HT2.out.trans t
  have HA3 : Hid (OpAt w.heap.size (o) W3 ∧ OpAt (w.heap.size + 1) (zeroO) W3) := ⟨HA2.out.1.keep t, HA2.out.2.keep t⟩
  clear t HT2 HA2
  refine hK _ _ ?_
  clear hK K
  refine wpList_plain rfl fun K hK => ?_
  go_simp
  refine hK _ _ ?_
  clear hK K
  refine wpList_store_mid rfl 27 (.tmp 25) (.tmp 24) rfl w.heap.size 9 #[.int .i64 o.vk, .int .i64 o.vn, .float .f64 (refBits o.vf), .string o.vs] rfl rfl (HA3.out.1.there 9 4 (by decide)) (by kernel_rfl) (by kernel_rfl) ?_
  simp only [Act.put]
  obtain ⟨W4, hW4⟩ : ∃ W4, Hid (W4 = W3.setCells w.heap.size 9 [.int .i64 o.vk, .int .i64 o.vn, .float .f64 (refBits o.vf), .string o.vs]) := ⟨_, Eq.refl _⟩
  have HT4 : Hid (Touch (fun _ => False) w W4) := by rw [hW4.out]; exact HT3.out.stored (by omega) 9 [.int .i64 o.vk, .int .i64 o.vn, .float .f64 (refBits o.vf), .string o.vs]
  have HA4 : Hid (OpAt w.heap.size (o.clean) W4 ∧ OpAt (w.heap.size + 1) (zeroO) W4) := ⟨by rw [hW4.out]; exact HA3.out.1.stored 9 [.int .i64 o.vk, .int .i64 o.vn, .float .f64 (refBits o.vf), .string o.vs] (by kernel_rfl), by rw [hW4.out]; exact HA3.out.2.stored_other (by omega) 9 [.int .i64 o.vk, .int .i64 o.vn, .float .f64 (refBits o.vf), .string o.vs]⟩
  rw [← hW4.out]
  clear hW4 HT3 HA3
  have q2 : W4.cell? ⟨w.heap.size, 2, none⟩ = some (.int .i64 o.kind) := HA4.out.1.q2
  rw [HD.out] at q2
  go_upto_region 5 with fail
  clear q2
  refine wp_region_lit ?_
  have q8 : W4.cell? ⟨w.heap.size, 8, none⟩ = some (.string o.tx) := HA4.out.1.q8
  refine wpList_plain rfl fun K hK => ?_
  go_simp
  refine hK _ _ ?_
  clear hK K
  refine wpList_plain rfl fun K hK => ?_
  go_simp
  refine hK _ _ ?_
  clear hK K
  refine wpList_plain rfl fun K hK => ?_
  go_simp
  refine hK _ _ ?_
  clear hK K
  refine wpList_plain rfl fun K hK => ?_
  go_simp
  refine hK _ _ ?_
  clear hK K
  clear q8
  refine wpList_plain rfl fun K hK => ?_
  go_simp
  refine (HX.out _ HT4.out).mono ?_
  rintro e W5 ⟨rfl, t⟩
  have HT5 : Hid (Touch (fun _ => False) w W5) := HT4.out.trans t
  have HA5 : Hid (OpAt w.heap.size (o.clean) W5 ∧ OpAt (w.heap.size + 1) (zeroO) W5) := ⟨HA4.out.1.keep t, HA4.out.2.keep t⟩
  clear t HT4 HA4
  refine hK _ _ ?_
  clear hK K
  refine wpList_plain rfl fun K hK => ?_
  go_simp
  refine hK _ _ ?_
  clear hK K
  have q := HA5.out.1.q8
  have z : W5.frozen? ⟨w.heap.size, 8, none⟩ = false := free_of_block HA5.out.1
  refine wpList_plain rfl fun K hK => ?_
  go_simp
  refine hK _ _ ?_
  clear hK K q z
  obtain ⟨W6, hW6⟩ : ∃ W6, Hid (W6 = W5.setCell ⟨w.heap.size, 8, none⟩ (.string (cutOf o.tx.data.toList f tt))) := ⟨_, Eq.refl _⟩
  have HT6 : Hid (Touch (fun _ => False) w W6) := by rw [hW6.out]; exact HT5.out.stored (by omega) 8 [.string (cutOf o.tx.data.toList f tt)]
  have HA6 : Hid (OpAt w.heap.size (o.clean.cutT f tt) W6 ∧ OpAt (w.heap.size + 1) (zeroO) W6) := ⟨by rw [hW6.out]; exact HA5.out.1.stored 8 [.string (cutOf o.tx.data.toList f tt)] (by kernel_rfl), by rw [hW6.out]; exact HA5.out.2.stored_other (by omega) 8 [.string (cutOf o.tx.data.toList f tt)]⟩
  rw [← hW6.out]
  clear hW6 HT5 HA5
  go_upto_region 9 with fail
  refine wp_region_lit ?_
  refine wpList_load_mid rfl 31 (.tmp 3) rfl w.heap.size 0 rfl ((o.clean.cutT f tt)).vals.toList _ (rangeAt_of HA6.out.1) Tryz.underlying31 rfl (by kernel_rfl) ?_
  simp only [Act.put, List.setIfInBounds_toArray, List.set_cons_succ, List.set_cons_zero]
  refine wpList_store_mid rfl 31 (.tmp 6) (.tmp 54) rfl (w.heap.size + 1) 0 ((o.clean.cutT f tt)).vals rfl rfl (HA6.out.2.there 0 22 (by decide)) (by kernel_rfl) (by kernel_rfl) ?_
  simp only [Act.put]
  obtain ⟨W7, hW7⟩ : ∃ W7, Hid (W7 = W6.setCells (w.heap.size + 1) 0 ((o.clean.cutT f tt)).vals.toList) := ⟨_, Eq.refl _⟩
  have HT7 : Hid (Touch (fun _ => False) w W7) := by rw [hW7.out]; exact HT6.out.stored (by omega) 0 ((o.clean.cutT f tt)).vals.toList
  have HA7 : Hid (OpAt w.heap.size (o.clean.cutT f tt) W7 ∧ OpAt (w.heap.size + 1) ((o.clean.cutT f tt)) W7) := ⟨by rw [hW7.out]; exact HA6.out.1.stored_other (by omega) 0 ((o.clean.cutT f tt)).vals.toList, by rw [hW7.out]; exact HA6.out.2.stored 0 ((o.clean.cutT f tt)).vals.toList (by kernel_rfl)⟩
  rw [← hW7.out]
  clear hW7 HT6 HA6
  go_wp2_with fail
  have hLd := run_loadVar_mid (P := Tryz.prog) W7 (w.heap.size + 1) 0 31 ((o.clean.cutT f tt)).vals.toList _ (rangeAt_of HA7.out.2) Tryz.underlying31 rfl (by kernel_rfl)
  refine bodyPost_ret (v := .tuple #[((o.clean.cutT f tt)).val, .bool true]) ?_ rfl ⟨by rw [HG1.out, HG2.out], HT7.out⟩
  simp [results, Tryz.results14, asAddr, hLd]
set_option maxHeartbeats 8000000 in
theorem cut_t1 (o : O) (f tt : Int) (h1 : ¬ f < 0) (h2 : ¬ tt ≤ f) (h3 : ¬ (lenO o : Int) < tt) (hk : o.kind = 1) (hf : 0 < f) (h : o.tx.size ≤ 281474976710656) (w : World) (hU : TabsU w) : Calls Tryz.prog 14 #[o.val, .int .i64 f, .int .i64 tt] w fun e w' => e = .returned (.tuple #[(cutRes o f tt).val, .bool (cutOk o f tt)]) ∧ Touch (fun _ => False) w w' := by
  have HG1 : Hid (cutOk o f tt = true) := by unfold cutOk Hid; simp; omega
  have HG2 : Hid (cutRes o f tt = (o.clean.cutT f tt).moved f) := by unfold cutRes Hid; rw [if_pos HG1.out, if_pos hk, if_pos hf]
  have HD : Hid (o.kind = 1) := hk
  clear hk
  have HL : Hid (∀ W, Touch (fun _ => False) w W → Calls Tryz.prog 17 #[o.val] W fun e w' => e = .returned (.int .i64 (lenO o : Int)) ∧ Touch (fun _ => False) W w') := fun W t => ops_len o (by omega) W (hU.keep t)
  have HC : Hid (∀ W, Touch (fun _ => False) w W → Calls Tryz.prog 45 #[o.v.val] W fun e w' => e = .returned (vClean o.v).val ∧ Touch (fun _ => False) W w') := fun W t => v_clean o.v W
  have HX : Hid (∀ W, Touch (fun _ => False) w W → Calls Tryz.prog 46 #[.string o.tx, .int .i64 f, .int .i64 tt] W fun e w' => e = .returned (.string (cutOf o.tx.data.toList f tt)) ∧ Touch (fun _ => False) W w') := fun W t => utf_cut o.tx h f tt W (hU.keep t)
  clear h hU
  go_enter Tryz.func14, Tryz.ntmps14
  go_upto_region 1 with fail
  obtain ⟨W1, hW1⟩ : ∃ W1, Hid (W1 = (w.alloc (opO o)).alloc (.cells #[.int .u64 0, .int .u64 0, .int .i64 0, .int .u64 0, .int .u64 0, .int .u64 0, .int .u64 0, .int .u64 0, .string ⟨#[]⟩, .int .i64 0, .int .i64 0, .float .f64 0, .string ⟨#[]⟩, .string ⟨#[]⟩, .int .u64 0, .int .u64 0, .int .u64 0, .int .u64 0, .bool false, .int .u64 0, .int .u64 0, .bool false] 31)) := ⟨_, Eq.refl _⟩
  have HT1 : Hid (Touch (fun _ => False) w W1) := by rw [hW1.out]; exact ((Touch.refl _ _).alloc _).alloc _
  have HA1 : Hid (OpAt w.heap.size o W1 ∧ OpAt (w.heap.size + 1) zeroO W1) := by rw [hW1.out]; exact heap_two w _ _
  rw [← hW1.out]
  clear hW1
  refine wp_region_lit ?_
  refine wpList_plain rfl fun K hK => ?_
  go_simp
  refine hK _ _ ?_
  clear hK K
  refine wpList_plain rfl fun K hK => ?_
  go_simp
  refine hK _ _ ?_
  clear hK K
  refine wpList_plain rfl fun K hK => ?_
  go_simp
  refine hK _ _ ?_
  clear hK K
  refine wpList_step fun K hK => ?_
  rw [if_pos (by kernel_rfl)]
  go_simp
  refine hK _ _ ?_
  clear hK K
  refine wpList_step fun K hK => ?_
  rw [if_pos (by kernel_rfl)]
  go_simp
  refine hK _ _ ?_
  clear hK K
  refine wpList_step fun K hK => ?_
  rw [if_pos (by kernel_rfl)]
  go_simp
  refine hK _ _ ?_
  clear hK K
  refine wpList_plain rfl fun K hK => ?_
  go_simp
  refine hK _ _ ?_
  clear hK K
  refine wpList_plain rfl fun K hK => ?_
  go_simp
  refine hK _ _ ?_
  clear hK K
  refine wpList_step fun K hK => ?_
  rw [if_pos (by kernel_rfl)]
  go_simp
  refine hK _ _ ?_
  clear hK K
  refine wpList_step fun K hK => ?_
  rw [if_pos (by kernel_rfl)]
  refine wp_load_mid 31 (.tmp 3) rfl w.heap.size 0 rfl (o).vals.toList _ (rangeAt_of HA1.out.1) Tryz.underlying31 rfl (by kernel_rfl) (hK _ _ ?_)
  clear hK K
  simp only [Act.put, List.setIfInBounds_toArray, List.set_cons_succ, List.set_cons_zero]
  refine wpList_step fun K hK => ?_
  rw [if_pos (by kernel_rfl)]
  go_simp
  refine (HL.out _ HT1.out).mono ?_
  rintro e W2 ⟨rfl, t⟩
  have HT2 : Hid (Touch (fun _ => False) w W2) := HT1.out.trans t
  have HA2 : Hid (OpAt w.heap.size (o) W2 ∧ OpAt (w.heap.size + 1) (zeroO) W2) := ⟨HA1.out.1.keep t, HA1.out.2.keep t⟩
  clear t HT1 HA1
  refine hK _ _ ?_
  clear hK K
  go_upto_region 3 with fail
  refine wp_region_lit ?_
  have q9 := HA2.out.1.q9
  have q10 := HA2.out.1.q10
  have q11 := HA2.out.1.q11
  have q12 := HA2.out.1.q12
  refine wpList_plain rfl fun K hK => ?_
  go_simp
  refine hK _ _ ?_
  clear hK K
  refine wpList_plain rfl fun K hK => ?_
  go_simp
  refine hK _ _ ?_
  clear hK K
  clear q9 q10 q11 q12
  refine wpList_plain rfl fun K hK => ?_
  go_simp
  refine (HC.out _ HT2.out).mono ?_
  rintro e W3 ⟨rfl, t⟩
  have HT3 : Hid (Touch (fun _ => False) w W3) := HT2.out.trans t
  have HA3 : Hid (OpAt w.heap.size (o) W3 ∧ OpAt (w.heap.size + 1) (zeroO) W3) := ⟨HA2.out.1.keep t, HA2.out.2.keep t⟩
  clear t HT2 HA2
  refine hK _ _ ?_
  clear hK K
  refine wpList_plain rfl fun K hK => ?_
  go_simp
  refine hK _ _ ?_
  clear hK K
  refine wpList_store_mid rfl 27 (.tmp 25) (.tmp 24) rfl w.heap.size 9 #[.int .i64 o.vk, .int .i64 o.vn, .float .f64 (refBits o.vf), .string o.vs] rfl rfl (HA3.out.1.there 9 4 (by decide)) (by kernel_rfl) (by kernel_rfl) ?_
  simp only [Act.put]
  obtain ⟨W4, hW4⟩ : ∃ W4, Hid (W4 = W3.setCells w.heap.size 9 [.int .i64 o.vk, .int .i64 o.vn, .float .f64 (refBits o.vf), .string o.vs]) := ⟨_, Eq.refl _⟩
  have HT4 : Hid (Touch (fun _ => False) w W4) := by rw [hW4.out]; exact HT3.out.stored (by omega) 9 [.int .i64 o.vk, .int .i64 o.vn, .float .f64 (refBits o.vf), .string o.vs]
  have HA4 : Hid (OpAt w.heap.size (o.clean) W4 ∧ OpAt (w.heap.size + 1) (zeroO) W4) := ⟨by rw [hW4.out]; exact HA3.out.1.stored 9 [.int .i64 o.vk, .int .i64 o.vn, .float .f64 (refBits o.vf), .string o.vs] (by kernel_rfl), by rw [hW4.out]; exact HA3.out.2.stored_other (by omega) 9 [.int .i64 o.vk, .int .i64 o.vn, .float .f64 (refBits o.vf), .string o.vs]⟩
  rw [← hW4.out]
  clear hW4 HT3 HA3
  have q2 : W4.cell? ⟨w.heap.size, 2, none⟩ = some (.int .i64 o.kind) := HA4.out.1.q2
  rw [HD.out] at q2
  go_upto_region 5 with fail
  clear q2
  refine wp_region_lit ?_
  have q8 : W4.cell? ⟨w.heap.size, 8, none⟩ = some (.string o.tx) := HA4.out.1.q8
  refine wpList_plain rfl fun K hK => ?_
  go_simp
  refine hK _ _ ?_
  clear hK K
  refine wpList_plain rfl fun K hK => ?_
  go_simp
  refine hK _ _ ?_
  clear hK K
  refine wpList_plain rfl fun K hK => ?_
  go_simp
  refine hK _ _ ?_
  clear hK K
  refine wpList_plain rfl fun K hK => ?_
  go_simp
  refine hK _ _ ?_
  clear hK K
  clear q8
  refine wpList_plain rfl fun K hK => ?_
  go_simp
  refine (HX.out _ HT4.out).mono ?_
  rintro e W5 ⟨rfl, t⟩
  have HT5 : Hid (Touch (fun _ => False) w W5) := HT4.out.trans t
  have HA5 : Hid (OpAt w.heap.size (o.clean) W5 ∧ OpAt (w.heap.size + 1) (zeroO) W5) := ⟨HA4.out.1.keep t, HA4.out.2.keep t⟩
  clear t HT4 HA4
  refine hK _ _ ?_
  clear hK K
  refine wpList_plain rfl fun K hK => ?_
  go_simp
  refine hK _ _ ?_
  clear hK K
  have q := HA5.out.1.q8
  have z : W5.frozen? ⟨w.heap.size, 8, none⟩ = false := free_of_block HA5.out.1
  refine wpList_plain rfl fun K hK => ?_
  go_simp
  refine hK _ _ ?_
  clear hK K q z
  obtain ⟨W6, hW6⟩ : ∃ W6, Hid (W6 = W5.setCell ⟨w.heap.size, 8, none⟩ (.string (cutOf o.tx.data.toList f tt))) := ⟨_, Eq.refl _⟩
  have HT6 : Hid (Touch (fun _ => False) w W6) := by rw [hW6.out]; exact HT5.out.stored (by omega) 8 [.string (cutOf o.tx.data.toList f tt)]
  have HA6 : Hid (OpAt w.heap.size (o.clean.cutT f tt) W6 ∧ OpAt (w.heap.size + 1) (zeroO) W6) := ⟨by rw [hW6.out]; exact HA5.out.1.stored 8 [.string (cutOf o.tx.data.toList f tt)] (by kernel_rfl), by rw [hW6.out]; exact HA5.out.2.stored_other (by omega) 8 [.string (cutOf o.tx.data.toList f tt)]⟩
  rw [← hW6.out]
  clear hW6 HT5 HA5
  go_upto_region 7 with fail
  refine wp_region_lit ?_
  have q1 : W6.cell? ⟨w.heap.size, 1, none⟩ = some (.int .u64 o.k) := HA6.out.1.q1
  refine wpList_plain rfl fun K hK => ?_
  go_simp
  refine hK _ _ ?_
  clear hK K
  refine wpList_plain rfl fun K hK => ?_
  go_simp
  refine hK _ _ ?_
  clear hK K
  refine wpList_plain rfl fun K hK => ?_
  go_simp
  refine hK _ _ ?_
  clear hK K
  refine wpList_plain rfl fun K hK => ?_
  go_simp
  refine hK _ _ ?_
  clear hK K
  refine wpList_plain rfl fun K hK => ?_
  go_simp
  refine hK _ _ ?_
  clear hK K
  refine wpList_plain rfl fun K hK => ?_
  go_simp
  refine hK _ _ ?_
  clear hK K
  refine wpList_plain rfl fun K hK => ?_
  go_simp
  refine hK _ _ ?_
  clear hK K
  refine wpList_plain rfl fun K hK => ?_
  go_simp
  refine hK _ _ ?_
  clear hK K
  clear q1
  have q := HA6.out.1.q1
  have z : W6.frozen? ⟨w.heap.size, 1, none⟩ = false := free_of_block HA6.out.1
  refine wpList_plain rfl fun K hK => ?_
  go_simp
  refine hK _ _ ?_
  clear hK K q z
  obtain ⟨W7, hW7⟩ : ∃ W7, Hid (W7 = W6.setCell ⟨w.heap.size, 1, none⟩ (.int .u64 (IntKind.u64.wrap (o.k + IntKind.u64.wrap f)))) := ⟨_, Eq.refl _⟩
  have HT7 : Hid (Touch (fun _ => False) w W7) := by rw [hW7.out]; exact HT6.out.stored (by omega) 1 [.int .u64 (IntKind.u64.wrap (o.k + IntKind.u64.wrap f))]
  have HA7 : Hid (OpAt w.heap.size ({ (o.clean.cutT f tt) with k := IntKind.u64.wrap (o.k + IntKind.u64.wrap f) }) W7 ∧ OpAt (w.heap.size + 1) (zeroO) W7) := ⟨by rw [hW7.out]; exact HA6.out.1.stored 1 [.int .u64 (IntKind.u64.wrap (o.k + IntKind.u64.wrap f))] (by kernel_rfl), by rw [hW7.out]; exact HA6.out.2.stored_other (by omega) 1 [.int .u64 (IntKind.u64.wrap (o.k + IntKind.u64.wrap f))]⟩
  rw [← hW7.out]
  clear hW7 HT6 HA6
  go_upto_region 8 with fail
  refine wp_region_lit ?_
  have q0 : W7.cell? ⟨w.heap.size, 0, none⟩ = some (.int .u64 o.c) := HA7.out.1.q0
  have q1 : W7.cell? ⟨w.heap.size, 1, none⟩ = some (.int .u64 (IntKind.u64.wrap (o.k + IntKind.u64.wrap f))) := HA7.out.1.q1
  refine wpList_plain rfl fun K hK => ?_
  go_simp
  refine hK _ _ ?_
  clear hK K
  refine wpList_plain rfl fun K hK => ?_
  go_simp
  refine hK _ _ ?_
  clear hK K
  refine wpList_plain rfl fun K hK => ?_
  go_simp
  refine hK _ _ ?_
  clear hK K
  refine wpList_plain rfl fun K hK => ?_
  go_simp
  refine hK _ _ ?_
  clear hK K
  refine wpList_plain rfl fun K hK => ?_
  go_simp
  refine hK _ _ ?_
  clear hK K
  refine wpList_plain rfl fun K hK => ?_
  go_simp
  refine hK _ _ ?_
  clear hK K
  refine wpList_plain rfl fun K hK => ?_
  go_simp
  refine hK _ _ ?_
  clear hK K
  refine wpList_plain rfl fun K hK => ?_
  go_simp
  refine hK _ _ ?_
  clear hK K
  refine wpList_plain rfl fun K hK => ?_
  go_simp
  refine hK _ _ ?_
  clear hK K
  clear q0 q1
  refine wpList_store_mid rfl 24 (.tmp 53) (.tmp 52) rfl w.heap.size 4 #[.int .u64 o.c, .int .u64 (IntKind.u64.wrap (IntKind.u64.wrap (o.k + IntKind.u64.wrap f) - 1))] rfl rfl (HA7.out.1.there 4 2 (by decide)) (by kernel_rfl) (by kernel_rfl) ?_
  simp only [Act.put]
  obtain ⟨W8, hW8⟩ : ∃ W8, Hid (W8 = W7.setCells w.heap.size 4 [.int .u64 o.c, .int .u64 (IntKind.u64.wrap (IntKind.u64.wrap (o.k + IntKind.u64.wrap f) - 1))]) := ⟨_, Eq.refl _⟩
  have HT8 : Hid (Touch (fun _ => False) w W8) := by rw [hW8.out]; exact HT7.out.stored (by omega) 4 [.int .u64 o.c, .int .u64 (IntKind.u64.wrap (IntKind.u64.wrap (o.k + IntKind.u64.wrap f) - 1))]
  have HA8 : Hid (OpAt w.heap.size ((o.clean.cutT f tt).moved f) W8 ∧ OpAt (w.heap.size + 1) (zeroO) W8) := ⟨by rw [hW8.out]; exact HA7.out.1.stored 4 [.int .u64 o.c, .int .u64 (IntKind.u64.wrap (IntKind.u64.wrap (o.k + IntKind.u64.wrap f) - 1))] (by kernel_rfl), by rw [hW8.out]; exact HA7.out.2.stored_other (by omega) 4 [.int .u64 o.c, .int .u64 (IntKind.u64.wrap (IntKind.u64.wrap (o.k + IntKind.u64.wrap f) - 1))]⟩
  rw [← hW8.out]
  clear hW8 HT7 HA7
  go_upto_region 9 with fail
  refine wp_region_lit ?_
  refine wpList_load_mid rfl 31 (.tmp 3) rfl w.heap.size 0 rfl (((o.clean.cutT f tt).moved f)).vals.toList _ (rangeAt_of HA8.out.1) Tryz.underlying31 rfl (by kernel_rfl) ?_
  simp only [Act.put, List.setIfInBounds_toArray, List.set_cons_succ, List.set_cons_zero]
  refine wpList_store_mid rfl 31 (.tmp 6) (.tmp 54) rfl (w.heap.size + 1) 0 (((o.clean.cutT f tt).moved f)).vals rfl rfl (HA8.out.2.there 0 22 (by decide)) (by kernel_rfl) (by kernel_rfl) ?_
  simp only [Act.put]
  obtain ⟨W9, hW9⟩ : ∃ W9, Hid (W9 = W8.setCells (w.heap.size + 1) 0 (((o.clean.cutT f tt).moved f)).vals.toList) := ⟨_, Eq.refl _⟩
  have HT9 : Hid (Touch (fun _ => False) w W9) := by rw [hW9.out]; exact HT8.out.stored (by omega) 0 (((o.clean.cutT f tt).moved f)).vals.toList
  have HA9 : Hid (OpAt w.heap.size ((o.clean.cutT f tt).moved f) W9 ∧ OpAt (w.heap.size + 1) (((o.clean.cutT f tt).moved f)) W9) := ⟨by rw [hW9.out]; exact HA8.out.1.stored_other (by omega) 0 (((o.clean.cutT f tt).moved f)).vals.toList, by rw [hW9.out]; exact HA8.out.2.stored 0 (((o.clean.cutT f tt).moved f)).vals.toList (by kernel_rfl)⟩
  rw [← hW9.out]
  clear hW9 HT8 HA8
  go_wp2_with fail
  have hLd := run_loadVar_mid (P := Tryz.prog) W9 (w.heap.size + 1) 0 31 (((o.clean.cutT f tt).moved f)).vals.toList _ (rangeAt_of HA9.out.2) Tryz.underlying31 rfl (by kernel_rfl)
  refine bodyPost_ret (v := .tuple #[(((o.clean.cutT f tt).moved f)).val, .bool true]) ?_ rfl ⟨by rw [HG1.out, HG2.out], HT9.out⟩
  simp [results, Tryz.results14, asAddr, hLd]
set_option maxHeartbeats 8000000 in
theorem cut_o0 (o : O) (f tt : Int) (h1 : ¬ f < 0) (h2 : ¬ tt ≤ f) (h3 : ¬ (lenO o : Int) < tt) (hk : ¬ o.kind = 1) (hf : ¬ 0 < f) (h : o.tx.size ≤ 281474976710656) (w : World) (hU : TabsU w) : Calls Tryz.prog 14 #[o.val, .int .i64 f, .int .i64 tt] w fun e w' => e = .returned (.tuple #[(cutRes o f tt).val, .bool (cutOk o f tt)]) ∧ Touch (fun _ => False) w w' := by
  have HG1 : Hid (cutOk o f tt = true) := by unfold cutOk Hid; simp; omega
  have HG2 : Hid (cutRes o f tt = o.clean) := by unfold cutRes Hid; rw [if_pos HG1.out, if_neg hk, if_neg hf]
  have HD : Hid ((o.kind == 1) = false) := by show (o.kind == 1) = false; simpa using hk
  clear hk
  have HL : Hid (∀ W, Touch (fun _ => False) w W → Calls Tryz.prog 17 #[o.val] W fun e w' => e = .returned (.int .i64 (lenO o : Int)) ∧ Touch (fun _ => False) W w') := fun W t => ops_len o (by omega) W (hU.keep t)
  have HC : Hid (∀ W, Touch (fun _ => False) w W → Calls Tryz.prog 45 #[o.v.val] W fun e w' => e = .returned (vClean o.v).val ∧ Touch (fun _ => False) W w') := fun W t => v_clean o.v W
  have HX : Hid (∀ W, Touch (fun _ => False) w W → Calls Tryz.prog 46 #[.string o.tx, .int .i64 f, .int .i64 tt] W fun e w' => e = .returned (.string (cutOf o.tx.data.toList f tt)) ∧ Touch (fun _ => False) W w') := fun W t => utf_cut o.tx h f tt W (hU.keep t)
  clear h hU
  go_enter Tryz.func14, Tryz.ntmps14
  go_upto_region 1 with fail
  obtain ⟨W1, hW1⟩ : ∃ W1, Hid (W1 = (w.alloc (opO o)).alloc (.cells #[.int .u64 0, .int .u64 0, .int .i64 0, .int .u64 0, .int .u64 0, .int .u64 0, .int .u64 0, .int .u64 0, .string ⟨#[]⟩, .int .i64 0, .int .i64 0, .float .f64 0, .string ⟨#[]⟩, .string ⟨#[]⟩, .int .u64 0, .int .u64 0, .int .u64 0, .int .u64 0, .bool false, .int .u64 0, .int .u64 0, .bool false] 31)) := ⟨_, Eq.refl _⟩
  have HT1 : Hid (Touch (fun _ => False) w W1) := by rw [hW1.out]; exact ((Touch.refl _ _).alloc _).alloc _
  have HA1 : Hid (OpAt w.heap.size o W1 ∧ OpAt (w.heap.size + 1) zeroO W1) := by rw [hW1.out]; exact heap_two w _ _
  rw [← hW1.out]
  clear hW1
  refine wp_region_lit ?_
  refine wpList_plain rfl fun K hK => ?_
  go_simp
  refine hK _ _ ?_
  clear hK K
  refine wpList_plain rfl fun K hK => ?_
  go_simp
  refine hK _ _ ?_
  clear hK K
  refine wpList_plain rfl fun K hK => ?_
  go_simp
  refine hK _ _ ?_
  clear hK K
  refine wpList_step fun K hK => ?_
  rw [if_pos (by kernel_rfl)]
  go_simp
  refine hK _ _ ?_
  clear hK K
  refine wpList_step fun K hK => ?_
  rw [if_pos (by kernel_rfl)]
  go_simp
  refine hK _ _ ?_
  clear hK K
  refine wpList_step fun K hK => ?_
  rw [if_pos (by kernel_rfl)]
  go_simp
  refine hK _ _ ?_
  clear hK K
  refine wpList_plain rfl fun K hK => ?_
  go_simp
  refine hK _ _ ?_
  clear hK K
  refine wpList_plain rfl fun K hK => ?_
  go_simp
  refine hK _ _ ?_
  clear hK K
  refine wpList_step fun K hK => ?_
  rw [if_pos (by kernel_rfl)]
  go_simp
  refine hK _ _ ?_
  clear hK K
  refine wpList_step fun K hK => ?_
  rw [if_pos (by kernel_rfl)]
  refine wp_load_mid 31 (.tmp 3) rfl w.heap.size 0 rfl (o).vals.toList _ (rangeAt_of HA1.out.1) Tryz.underlying31 rfl (by kernel_rfl) (hK _ _ ?_)
  clear hK K
  simp only [Act.put, List.setIfInBounds_toArray, List.set_cons_succ, List.set_cons_zero]
  refine wpList_step fun K hK => ?_
  rw [if_pos (by kernel_rfl)]
  go_simp
  refine (HL.out _ HT1.out).mono ?_
  rintro e W2 ⟨rfl, t⟩
  have HT2 : Hid (Touch (fun _ => False) w W2) := HT1.out.trans t
  have HA2 : Hid (OpAt w.heap.size (o) W2 ∧ OpAt (w.heap.size + 1) (zeroO) W2) := ⟨HA1.out.1.keep t, HA1.out.2.keep t⟩
  clear t HT1 HA1
  refine hK _ _ ?_
  clear hK K
  go_upto_region 3 with fail
  refine wp_region_lit ?_
  have q9 := HA2.out.1.q9
  have q10 := HA2.out.1.q10
  have q11 := HA2.out.1.q11
  have q12 := HA2.out.1.q12
  refine wpList_plain rfl fun K hK => ?_
  go_simp
  refine hK _ _ ?_
  clear hK K
  refine wpList_plain rfl fun K hK => ?_
  go_simp
  refine hK _ _ ?_
  clear hK K
  clear q9 q10 q11 q12
  refine wpList_plain rfl fun K hK => ?_
  go_simp
  refine (HC.out _ HT2.out).mono ?_
  rintro e W3 ⟨rfl, t⟩
  have HT3 : Hid (Touch (fun _ => False) w W3) := HT2.out.trans t
  have HA3 : Hid (OpAt w.heap.size (o) W3 ∧ OpAt (w.heap.size + 1) (zeroO) W3) := ⟨HA2.out.1.keep t, HA2.out.2.keep t⟩
  clear t HT2 HA2
  refine hK _ _ ?_
  clear hK K
  refine wpList_plain rfl fun K hK => ?_
  go_simp
  refine hK _ _ ?_
  clear hK K
  refine wpList_store_mid rfl 27 (.tmp 25) (.tmp 24) rfl w.heap.size 9 #[.int .i64 o.vk, .int .i64 o.vn, .float .f64 (refBits o.vf), .string o.vs] rfl rfl (HA3.out.1.there 9 4 (by decide)) (by kernel_rfl) (by kernel_rfl) ?_
  simp only [Act.put]
  obtain ⟨W4, hW4⟩ : ∃ W4, Hid (W4 = W3.setCells w.heap.size 9 [.int .i64 o.vk, .int .i64 o.vn, .float .f64 (refBits o.vf), .string o.vs]) := ⟨_, Eq.refl _⟩
  have HT4 : Hid (Touch (fun _ => False) w W4) := by rw [hW4.out]; exact HT3.out.stored (by omega) 9 [.int .i64 o.vk, .int .i64 o.vn, .float .f64 (refBits o.vf), .string o.vs]
  have HA4 : Hid (OpAt w.heap.size (o.clean) W4 ∧ OpAt (w.heap.size + 1) (zeroO) W4) := ⟨by rw [hW4.out]; exact HA3.out.1.stored 9 [.int .i64 o.vk, .int .i64 o.vn, .float .f64 (refBits o.vf), .string o.vs] (by kernel_rfl), by rw [hW4.out]; exact HA3.out.2.stored_other (by omega) 9 [.int .i64 o.vk, .int .i64 o.vn, .float .f64 (refBits o.vf), .string o.vs]⟩
  rw [← hW4.out]
  clear hW4 HT3 HA3
  have q2 : W4.cell? ⟨w.heap.size, 2, none⟩ = some (.int .i64 o.kind) := HA4.out.1.q2
  have hkk := HD.out
  generalize o.kind = kk at q2 hkk
  go_upto_region 6 with fail
  clear q2 hkk
  go_upto_region 9 with fail
  refine wp_region_lit ?_
  refine wpList_load_mid rfl 31 (.tmp 3) rfl w.heap.size 0 rfl (o.clean).vals.toList _ (rangeAt_of HA4.out.1) Tryz.underlying31 rfl (by kernel_rfl) ?_
  simp only [Act.put, List.setIfInBounds_toArray, List.set_cons_succ, List.set_cons_zero]
  refine wpList_store_mid rfl 31 (.tmp 6) (.tmp 54) rfl (w.heap.size + 1) 0 (o.clean).vals rfl rfl (HA4.out.2.there 0 22 (by decide)) (by kernel_rfl) (by kernel_rfl) ?_
  simp only [Act.put]
  obtain ⟨W5, hW5⟩ : ∃ W5, Hid (W5 = W4.setCells (w.heap.size + 1) 0 (o.clean).vals.toList) := ⟨_, Eq.refl _⟩
  have HT5 : Hid (Touch (fun _ => False) w W5) := by rw [hW5.out]; exact HT4.out.stored (by omega) 0 (o.clean).vals.toList
  have HA5 : Hid (OpAt w.heap.size (o.clean) W5 ∧ OpAt (w.heap.size + 1) (o.clean) W5) := ⟨by rw [hW5.out]; exact HA4.out.1.stored_other (by omega) 0 (o.clean).vals.toList, by rw [hW5.out]; exact HA4.out.2.stored 0 (o.clean).vals.toList (by kernel_rfl)⟩
  rw [← hW5.out]
  clear hW5 HT4 HA4
  go_wp2_with fail
  have hLd := run_loadVar_mid (P := Tryz.prog) W5 (w.heap.size + 1) 0 31 (o.clean).vals.toList _ (rangeAt_of HA5.out.2) Tryz.underlying31 rfl (by kernel_rfl)
  refine bodyPost_ret (v := .tuple #[(o.clean).val, .bool true]) ?_ rfl ⟨by rw [HG1.out, HG2.out], HT5.out⟩
  simp [results, Tryz.results14, asAddr, hLd]
set_option maxHeartbeats 8000000 in
theorem cut_o1 (o : O) (f tt : Int) (h1 : ¬ f < 0) (h2 : ¬ tt ≤ f) (h3 : ¬ (lenO o : Int) < tt) (hk : ¬ o.kind = 1) (hf : 0 < f) (h : o.tx.size ≤ 281474976710656) (w : World) (hU : TabsU w) : Calls Tryz.prog 14 #[o.val, .int .i64 f, .int .i64 tt] w fun e w' => e = .returned (.tuple #[(cutRes o f tt).val, .bool (cutOk o f tt)]) ∧ Touch (fun _ => False) w w' := by
  have HG1 : Hid (cutOk o f tt = true) := by unfold cutOk Hid; simp; omega
  have HG2 : Hid (cutRes o f tt = (o.clean).moved f) := by unfold cutRes Hid; rw [if_pos HG1.out, if_neg hk, if_pos hf]
  have HD : Hid ((o.kind == 1) = false) := by show (o.kind == 1) = false; simpa using hk
  clear hk
  have HL : Hid (∀ W, Touch (fun _ => False) w W → Calls Tryz.prog 17 #[o.val] W fun e w' => e = .returned (.int .i64 (lenO o : Int)) ∧ Touch (fun _ => False) W w') := fun W t => ops_len o (by omega) W (hU.keep t)
  have HC : Hid (∀ W, Touch (fun _ => False) w W → Calls Tryz.prog 45 #[o.v.val] W fun e w' => e = .returned (vClean o.v).val ∧ Touch (fun _ => False) W w') := fun W t => v_clean o.v W
  have HX : Hid (∀ W, Touch (fun _ => False) w W → Calls Tryz.prog 46 #[.string o.tx, .int .i64 f, .int .i64 tt] W fun e w' => e = .returned (.string (cutOf o.tx.data.toList f tt)) ∧ Touch (fun _ => False) W w') := fun W t => utf_cut o.tx h f tt W (hU.keep t)
  clear h hU
  go_enter Tryz.func14, Tryz.ntmps14
  go_upto_region 1 with fail
  obtain ⟨W1, hW1⟩ : ∃ W1, Hid (W1 = (w.alloc (opO o)).alloc (.cells #[.int .u64 0, .int .u64 0, .int .i64 0, .int .u64 0, .int .u64 0, .int .u64 0, .int .u64 0, .int .u64 0, .string ⟨#[]⟩, .int .i64 0, .int .i64 0, .float .f64 0, .string ⟨#[]⟩, .string ⟨#[]⟩, .int .u64 0, .int .u64 0, .int .u64 0, .int .u64 0, .bool false, .int .u64 0, .int .u64 0, .bool false] 31)) := ⟨_, Eq.refl _⟩
  have HT1 : Hid (Touch (fun _ => False) w W1) := by rw [hW1.out]; exact ((Touch.refl _ _).alloc _).alloc _
  have HA1 : Hid (OpAt w.heap.size o W1 ∧ OpAt (w.heap.size + 1) zeroO W1) := by rw [hW1.out]; exact heap_two w _ _
  rw [← hW1.out]
  clear hW1
  refine wp_region_lit ?_
  refine wpList_plain rfl fun K hK => ?_
  go_simp
  refine hK _ _ ?_
  clear hK K
  refine wpList_plain rfl fun K hK => ?_
  go_simp
  refine hK _ _ ?_
  clear hK K
  refine wpList_plain rfl fun K hK => ?_
  go_simp
  refine hK _ _ ?_
  clear hK K
  refine wpList_step fun K hK => ?_
  rw [if_pos (by kernel_rfl)]
  go_simp
  refine hK _ _ ?_
  clear hK K
  refine wpList_step fun K hK => ?_
  rw [if_pos (by kernel_rfl)]
  go_simp
  refine hK _ _ ?_
  clear hK K
  refine wpList_step fun K hK => ?_
  rw [if_pos (by kernel_rfl)]
  go_simp
  refine hK _ _ ?_
  clear hK K
  refine wpList_plain rfl fun K hK => ?_
  go_simp
  refine hK _ _ ?_
  clear hK K
  refine wpList_plain rfl fun K hK => ?_
  go_simp
  refine hK _ _ ?_
  clear hK K
  refine wpList_step fun K hK => ?_
  rw [if_pos (by kernel_rfl)]
  go_simp
  refine hK _ _ ?_
  clear hK K
  refine wpList_step fun K hK => ?_
  rw [if_pos (by kernel_rfl)]
  refine wp_load_mid 31 (.tmp 3) rfl w.heap.size 0 rfl (o).vals.toList _ (rangeAt_of HA1.out.1) Tryz.underlying31 rfl (by kernel_rfl) (hK _ _ ?_)
  clear hK K
  simp only [Act.put, List.setIfInBounds_toArray, List.set_cons_succ, List.set_cons_zero]
  refine wpList_step fun K hK => ?_
  rw [if_pos (by kernel_rfl)]
  go_simp
  refine (HL.out _ HT1.out).mono ?_
  rintro e W2 ⟨rfl, t⟩
  have HT2 : Hid (Touch (fun _ => False) w W2) := HT1.out.trans t
  have HA2 : Hid (OpAt w.heap.size (o) W2 ∧ OpAt (w.heap.size + 1) (zeroO) W2) := ⟨HA1.out.1.keep t, HA1.out.2.keep t⟩
  clear t HT1 HA1
  refine hK _ _ ?_
  clear hK K
  go_upto_region 3 with fail
  refine wp_region_lit ?_
  have q9 := HA2.out.1.q9
  have q10 := HA2.out.1.q10
  have q11 := HA2.out.1.q11
  have q12 := HA2.out.1.q12
  refine wpList_plain rfl fun K hK => ?_
  go_simp
  refine hK _ _ ?_
  clear hK K
  refine wpList_plain rfl fun K hK => ?_
  go_simp
  refine hK _ _ ?_
  clear hK K
  clear q9 q10 q11 q12
  refine wpList_plain rfl fun K hK => ?_
  go_simp
  refine (HC.out _ HT2.out).mono ?_
  rintro e W3 ⟨rfl, t⟩
  have HT3 : Hid (Touch (fun _ => False) w W3) := HT2.out.trans t
  have HA3 : Hid (OpAt w.heap.size (o) W3 ∧ OpAt (w.heap.size + 1) (zeroO) W3) := ⟨HA2.out.1.keep t, HA2.out.2.keep t⟩
  clear t HT2 HA2
  refine hK _ _ ?_
  clear hK K
  refine wpList_plain rfl fun K hK => ?_
  go_simp
  refine hK _ _ ?_
  clear hK K
  refine wpList_store_mid rfl 27 (.tmp 25) (.tmp 24) rfl w.heap.size 9 #[.int .i64 o.vk, .int .i64 o.vn, .float .f64 (refBits o.vf), .string o.vs] rfl rfl (HA3.out.1.there 9 4 (by decide)) (by kernel_rfl) (by kernel_rfl) ?_
  simp only [Act.put]
  obtain ⟨W4, hW4⟩ : ∃ W4, Hid (W4 = W3.setCells w.heap.size 9 [.int .i64 o.vk, .int .i64 o.vn, .float .f64 (refBits o.vf), .string o.vs]) := ⟨_, Eq.refl _⟩
  have HT4 : Hid (Touch (fun _ => False) w W4) := by rw [hW4.out]; exact HT3.out.stored (by omega) 9 [.int .i64 o.vk, .int .i64 o.vn, .float .f64 (refBits o.vf), .string o.vs]
  have HA4 : Hid (OpAt w.heap.size (o.clean) W4 ∧ OpAt (w.heap.size + 1) (zeroO) W4) := ⟨by rw [hW4.out]; exact HA3.out.1.stored 9 [.int .i64 o.vk, .int .i64 o.vn, .float .f64 (refBits o.vf), .string o.vs] (by kernel_rfl), by rw [hW4.out]; exact HA3.out.2.stored_other (by omega) 9 [.int .i64 o.vk, .int .i64 o.vn, .float .f64 (refBits o.vf), .string o.vs]⟩
  rw [← hW4.out]
  clear hW4 HT3 HA3
  have q2 : W4.cell? ⟨w.heap.size, 2, none⟩ = some (.int .i64 o.kind) := HA4.out.1.q2
  have hkk := HD.out
  generalize o.kind = kk at q2 hkk
  go_upto_region 6 with fail
  clear q2 hkk
  go_upto_region 7 with fail
  refine wp_region_lit ?_
  have q1 : W4.cell? ⟨w.heap.size, 1, none⟩ = some (.int .u64 o.k) := HA4.out.1.q1
  refine wpList_plain rfl fun K hK => ?_
  go_simp
  refine hK _ _ ?_
  clear hK K
  refine wpList_plain rfl fun K hK => ?_
  go_simp
  refine hK _ _ ?_
  clear hK K
  refine wpList_plain rfl fun K hK => ?_
  go_simp
  refine hK _ _ ?_
  clear hK K
  refine wpList_plain rfl fun K hK => ?_
  go_simp
  refine hK _ _ ?_
  clear hK K
  refine wpList_plain rfl fun K hK => ?_
  go_simp
  refine hK _ _ ?_
  clear hK K
  refine wpList_plain rfl fun K hK => ?_
  go_simp
  refine hK _ _ ?_
  clear hK K
  refine wpList_plain rfl fun K hK => ?_
  go_simp
  refine hK _ _ ?_
  clear hK K
  refine wpList_plain rfl fun K hK => ?_
  go_simp
  refine hK _ _ ?_
  clear hK K
  clear q1
  have q := HA4.out.1.q1
  have z : W4.frozen? ⟨w.heap.size, 1, none⟩ = false := free_of_block HA4.out.1
  refine wpList_plain rfl fun K hK => ?_
  go_simp
  refine hK _ _ ?_
  clear hK K q z
  obtain ⟨W5, hW5⟩ : ∃ W5, Hid (W5 = W4.setCell ⟨w.heap.size, 1, none⟩ (.int .u64 (IntKind.u64.wrap (o.k + IntKind.u64.wrap f)))) := ⟨_, Eq.refl _⟩
  have HT5 : Hid (Touch (fun _ => False) w W5) := by rw [hW5.out]; exact HT4.out.stored (by omega) 1 [.int .u64 (IntKind.u64.wrap (o.k + IntKind.u64.wrap f))]
  have HA5 : Hid (OpAt w.heap.size ({ o.clean with k := IntKind.u64.wrap (o.k + IntKind.u64.wrap f) }) W5 ∧ OpAt (w.heap.size + 1) (zeroO) W5) := ⟨by rw [hW5.out]; exact HA4.out.1.stored 1 [.int .u64 (IntKind.u64.wrap (o.k + IntKind.u64.wrap f))] (by kernel_rfl), by rw [hW5.out]; exact HA4.out.2.stored_other (by omega) 1 [.int .u64 (IntKind.u64.wrap (o.k + IntKind.u64.wrap f))]⟩
  rw [← hW5.out]
  clear hW5 HT4 HA4
  go_upto_region 8 with fail
  refine wp_region_lit ?_
  have q0 : W5.cell? ⟨w.heap.size, 0, none⟩ = some (.int .u64 o.c) := HA5.out.1.q0
  have q1 : W5.cell? ⟨w.heap.size, 1, none⟩ = some (.int .u64 (IntKind.u64.wrap (o.k + IntKind.u64.wrap f))) := HA5.out.1.q1
  refine wpList_plain rfl fun K hK => ?_
  go_simp
  refine hK _ _ ?_
  clear hK K
  refine wpList_plain rfl fun K hK => ?_
  go_simp
  refine hK _ _ ?_
  clear hK K
  refine wpList_plain rfl fun K hK => ?_
  go_simp
  refine hK _ _ ?_
  clear hK K
  refine wpList_plain rfl fun K hK => ?_
  go_simp
  refine hK _ _ ?_
  clear hK K
  refine wpList_plain rfl fun K hK => ?_
  go_simp
  refine hK _ _ ?_
  clear hK K
  refine wpList_plain rfl fun K hK => ?_
  go_simp
  refine hK _ _ ?_
  clear hK K
  refine wpList_plain rfl fun K hK => ?_
  go_simp
  refine hK _ _ ?_
  clear hK K
  refine wpList_plain rfl fun K hK => ?_
  go_simp
  refine hK _ _ ?_
  clear hK K
  refine wpList_plain rfl fun K hK => ?_
  go_simp
  refine hK _ _ ?_
  clear hK K
  clear q0 q1
  refine wpList_store_mid rfl 24 (.tmp 53) (.tmp 52) rfl w.heap.size 4 #[.int .u64 o.c, .int .u64 (IntKind.u64.wrap (IntKind.u64.wrap (o.k + IntKind.u64.wrap f) - 1))] rfl rfl (HA5.out.1.there 4 2 (by decide)) (by kernel_rfl) (by kernel_rfl) ?_
  simp only [Act.put]
  obtain ⟨W6, hW6⟩ : ∃ W6, Hid (W6 = W5.setCells w.heap.size 4 [.int .u64 o.c, .int .u64 (IntKind.u64.wrap (IntKind.u64.wrap (o.k + IntKind.u64.wrap f) - 1))]) := ⟨_, Eq.refl _⟩
  have HT6 : Hid (Touch (fun _ => False) w W6) := by rw [hW6.out]; exact HT5.out.stored (by omega) 4 [.int .u64 o.c, .int .u64 (IntKind.u64.wrap (IntKind.u64.wrap (o.k + IntKind.u64.wrap f) - 1))]
  have HA6 : Hid (OpAt w.heap.size (o.clean.moved f) W6 ∧ OpAt (w.heap.size + 1) (zeroO) W6) := ⟨by rw [hW6.out]; exact HA5.out.1.stored 4 [.int .u64 o.c, .int .u64 (IntKind.u64.wrap (IntKind.u64.wrap (o.k + IntKind.u64.wrap f) - 1))] (by kernel_rfl), by rw [hW6.out]; exact HA5.out.2.stored_other (by omega) 4 [.int .u64 o.c, .int .u64 (IntKind.u64.wrap (IntKind.u64.wrap (o.k + IntKind.u64.wrap f) - 1))]⟩
  rw [← hW6.out]
  clear hW6 HT5 HA5
  go_upto_region 9 with fail
  refine wp_region_lit ?_
  refine wpList_load_mid rfl 31 (.tmp 3) rfl w.heap.size 0 rfl ((o.clean.moved f)).vals.toList _ (rangeAt_of HA6.out.1) Tryz.underlying31 rfl (by kernel_rfl) ?_
  simp only [Act.put, List.setIfInBounds_toArray, List.set_cons_succ, List.set_cons_zero]
  refine wpList_store_mid rfl 31 (.tmp 6) (.tmp 54) rfl (w.heap.size + 1) 0 ((o.clean.moved f)).vals rfl rfl (HA6.out.2.there 0 22 (by decide)) (by kernel_rfl) (by kernel_rfl) ?_
  simp only [Act.put]
  obtain ⟨W7, hW7⟩ : ∃ W7, Hid (W7 = W6.setCells (w.heap.size + 1) 0 ((o.clean.moved f)).vals.toList) := ⟨_, Eq.refl _⟩
  have HT7 : Hid (Touch (fun _ => False) w W7) := by rw [hW7.out]; exact HT6.out.stored (by omega) 0 ((o.clean.moved f)).vals.toList
  have HA7 : Hid (OpAt w.heap.size (o.clean.moved f) W7 ∧ OpAt (w.heap.size + 1) ((o.clean.moved f)) W7) := ⟨by rw [hW7.out]; exact HA6.out.1.stored_other (by omega) 0 ((o.clean.moved f)).vals.toList, by rw [hW7.out]; exact HA6.out.2.stored 0 ((o.clean.moved f)).vals.toList (by kernel_rfl)⟩
  rw [← hW7.out]
  clear hW7 HT6 HA6
  go_wp2_with fail
  have hLd := run_loadVar_mid (P := Tryz.prog) W7 (w.heap.size + 1) 0 31 ((o.clean.moved f)).vals.toList _ (rangeAt_of HA7.out.2) Tryz.underlying31 rfl (by kernel_rfl)
  refine bodyPost_ret (v := .tuple #[((o.clean.moved f)).val, .bool true]) ?_ rfl ⟨by rw [HG1.out, HG2.out], HT7.out⟩
  simp [results, Tryz.results14, asAddr, hLd]
theorem ops_cut (o : O) (f tt : Int) (h : o.tx.size ≤ 281474976710656) (w : World) (hU : TabsU w) : Calls Tryz.prog 14 #[o.val, .int .i64 f, .int .i64 tt] w fun e w' => e = .returned (.tuple #[(cutRes o f tt).val, .bool (cutOk o f tt)]) ∧ Touch (fun _ => False) w w' := by
  by_cases h1 : f < 0
  · exact cut_neg o f tt h1 h w hU
  by_cases h2 : tt ≤ f
  · exact cut_none o f tt h1 h2 h w hU
  by_cases h3 : (lenO o : Int) < tt
  · exact cut_over o f tt h1 h2 h3 h w hU
  by_cases hk : o.kind = 1
  · by_cases hf : 0 < f
    · exact cut_t1 o f tt h1 h2 h3 hk hf h w hU
    · exact cut_t0 o f tt h1 h2 h3 hk hf h w hU
  · by_cases hf : 0 < f
    · exact cut_o1 o f tt h1 h2 h3 hk hf h w hU
    · exact cut_o0 o f tt h1 h2 h3 hk hf h w hU
end Go.Proofs.YtphcnjbiojdalaaGreatDoor
