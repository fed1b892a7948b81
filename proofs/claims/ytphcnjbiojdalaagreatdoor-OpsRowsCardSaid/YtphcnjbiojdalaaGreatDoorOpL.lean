/- The document's Cut. -/
import Derived.Test.YtphcnjbiojdalaaGreatDoorOpK
import Derived.Test.YtphcnjbiojdalaaGreatDoorPart2
namespace Go.Proofs.YtphcnjbiojdalaaGreatDoor
open Go.RowKit
set_option linter.unusedVariables false
set_option linter.unusedSimpArgs false
set_option maxRecDepth 100000

def O.cutT0 (p o : O) (f t : Int) : O := { p with tx := cutOf o.tx.data.toList f t }
def cutRef (o : O) (f t : Int) : O :=
  if cutOk o f t = true then (if o.kind = 1 then (if 0 < f then (o.moved f).cutT0 o f t else o.cutT f t) else o) else zeroO
set_option maxHeartbeats 8000000 in
theorem rcut_neg (o : O) (f tt : Int) (h1 : f < 0) (h : o.tx.size ≤ 1000000) (w : World) : Calls Tryz.prog 15 #[o.val, .int .i64 f, .int .i64 tt] w fun e w' => e = .returned (.tuple #[(cutRef o f tt).val, .bool (cutOk o f tt)]) ∧ Touch (fun _ => False) w w' := by
  have HG1 : Hid (cutOk o f tt = false) := by unfold cutOk Hid; simp; omega
  have HG2 : Hid (cutRef o f tt = zeroO) := by unfold cutRef Hid; rw [HG1.out]; rfl
  have HL : Hid (∀ W, Touch (fun _ => False) w W → Calls Tryz.prog 13 #[o.val] W fun e w' => e = .returned (.int .i64 (lenO o : Int)) ∧ Touch (fun _ => False) W w') := fun W t => ref_lenO o (by omega) W
  have HX : Hid (∀ W, Touch (fun _ => False) w W → Calls Tryz.prog 47 #[.string o.tx, .int .i64 f, .int .i64 tt] W fun e w' => e = .returned (.string (cutOf o.tx.data.toList f tt)) ∧ Touch (fun _ => False) W w') := fun W t => ref_cut o.tx h f tt W
  clear h
  go_enter Tryz.func15, Tryz.ntmps15
  go_upto_region 1 with fail
  obtain ⟨W1, hW1⟩ : ∃ W1, Hid (W1 = (w.alloc (opO o)).alloc (.cells #[.int .u64 0, .int .u64 0, .int .i64 0, .int .u64 0, .int .u64 0, .int .u64 0, .int .u64 0, .int .u64 0, .string ⟨#[]⟩, .int .i64 0, .int .i64 0, .float .f64 0, .string ⟨#[]⟩, .string ⟨#[]⟩, .int .u64 0, .int .u64 0, .int .u64 0, .int .u64 0, .bool false, .int .u64 0, .int .u64 0, .bool false] 31)) := ⟨_, Eq.refl _⟩
  have HT1 : Hid (Touch (fun _ => False) w W1) := by rw [hW1.out]; exact ((Touch.refl _ _).alloc _).alloc _
  have HA1 : Hid (OpAt w.heap.size o W1 ∧ OpAt (w.heap.size + 1) zeroO W1) := by rw [hW1.out]; exact heap_two w _ _
  rw [← hW1.out]
  clear hW1
  refine wp_region_lit ?_
  refine wpList_load_mid rfl 31 (.tmp 3) rfl w.heap.size 0 rfl (o).vals.toList _ (rangeAt_of HA1.out.1) Tryz.underlying31 rfl (by kernel_rfl) ?_
  simp only [Act.put, List.setIfInBounds_toArray, List.set_cons_succ, List.set_cons_zero]
  refine wpList_plain rfl fun K hK => ?_
  go_simp
  refine (HL.out _ HT1.out).mono ?_
  rintro e W2 ⟨rfl, t⟩
  have HT2 : Hid (Touch (fun _ => False) w W2) := HT1.out.trans t
  have HA2 : Hid (OpAt w.heap.size (o) W2 ∧ OpAt (w.heap.size + 1) (zeroO) W2) := ⟨HA1.out.1.keep t, HA1.out.2.keep t⟩
  clear t HT1 HA1
  refine hK _ _ ?_
  clear hK K
  go_upto_region 3 with fail
  refine wp_region_lit ?_
  refine wpList_plain rfl fun K hK => ?_
  go_simp
  refine hK _ _ ?_
  clear hK K
  refine wpList_store_mid rfl 31 (.tmp 6) (.tmp 23) rfl (w.heap.size + 1) 0 zeroO.vals rfl rfl (HA2.out.2.there 0 22 (by decide)) (by kernel_rfl) (by kernel_rfl) ?_
  simp only [Act.put]
  obtain ⟨W3, hW3⟩ : ∃ W3, Hid (W3 = W2.setCells (w.heap.size + 1) 0 zeroO.vals.toList) := ⟨_, Eq.refl _⟩
  have HT3 : Hid (Touch (fun _ => False) w W3) := by rw [hW3.out]; exact HT2.out.stored (by omega) 0 zeroO.vals.toList
  have HA3 : Hid (OpAt w.heap.size (o) W3 ∧ OpAt (w.heap.size + 1) (zeroO) W3) := ⟨by rw [hW3.out]; exact HA2.out.1.stored_other (by omega) 0 zeroO.vals.toList, by rw [hW3.out]; exact HA2.out.2.stored 0 zeroO.vals.toList (by kernel_rfl)⟩
  rw [← hW3.out]
  clear hW3 HT2 HA2
  go_wp2_with fail
  have hLd := run_loadVar_mid (P := Tryz.prog) W3 (w.heap.size + 1) 0 31 (zeroO).vals.toList _ (rangeAt_of HA3.out.2) Tryz.underlying31 rfl (by kernel_rfl)
  refine bodyPost_ret (v := .tuple #[(zeroO).val, .bool false]) ?_ rfl ⟨by rw [HG1.out, HG2.out], HT3.out⟩
  simp [results, Tryz.results15, asAddr, hLd]
set_option maxHeartbeats 8000000 in
theorem rcut_none (o : O) (f tt : Int) (h1 : ¬ f < 0) (h2 : tt ≤ f) (h : o.tx.size ≤ 1000000) (w : World) : Calls Tryz.prog 15 #[o.val, .int .i64 f, .int .i64 tt] w fun e w' => e = .returned (.tuple #[(cutRef o f tt).val, .bool (cutOk o f tt)]) ∧ Touch (fun _ => False) w w' := by
  have HG1 : Hid (cutOk o f tt = false) := by unfold cutOk Hid; simp; omega
  have HG2 : Hid (cutRef o f tt = zeroO) := by unfold cutRef Hid; rw [HG1.out]; rfl
  have HL : Hid (∀ W, Touch (fun _ => False) w W → Calls Tryz.prog 13 #[o.val] W fun e w' => e = .returned (.int .i64 (lenO o : Int)) ∧ Touch (fun _ => False) W w') := fun W t => ref_lenO o (by omega) W
  have HX : Hid (∀ W, Touch (fun _ => False) w W → Calls Tryz.prog 47 #[.string o.tx, .int .i64 f, .int .i64 tt] W fun e w' => e = .returned (.string (cutOf o.tx.data.toList f tt)) ∧ Touch (fun _ => False) W w') := fun W t => ref_cut o.tx h f tt W
  clear h
  go_enter Tryz.func15, Tryz.ntmps15
  go_upto_region 1 with fail
  obtain ⟨W1, hW1⟩ : ∃ W1, Hid (W1 = (w.alloc (opO o)).alloc (.cells #[.int .u64 0, .int .u64 0, .int .i64 0, .int .u64 0, .int .u64 0, .int .u64 0, .int .u64 0, .int .u64 0, .string ⟨#[]⟩, .int .i64 0, .int .i64 0, .float .f64 0, .string ⟨#[]⟩, .string ⟨#[]⟩, .int .u64 0, .int .u64 0, .int .u64 0, .int .u64 0, .bool false, .int .u64 0, .int .u64 0, .bool false] 31)) := ⟨_, Eq.refl _⟩
  have HT1 : Hid (Touch (fun _ => False) w W1) := by rw [hW1.out]; exact ((Touch.refl _ _).alloc _).alloc _
  have HA1 : Hid (OpAt w.heap.size o W1 ∧ OpAt (w.heap.size + 1) zeroO W1) := by rw [hW1.out]; exact heap_two w _ _
  rw [← hW1.out]
  clear hW1
  refine wp_region_lit ?_
  refine wpList_load_mid rfl 31 (.tmp 3) rfl w.heap.size 0 rfl (o).vals.toList _ (rangeAt_of HA1.out.1) Tryz.underlying31 rfl (by kernel_rfl) ?_
  simp only [Act.put, List.setIfInBounds_toArray, List.set_cons_succ, List.set_cons_zero]
  refine wpList_plain rfl fun K hK => ?_
  go_simp
  refine (HL.out _ HT1.out).mono ?_
  rintro e W2 ⟨rfl, t⟩
  have HT2 : Hid (Touch (fun _ => False) w W2) := HT1.out.trans t
  have HA2 : Hid (OpAt w.heap.size (o) W2 ∧ OpAt (w.heap.size + 1) (zeroO) W2) := ⟨HA1.out.1.keep t, HA1.out.2.keep t⟩
  clear t HT1 HA1
  refine hK _ _ ?_
  clear hK K
  go_upto_region 3 with fail
  refine wp_region_lit ?_
  refine wpList_plain rfl fun K hK => ?_
  go_simp
  refine hK _ _ ?_
  clear hK K
  refine wpList_store_mid rfl 31 (.tmp 6) (.tmp 23) rfl (w.heap.size + 1) 0 zeroO.vals rfl rfl (HA2.out.2.there 0 22 (by decide)) (by kernel_rfl) (by kernel_rfl) ?_
  simp only [Act.put]
  obtain ⟨W3, hW3⟩ : ∃ W3, Hid (W3 = W2.setCells (w.heap.size + 1) 0 zeroO.vals.toList) := ⟨_, Eq.refl _⟩
  have HT3 : Hid (Touch (fun _ => False) w W3) := by rw [hW3.out]; exact HT2.out.stored (by omega) 0 zeroO.vals.toList
  have HA3 : Hid (OpAt w.heap.size (o) W3 ∧ OpAt (w.heap.size + 1) (zeroO) W3) := ⟨by rw [hW3.out]; exact HA2.out.1.stored_other (by omega) 0 zeroO.vals.toList, by rw [hW3.out]; exact HA2.out.2.stored 0 zeroO.vals.toList (by kernel_rfl)⟩
  rw [← hW3.out]
  clear hW3 HT2 HA2
  go_wp2_with fail
  have hLd := run_loadVar_mid (P := Tryz.prog) W3 (w.heap.size + 1) 0 31 (zeroO).vals.toList _ (rangeAt_of HA3.out.2) Tryz.underlying31 rfl (by kernel_rfl)
  refine bodyPost_ret (v := .tuple #[(zeroO).val, .bool false]) ?_ rfl ⟨by rw [HG1.out, HG2.out], HT3.out⟩
  simp [results, Tryz.results15, asAddr, hLd]
set_option maxHeartbeats 8000000 in
theorem rcut_over (o : O) (f tt : Int) (h1 : ¬ f < 0) (h2 : ¬ tt ≤ f) (h3 : (lenO o : Int) < tt) (h : o.tx.size ≤ 1000000) (w : World) : Calls Tryz.prog 15 #[o.val, .int .i64 f, .int .i64 tt] w fun e w' => e = .returned (.tuple #[(cutRef o f tt).val, .bool (cutOk o f tt)]) ∧ Touch (fun _ => False) w w' := by
  have HG1 : Hid (cutOk o f tt = false) := by unfold cutOk Hid; simp; omega
  have HG2 : Hid (cutRef o f tt = zeroO) := by unfold cutRef Hid; rw [HG1.out]; rfl
  have HL : Hid (∀ W, Touch (fun _ => False) w W → Calls Tryz.prog 13 #[o.val] W fun e w' => e = .returned (.int .i64 (lenO o : Int)) ∧ Touch (fun _ => False) W w') := fun W t => ref_lenO o (by omega) W
  have HX : Hid (∀ W, Touch (fun _ => False) w W → Calls Tryz.prog 47 #[.string o.tx, .int .i64 f, .int .i64 tt] W fun e w' => e = .returned (.string (cutOf o.tx.data.toList f tt)) ∧ Touch (fun _ => False) W w') := fun W t => ref_cut o.tx h f tt W
  clear h
  go_enter Tryz.func15, Tryz.ntmps15
  go_upto_region 1 with fail
  obtain ⟨W1, hW1⟩ : ∃ W1, Hid (W1 = (w.alloc (opO o)).alloc (.cells #[.int .u64 0, .int .u64 0, .int .i64 0, .int .u64 0, .int .u64 0, .int .u64 0, .int .u64 0, .int .u64 0, .string ⟨#[]⟩, .int .i64 0, .int .i64 0, .float .f64 0, .string ⟨#[]⟩, .string ⟨#[]⟩, .int .u64 0, .int .u64 0, .int .u64 0, .int .u64 0, .bool false, .int .u64 0, .int .u64 0, .bool false] 31)) := ⟨_, Eq.refl _⟩
  have HT1 : Hid (Touch (fun _ => False) w W1) := by rw [hW1.out]; exact ((Touch.refl _ _).alloc _).alloc _
  have HA1 : Hid (OpAt w.heap.size o W1 ∧ OpAt (w.heap.size + 1) zeroO W1) := by rw [hW1.out]; exact heap_two w _ _
  rw [← hW1.out]
  clear hW1
  refine wp_region_lit ?_
  refine wpList_load_mid rfl 31 (.tmp 3) rfl w.heap.size 0 rfl (o).vals.toList _ (rangeAt_of HA1.out.1) Tryz.underlying31 rfl (by kernel_rfl) ?_
  simp only [Act.put, List.setIfInBounds_toArray, List.set_cons_succ, List.set_cons_zero]
  refine wpList_plain rfl fun K hK => ?_
  go_simp
  refine (HL.out _ HT1.out).mono ?_
  rintro e W2 ⟨rfl, t⟩
  have HT2 : Hid (Touch (fun _ => False) w W2) := HT1.out.trans t
  have HA2 : Hid (OpAt w.heap.size (o) W2 ∧ OpAt (w.heap.size + 1) (zeroO) W2) := ⟨HA1.out.1.keep t, HA1.out.2.keep t⟩
  clear t HT1 HA1
  refine hK _ _ ?_
  clear hK K
  go_upto_region 3 with fail
  refine wp_region_lit ?_
  refine wpList_plain rfl fun K hK => ?_
  go_simp
  refine hK _ _ ?_
  clear hK K
  refine wpList_store_mid rfl 31 (.tmp 6) (.tmp 23) rfl (w.heap.size + 1) 0 zeroO.vals rfl rfl (HA2.out.2.there 0 22 (by decide)) (by kernel_rfl) (by kernel_rfl) ?_
  simp only [Act.put]
  obtain ⟨W3, hW3⟩ : ∃ W3, Hid (W3 = W2.setCells (w.heap.size + 1) 0 zeroO.vals.toList) := ⟨_, Eq.refl _⟩
  have HT3 : Hid (Touch (fun _ => False) w W3) := by rw [hW3.out]; exact HT2.out.stored (by omega) 0 zeroO.vals.toList
  have HA3 : Hid (OpAt w.heap.size (o) W3 ∧ OpAt (w.heap.size + 1) (zeroO) W3) := ⟨by rw [hW3.out]; exact HA2.out.1.stored_other (by omega) 0 zeroO.vals.toList, by rw [hW3.out]; exact HA2.out.2.stored 0 zeroO.vals.toList (by kernel_rfl)⟩
  rw [← hW3.out]
  clear hW3 HT2 HA2
  go_wp2_with fail
  have hLd := run_loadVar_mid (P := Tryz.prog) W3 (w.heap.size + 1) 0 31 (zeroO).vals.toList _ (rangeAt_of HA3.out.2) Tryz.underlying31 rfl (by kernel_rfl)
  refine bodyPost_ret (v := .tuple #[(zeroO).val, .bool false]) ?_ rfl ⟨by rw [HG1.out, HG2.out], HT3.out⟩
  simp [results, Tryz.results15, asAddr, hLd]
set_option maxHeartbeats 8000000 in
theorem rcut_t0 (o : O) (f tt : Int) (h1 : ¬ f < 0) (h2 : ¬ tt ≤ f) (h3 : ¬ (lenO o : Int) < tt) (hk : o.kind = 1) (hf : ¬ 0 < f) (h : o.tx.size ≤ 1000000) (w : World) : Calls Tryz.prog 15 #[o.val, .int .i64 f, .int .i64 tt] w fun e w' => e = .returned (.tuple #[(cutRef o f tt).val, .bool (cutOk o f tt)]) ∧ Touch (fun _ => False) w w' := by
  have HG1 : Hid (cutOk o f tt = true) := by unfold cutOk Hid; simp; omega
  have HG2 : Hid (cutRef o f tt = o.cutT f tt) := by unfold cutRef Hid; rw [if_pos HG1.out, if_pos hk, if_neg hf]
  have HD : Hid (o.kind = 1) := hk
  clear hk
  have HL : Hid (∀ W, Touch (fun _ => False) w W → Calls Tryz.prog 13 #[o.val] W fun e w' => e = .returned (.int .i64 (lenO o : Int)) ∧ Touch (fun _ => False) W w') := fun W t => ref_lenO o (by omega) W
  have HX : Hid (∀ W, Touch (fun _ => False) w W → Calls Tryz.prog 47 #[.string o.tx, .int .i64 f, .int .i64 tt] W fun e w' => e = .returned (.string (cutOf o.tx.data.toList f tt)) ∧ Touch (fun _ => False) W w') := fun W t => ref_cut o.tx h f tt W
  clear h
  go_enter Tryz.func15, Tryz.ntmps15
  go_upto_region 1 with fail
  obtain ⟨W1, hW1⟩ : ∃ W1, Hid (W1 = (w.alloc (opO o)).alloc (.cells #[.int .u64 0, .int .u64 0, .int .i64 0, .int .u64 0, .int .u64 0, .int .u64 0, .int .u64 0, .int .u64 0, .string ⟨#[]⟩, .int .i64 0, .int .i64 0, .float .f64 0, .string ⟨#[]⟩, .string ⟨#[]⟩, .int .u64 0, .int .u64 0, .int .u64 0, .int .u64 0, .bool false, .int .u64 0, .int .u64 0, .bool false] 31)) := ⟨_, Eq.refl _⟩
  have HT1 : Hid (Touch (fun _ => False) w W1) := by rw [hW1.out]; exact ((Touch.refl _ _).alloc _).alloc _
  have HA1 : Hid (OpAt w.heap.size o W1 ∧ OpAt (w.heap.size + 1) zeroO W1) := by rw [hW1.out]; exact heap_two w _ _
  rw [← hW1.out]
  clear hW1
  refine wp_region_lit ?_
  refine wpList_load_mid rfl 31 (.tmp 3) rfl w.heap.size 0 rfl (o).vals.toList _ (rangeAt_of HA1.out.1) Tryz.underlying31 rfl (by kernel_rfl) ?_
  simp only [Act.put, List.setIfInBounds_toArray, List.set_cons_succ, List.set_cons_zero]
  refine wpList_plain rfl fun K hK => ?_
  go_simp
  refine (HL.out _ HT1.out).mono ?_
  rintro e W2 ⟨rfl, t⟩
  have HT2 : Hid (Touch (fun _ => False) w W2) := HT1.out.trans t
  have HA2 : Hid (OpAt w.heap.size (o) W2 ∧ OpAt (w.heap.size + 1) (zeroO) W2) := ⟨HA1.out.1.keep t, HA1.out.2.keep t⟩
  clear t HT1 HA1
  refine hK _ _ ?_
  clear hK K
  have q2 : W2.cell? ⟨w.heap.size, 2, none⟩ = some (.int .i64 o.kind) := HA2.out.1.q2
  rw [HD.out] at q2
  go_upto_region 9 with fail
  clear q2
  refine wp_region_lit ?_
  have q8 : W2.cell? ⟨w.heap.size, 8, none⟩ = some (.string o.tx) := HA2.out.1.q8
  refine wpList_plain rfl fun K hK => ?_
  go_simp
  refine hK _ _ ?_
  clear hK K
  refine wpList_plain rfl fun K hK => ?_
  go_simp
  refine hK _ _ ?_
  clear hK K
  refine wpList_plain rfl fun K hK => ?_
  go_simp
  refine hK _ _ ?_
  clear hK K
  refine wpList_plain rfl fun K hK => ?_
  go_simp
  refine hK _ _ ?_
  clear hK K
  clear q8
  refine wpList_plain rfl fun K hK => ?_
  go_simp
  refine (HX.out _ HT2.out).mono ?_
  rintro e W3 ⟨rfl, t⟩
  have HT3 : Hid (Touch (fun _ => False) w W3) := HT2.out.trans t
  have HA3 : Hid (OpAt w.heap.size (o) W3 ∧ OpAt (w.heap.size + 1) (zeroO) W3) := ⟨HA2.out.1.keep t, HA2.out.2.keep t⟩
  clear t HT2 HA2
  refine hK _ _ ?_
  clear hK K
  refine wpList_plain rfl fun K hK => ?_
  go_simp
  refine hK _ _ ?_
  clear hK K
  have q := HA3.out.1.q8
  have z : W3.frozen? ⟨w.heap.size, 8, none⟩ = false := free_of_block HA3.out.1
  refine wpList_plain rfl fun K hK => ?_
  go_simp
  refine hK _ _ ?_
  clear hK K q z
  obtain ⟨W4, hW4⟩ : ∃ W4, Hid (W4 = W3.setCell ⟨w.heap.size, 8, none⟩ (.string (cutOf o.tx.data.toList f tt))) := ⟨_, Eq.refl _⟩
  have HT4 : Hid (Touch (fun _ => False) w W4) := by rw [hW4.out]; exact HT3.out.stored (by omega) 8 [.string (cutOf o.tx.data.toList f tt)]
  have HA4 : Hid (OpAt w.heap.size (o.cutT f tt) W4 ∧ OpAt (w.heap.size + 1) (zeroO) W4) := ⟨by rw [hW4.out]; exact HA3.out.1.stored 8 [.string (cutOf o.tx.data.toList f tt)] (by kernel_rfl), by rw [hW4.out]; exact HA3.out.2.stored_other (by omega) 8 [.string (cutOf o.tx.data.toList f tt)]⟩
  rw [← hW4.out]
  clear hW4 HT3 HA3
  go_upto_region 10 with fail
  refine wp_region_lit ?_
  refine wpList_load_mid rfl 31 (.tmp 3) rfl w.heap.size 0 rfl (o.cutT f tt).vals.toList _ (rangeAt_of HA4.out.1) Tryz.underlying31 rfl (by kernel_rfl) ?_
  simp only [Act.put, List.setIfInBounds_toArray, List.set_cons_succ, List.set_cons_zero]
  refine wpList_store_mid rfl 31 (.tmp 6) (.tmp 56) rfl (w.heap.size + 1) 0 (o.cutT f tt).vals rfl rfl (HA4.out.2.there 0 22 (by decide)) (by kernel_rfl) (by kernel_rfl) ?_
  simp only [Act.put]
  obtain ⟨W5, hW5⟩ : ∃ W5, Hid (W5 = W4.setCells (w.heap.size + 1) 0 (o.cutT f tt).vals.toList) := ⟨_, Eq.refl _⟩
  have HT5 : Hid (Touch (fun _ => False) w W5) := by rw [hW5.out]; exact HT4.out.stored (by omega) 0 (o.cutT f tt).vals.toList
  have HA5 : Hid (OpAt w.heap.size (o.cutT f tt) W5 ∧ OpAt (w.heap.size + 1) (o.cutT f tt) W5) := ⟨by rw [hW5.out]; exact HA4.out.1.stored_other (by omega) 0 (o.cutT f tt).vals.toList, by rw [hW5.out]; exact HA4.out.2.stored 0 (o.cutT f tt).vals.toList (by kernel_rfl)⟩
  rw [← hW5.out]
  clear hW5 HT4 HA4
  go_wp2_with fail
  have hLd := run_loadVar_mid (P := Tryz.prog) W5 (w.heap.size + 1) 0 31 (o.cutT f tt).vals.toList _ (rangeAt_of HA5.out.2) Tryz.underlying31 rfl (by kernel_rfl)
  refine bodyPost_ret (v := .tuple #[(o.cutT f tt).val, .bool true]) ?_ rfl ⟨by rw [HG1.out, HG2.out], HT5.out⟩
  simp [results, Tryz.results15, asAddr, hLd]
set_option maxHeartbeats 8000000 in
theorem rcut_t1 (o : O) (f tt : Int) (h1 : ¬ f < 0) (h2 : ¬ tt ≤ f) (h3 : ¬ (lenO o : Int) < tt) (hk : o.kind = 1) (hf : 0 < f) (h : o.tx.size ≤ 1000000) (w : World) : Calls Tryz.prog 15 #[o.val, .int .i64 f, .int .i64 tt] w fun e w' => e = .returned (.tuple #[(cutRef o f tt).val, .bool (cutOk o f tt)]) ∧ Touch (fun _ => False) w w' := by
  have HG1 : Hid (cutOk o f tt = true) := by unfold cutOk Hid; simp; omega
  have HG2 : Hid (cutRef o f tt = (o.moved f).cutT0 o f tt) := by unfold cutRef Hid; rw [if_pos HG1.out, if_pos hk, if_pos hf]
  have HD : Hid (o.kind = 1) := hk
  clear hk
  have HL : Hid (∀ W, Touch (fun _ => False) w W → Calls Tryz.prog 13 #[o.val] W fun e w' => e = .returned (.int .i64 (lenO o : Int)) ∧ Touch (fun _ => False) W w') := fun W t => ref_lenO o (by omega) W
  have HX : Hid (∀ W, Touch (fun _ => False) w W → Calls Tryz.prog 47 #[.string o.tx, .int .i64 f, .int .i64 tt] W fun e w' => e = .returned (.string (cutOf o.tx.data.toList f tt)) ∧ Touch (fun _ => False) W w') := fun W t => ref_cut o.tx h f tt W
  clear h
  go_enter Tryz.func15, Tryz.ntmps15
  go_upto_region 1 with fail
  obtain ⟨W1, hW1⟩ : ∃ W1, Hid (W1 = (w.alloc (opO o)).alloc (.cells #[.int .u64 0, .int .u64 0, .int .i64 0, .int .u64 0, .int .u64 0, .int .u64 0, .int .u64 0, .int .u64 0, .string ⟨#[]⟩, .int .i64 0, .int .i64 0, .float .f64 0, .string ⟨#[]⟩, .string ⟨#[]⟩, .int .u64 0, .int .u64 0, .int .u64 0, .int .u64 0, .bool false, .int .u64 0, .int .u64 0, .bool false] 31)) := ⟨_, Eq.refl _⟩
  have HT1 : Hid (Touch (fun _ => False) w W1) := by rw [hW1.out]; exact ((Touch.refl _ _).alloc _).alloc _
  have HA1 : Hid (OpAt w.heap.size o W1 ∧ OpAt (w.heap.size + 1) zeroO W1) := by rw [hW1.out]; exact heap_two w _ _
  rw [← hW1.out]
  clear hW1
  refine wp_region_lit ?_
  refine wpList_load_mid rfl 31 (.tmp 3) rfl w.heap.size 0 rfl (o).vals.toList _ (rangeAt_of HA1.out.1) Tryz.underlying31 rfl (by kernel_rfl) ?_
  simp only [Act.put, List.setIfInBounds_toArray, List.set_cons_succ, List.set_cons_zero]
  refine wpList_plain rfl fun K hK => ?_
  go_simp
  refine (HL.out _ HT1.out).mono ?_
  rintro e W2 ⟨rfl, t⟩
  have HT2 : Hid (Touch (fun _ => False) w W2) := HT1.out.trans t
  have HA2 : Hid (OpAt w.heap.size (o) W2 ∧ OpAt (w.heap.size + 1) (zeroO) W2) := ⟨HA1.out.1.keep t, HA1.out.2.keep t⟩
  clear t HT1 HA1
  refine hK _ _ ?_
  clear hK K
  have q2 : W2.cell? ⟨w.heap.size, 2, none⟩ = some (.int .i64 o.kind) := HA2.out.1.q2
  rw [HD.out] at q2
  go_upto_region 7 with fail
  clear q2
  refine wp_region_lit ?_
  have q0 : W2.cell? ⟨w.heap.size, 0, none⟩ = some (.int .u64 o.c) := HA2.out.1.q0
  have q1 : W2.cell? ⟨w.heap.size, 1, none⟩ = some (.int .u64 o.k) := HA2.out.1.q1
  refine wpList_plain rfl fun K hK => ?_
  go_simp
  refine hK _ _ ?_
  clear hK K
  refine wpList_plain rfl fun K hK => ?_
  go_simp
  refine hK _ _ ?_
  clear hK K
  refine wpList_plain rfl fun K hK => ?_
  go_simp
  refine hK _ _ ?_
  clear hK K
  refine wpList_plain rfl fun K hK => ?_
  go_simp
  refine hK _ _ ?_
  clear hK K
  refine wpList_plain rfl fun K hK => ?_
  go_simp
  refine hK _ _ ?_
  clear hK K
  refine wpList_plain rfl fun K hK => ?_
  go_simp
  refine hK _ _ ?_
  clear hK K
  refine wpList_plain rfl fun K hK => ?_
  go_simp
  refine hK _ _ ?_
  clear hK K
  refine wpList_plain rfl fun K hK => ?_
  go_simp
  refine hK _ _ ?_
  clear hK K
  refine wpList_plain rfl fun K hK => ?_
  go_simp
  refine hK _ _ ?_
  clear hK K
  refine wpList_plain rfl fun K hK => ?_
  go_simp
  refine hK _ _ ?_
  clear hK K
  refine wpList_plain rfl fun K hK => ?_
  go_simp
  refine hK _ _ ?_
  clear hK K
  refine wpList_plain rfl fun K hK => ?_
  go_simp
  refine hK _ _ ?_
  clear hK K
  clear q0 q1
  refine wpList_store_mid rfl 24 (.tmp 41) (.tmp 40) rfl w.heap.size 4 #[.int .u64 o.c, .int .u64 (IntKind.u64.wrap (IntKind.u64.wrap (o.k + IntKind.u64.wrap f) - 1))] rfl rfl (HA2.out.1.there 4 2 (by decide)) (by kernel_rfl) (by kernel_rfl) ?_
  simp only [Act.put]
  obtain ⟨W3, hW3⟩ : ∃ W3, Hid (W3 = W2.setCells w.heap.size 4 [.int .u64 o.c, .int .u64 (IntKind.u64.wrap (IntKind.u64.wrap (o.k + IntKind.u64.wrap f) - 1))]) := ⟨_, Eq.refl _⟩
  have HT3 : Hid (Touch (fun _ => False) w W3) := by rw [hW3.out]; exact HT2.out.stored (by omega) 4 [.int .u64 o.c, .int .u64 (IntKind.u64.wrap (IntKind.u64.wrap (o.k + IntKind.u64.wrap f) - 1))]
  have HA3 : Hid (OpAt w.heap.size ({ o with lc := o.c, lk := IntKind.u64.wrap (IntKind.u64.wrap (o.k + IntKind.u64.wrap f) - 1) }) W3 ∧ OpAt (w.heap.size + 1) (zeroO) W3) := ⟨by rw [hW3.out]; exact HA2.out.1.stored 4 [.int .u64 o.c, .int .u64 (IntKind.u64.wrap (IntKind.u64.wrap (o.k + IntKind.u64.wrap f) - 1))] (by kernel_rfl), by rw [hW3.out]; exact HA2.out.2.stored_other (by omega) 4 [.int .u64 o.c, .int .u64 (IntKind.u64.wrap (IntKind.u64.wrap (o.k + IntKind.u64.wrap f) - 1))]⟩
  rw [← hW3.out]
  clear hW3 HT2 HA2
  go_upto_region 8 with fail
  refine wp_region_lit ?_
  have q1 : W3.cell? ⟨w.heap.size, 1, none⟩ = some (.int .u64 o.k) := HA3.out.1.q1
  refine wpList_plain rfl fun K hK => ?_
  go_simp
  refine hK _ _ ?_
  clear hK K
  refine wpList_plain rfl fun K hK => ?_
  go_simp
  refine hK _ _ ?_
  clear hK K
  refine wpList_plain rfl fun K hK => ?_
  go_simp
  refine hK _ _ ?_
  clear hK K
  refine wpList_plain rfl fun K hK => ?_
  go_simp
  refine hK _ _ ?_
  clear hK K
  refine wpList_plain rfl fun K hK => ?_
  go_simp
  refine hK _ _ ?_
  clear hK K
  refine wpList_plain rfl fun K hK => ?_
  go_simp
  refine hK _ _ ?_
  clear hK K
  refine wpList_plain rfl fun K hK => ?_
  go_simp
  refine hK _ _ ?_
  clear hK K
  refine wpList_plain rfl fun K hK => ?_
  go_simp
  refine hK _ _ ?_
  clear hK K
  clear q1
  have q := HA3.out.1.q1
  have z : W3.frozen? ⟨w.heap.size, 1, none⟩ = false := free_of_block HA3.out.1
  refine wpList_plain rfl fun K hK => ?_
  go_simp
  refine hK _ _ ?_
  clear hK K q z
  obtain ⟨W4, hW4⟩ : ∃ W4, Hid (W4 = W3.setCell ⟨w.heap.size, 1, none⟩ (.int .u64 (IntKind.u64.wrap (o.k + IntKind.u64.wrap f)))) := ⟨_, Eq.refl _⟩
  have HT4 : Hid (Touch (fun _ => False) w W4) := by rw [hW4.out]; exact HT3.out.stored (by omega) 1 [.int .u64 (IntKind.u64.wrap (o.k + IntKind.u64.wrap f))]
  have HA4 : Hid (OpAt w.heap.size (o.moved f) W4 ∧ OpAt (w.heap.size + 1) (zeroO) W4) := ⟨by rw [hW4.out]; exact HA3.out.1.stored 1 [.int .u64 (IntKind.u64.wrap (o.k + IntKind.u64.wrap f))] (by kernel_rfl), by rw [hW4.out]; exact HA3.out.2.stored_other (by omega) 1 [.int .u64 (IntKind.u64.wrap (o.k + IntKind.u64.wrap f))]⟩
  rw [← hW4.out]
  clear hW4 HT3 HA3
  go_upto_region 9 with fail
  refine wp_region_lit ?_
  have q8 : W4.cell? ⟨w.heap.size, 8, none⟩ = some (.string o.tx) := HA4.out.1.q8
  refine wpList_plain rfl fun K hK => ?_
  go_simp
  refine hK _ _ ?_
  clear hK K
  refine wpList_plain rfl fun K hK => ?_
  go_simp
  refine hK _ _ ?_
  clear hK K
  refine wpList_plain rfl fun K hK => ?_
  go_simp
  refine hK _ _ ?_
  clear hK K
  refine wpList_plain rfl fun K hK => ?_
  go_simp
  refine hK _ _ ?_
  clear hK K
  clear q8
  refine wpList_plain rfl fun K hK => ?_
  go_simp
  refine (HX.out _ HT4.out).mono ?_
  rintro e W5 ⟨rfl, t⟩
  have HT5 : Hid (Touch (fun _ => False) w W5) := HT4.out.trans t
  have HA5 : Hid (OpAt w.heap.size (o.moved f) W5 ∧ OpAt (w.heap.size + 1) (zeroO) W5) := ⟨HA4.out.1.keep t, HA4.out.2.keep t⟩
  clear t HT4 HA4
  refine hK _ _ ?_
  clear hK K
  refine wpList_plain rfl fun K hK => ?_
  go_simp
  refine hK _ _ ?_
  clear hK K
  have q := HA5.out.1.q8
  have z : W5.frozen? ⟨w.heap.size, 8, none⟩ = false := free_of_block HA5.out.1
  refine wpList_plain rfl fun K hK => ?_
  go_simp
  refine hK _ _ ?_
  clear hK K q z
  obtain ⟨W6, hW6⟩ : ∃ W6, Hid (W6 = W5.setCell ⟨w.heap.size, 8, none⟩ (.string (cutOf o.tx.data.toList f tt))) := ⟨_, Eq.refl _⟩
  have HT6 : Hid (Touch (fun _ => False) w W6) := by rw [hW6.out]; exact HT5.out.stored (by omega) 8 [.string (cutOf o.tx.data.toList f tt)]
  have HA6 : Hid (OpAt w.heap.size ((o.moved f).cutT0 o f tt) W6 ∧ OpAt (w.heap.size + 1) (zeroO) W6) := ⟨by rw [hW6.out]; exact HA5.out.1.stored 8 [.string (cutOf o.tx.data.toList f tt)] (by kernel_rfl), by rw [hW6.out]; exact HA5.out.2.stored_other (by omega) 8 [.string (cutOf o.tx.data.toList f tt)]⟩
  rw [← hW6.out]
  clear hW6 HT5 HA5
  go_upto_region 10 with fail
  refine wp_region_lit ?_
  refine wpList_load_mid rfl 31 (.tmp 3) rfl w.heap.size 0 rfl ((o.moved f).cutT0 o f tt).vals.toList _ (rangeAt_of HA6.out.1) Tryz.underlying31 rfl (by kernel_rfl) ?_
  simp only [Act.put, List.setIfInBounds_toArray, List.set_cons_succ, List.set_cons_zero]
  refine wpList_store_mid rfl 31 (.tmp 6) (.tmp 56) rfl (w.heap.size + 1) 0 ((o.moved f).cutT0 o f tt).vals rfl rfl (HA6.out.2.there 0 22 (by decide)) (by kernel_rfl) (by kernel_rfl) ?_
  simp only [Act.put]
  obtain ⟨W7, hW7⟩ : ∃ W7, Hid (W7 = W6.setCells (w.heap.size + 1) 0 ((o.moved f).cutT0 o f tt).vals.toList) := ⟨_, Eq.refl _⟩
  have HT7 : Hid (Touch (fun _ => False) w W7) := by rw [hW7.out]; exact HT6.out.stored (by omega) 0 ((o.moved f).cutT0 o f tt).vals.toList
  have HA7 : Hid (OpAt w.heap.size ((o.moved f).cutT0 o f tt) W7 ∧ OpAt (w.heap.size + 1) ((o.moved f).cutT0 o f tt) W7) := ⟨by rw [hW7.out]; exact HA6.out.1.stored_other (by omega) 0 ((o.moved f).cutT0 o f tt).vals.toList, by rw [hW7.out]; exact HA6.out.2.stored 0 ((o.moved f).cutT0 o f tt).vals.toList (by kernel_rfl)⟩
  rw [← hW7.out]
  clear hW7 HT6 HA6
  go_wp2_with fail
  have hLd := run_loadVar_mid (P := Tryz.prog) W7 (w.heap.size + 1) 0 31 ((o.moved f).cutT0 o f tt).vals.toList _ (rangeAt_of HA7.out.2) Tryz.underlying31 rfl (by kernel_rfl)
  refine bodyPost_ret (v := .tuple #[((o.moved f).cutT0 o f tt).val, .bool true]) ?_ rfl ⟨by rw [HG1.out, HG2.out], HT7.out⟩
  simp [results, Tryz.results15, asAddr, hLd]
set_option maxHeartbeats 8000000 in
theorem rcut_o (o : O) (f tt : Int) (h1 : ¬ f < 0) (h2 : ¬ tt ≤ f) (h3 : ¬ (lenO o : Int) < tt) (hk : ¬ o.kind = 1) (h : o.tx.size ≤ 1000000) (w : World) : Calls Tryz.prog 15 #[o.val, .int .i64 f, .int .i64 tt] w fun e w' => e = .returned (.tuple #[(cutRef o f tt).val, .bool (cutOk o f tt)]) ∧ Touch (fun _ => False) w w' := by
  have HG1 : Hid (cutOk o f tt = true) := by unfold cutOk Hid; simp; omega
  have HG2 : Hid (cutRef o f tt = o) := by unfold cutRef Hid; rw [if_pos HG1.out, if_neg hk]
  have HD : Hid ((o.kind == 1) = false) := by show (o.kind == 1) = false; simpa using hk
  clear hk
  have HL : Hid (∀ W, Touch (fun _ => False) w W → Calls Tryz.prog 13 #[o.val] W fun e w' => e = .returned (.int .i64 (lenO o : Int)) ∧ Touch (fun _ => False) W w') := fun W t => ref_lenO o (by omega) W
  have HX : Hid (∀ W, Touch (fun _ => False) w W → Calls Tryz.prog 47 #[.string o.tx, .int .i64 f, .int .i64 tt] W fun e w' => e = .returned (.string (cutOf o.tx.data.toList f tt)) ∧ Touch (fun _ => False) W w') := fun W t => ref_cut o.tx h f tt W
  clear h
  go_enter Tryz.func15, Tryz.ntmps15
  go_upto_region 1 with fail
  obtain ⟨W1, hW1⟩ : ∃ W1, Hid (W1 = (w.alloc (opO o)).alloc (.cells #[.int .u64 0, .int .u64 0, .int .i64 0, .int .u64 0, .int .u64 0, .int .u64 0, .int .u64 0, .int .u64 0, .string ⟨#[]⟩, .int .i64 0, .int .i64 0, .float .f64 0, .string ⟨#[]⟩, .string ⟨#[]⟩, .int .u64 0, .int .u64 0, .int .u64 0, .int .u64 0, .bool false, .int .u64 0, .int .u64 0, .bool false] 31)) := ⟨_, Eq.refl _⟩
  have HT1 : Hid (Touch (fun _ => False) w W1) := by rw [hW1.out]; exact ((Touch.refl _ _).alloc _).alloc _
  have HA1 : Hid (OpAt w.heap.size o W1 ∧ OpAt (w.heap.size + 1) zeroO W1) := by rw [hW1.out]; exact heap_two w _ _
  rw [← hW1.out]
  clear hW1
  refine wp_region_lit ?_
  refine wpList_load_mid rfl 31 (.tmp 3) rfl w.heap.size 0 rfl (o).vals.toList _ (rangeAt_of HA1.out.1) Tryz.underlying31 rfl (by kernel_rfl) ?_
  simp only [Act.put, List.setIfInBounds_toArray, List.set_cons_succ, List.set_cons_zero]
  refine wpList_plain rfl fun K hK => ?_
  go_simp
  refine (HL.out _ HT1.out).mono ?_
  rintro e W2 ⟨rfl, t⟩
  have HT2 : Hid (Touch (fun _ => False) w W2) := HT1.out.trans t
  have HA2 : Hid (OpAt w.heap.size (o) W2 ∧ OpAt (w.heap.size + 1) (zeroO) W2) := ⟨HA1.out.1.keep t, HA1.out.2.keep t⟩
  clear t HT1 HA1
  refine hK _ _ ?_
  clear hK K
  have q2 : W2.cell? ⟨w.heap.size, 2, none⟩ = some (.int .i64 o.kind) := HA2.out.1.q2
  have hkk : (o.kind != 1) = true := by have := HD.out; simp [bne, this]
  generalize o.kind = kk at q2 hkk
  go_upto_region 5 with fail
  clear q2 hkk
  refine wp_region_lit ?_
  refine wpList_load_mid rfl 31 (.tmp 3) rfl w.heap.size 0 rfl (o).vals.toList _ (rangeAt_of HA2.out.1) Tryz.underlying31 rfl (by kernel_rfl) ?_
  simp only [Act.put, List.setIfInBounds_toArray, List.set_cons_succ, List.set_cons_zero]
  refine wpList_store_mid rfl 31 (.tmp 6) (.tmp 27) rfl (w.heap.size + 1) 0 o.vals rfl rfl (HA2.out.2.there 0 22 (by decide)) (by kernel_rfl) (by kernel_rfl) ?_
  simp only [Act.put]
  obtain ⟨W3, hW3⟩ : ∃ W3, Hid (W3 = W2.setCells (w.heap.size + 1) 0 o.vals.toList) := ⟨_, Eq.refl _⟩
  have HT3 : Hid (Touch (fun _ => False) w W3) := by rw [hW3.out]; exact HT2.out.stored (by omega) 0 o.vals.toList
  have HA3 : Hid (OpAt w.heap.size (o) W3 ∧ OpAt (w.heap.size + 1) (o) W3) := ⟨by rw [hW3.out]; exact HA2.out.1.stored_other (by omega) 0 o.vals.toList, by rw [hW3.out]; exact HA2.out.2.stored 0 o.vals.toList (by kernel_rfl)⟩
  rw [← hW3.out]
  clear hW3 HT2 HA2
  go_wp2_with fail
  have hLd := run_loadVar_mid (P := Tryz.prog) W3 (w.heap.size + 1) 0 31 (o).vals.toList _ (rangeAt_of HA3.out.2) Tryz.underlying31 rfl (by kernel_rfl)
  refine bodyPost_ret (v := .tuple #[(o).val, .bool true]) ?_ rfl ⟨by rw [HG1.out, HG2.out], HT3.out⟩
  simp [results, Tryz.results15, asAddr, hLd]
theorem ref_cutO (o : O) (f tt : Int) (h : o.tx.size ≤ 1000000) (w : World) : Calls Tryz.prog 15 #[o.val, .int .i64 f, .int .i64 tt] w fun e w' => e = .returned (.tuple #[(cutRef o f tt).val, .bool (cutOk o f tt)]) ∧ Touch (fun _ => False) w w' := by
  by_cases h1 : f < 0
  · exact rcut_neg o f tt h1 h w
  by_cases h2 : tt ≤ f
  · exact rcut_none o f tt h1 h2 h w
  by_cases h3 : (lenO o : Int) < tt
  · exact rcut_over o f tt h1 h2 h3 h w
  by_cases hk : o.kind = 1
  · by_cases hf : 0 < f
    · exact rcut_t1 o f tt h1 h2 h3 hk hf h w
    · exact rcut_t0 o f tt h1 h2 h3 hk hf h w
  · exact rcut_o o f tt h1 h2 h3 hk h w
end Go.Proofs.YtphcnjbiojdalaaGreatDoor
