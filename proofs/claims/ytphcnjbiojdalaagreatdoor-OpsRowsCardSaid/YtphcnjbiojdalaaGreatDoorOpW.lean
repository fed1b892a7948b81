/- ops.rightForm. -/
import Derived.Test.YtphcnjbiojdalaaGreatDoorPart13
import Derived.Test.YtphcnjbiojdalaaGreatDoorPart12
namespace Go.Proofs.YtphcnjbiojdalaaGreatDoor
open Go.RowKit
set_option linter.unusedVariables false
set_option linter.unusedSimpArgs false
set_option maxRecDepth 100000

def zeroV : V := ⟨0, 0, 0, ⟨#[]⟩⟩
def zeroO : O := ⟨0, 0, 0, 0, 0, 0, 0, 0, ⟨#[]⟩, 0, 0, 0, ⟨#[]⟩, ⟨#[]⟩, 0, 0, 0, 0, false, 0, 0, false⟩
/-- What a kind does not use. -/
def rest0 (o : O) : O := { o with c := 0, k := 0, kind := 0 }
def rest1 (o : O) : O := { o with c := 0, k := 0, kind := 0, tx := ⟨#[]⟩ }
def rest2 (o : O) : O := { o with c := 0, k := 0, kind := 0, lc := 0, lk := 0, rc := 0, rk := 0, vk := 0, vn := 0, vf := 0, vs := ⟨#[]⟩ }
def rest12 (o : O) : O := { o with c := 0, k := 0, kind := 0, tx := ⟨#[]⟩, lc := 0, lk := 0, rc := 0, rk := 0, vk := 0, vn := 0, vf := 0, vs := ⟨#[]⟩ }
def rest3 (o : O) : O := { o with c := 0, k := 0, kind := 0, fc := 0, fk := 0, fa := false, tc := 0, tk := 0, ta := false }
def rest4 (o : O) : O := { o with c := 0, k := 0, kind := 0, st := 0, ky := ⟨#[]⟩, vk := 0, vn := 0, vf := 0, vs := ⟨#[]⟩, pc := 0, pk := 0 }
def rest34 (o : O) : O := { o with c := 0, k := 0, kind := 0, fc := 0, fk := 0, fa := false, tc := 0, tk := 0, ta := false, st := 0, ky := ⟨#[]⟩, vk := 0, vn := 0, vf := 0, vs := ⟨#[]⟩, pc := 0, pk := 0 }
def formB (o : O) : Bool :=
  if o.kind = 1 then ((textOk o.tx && (refCmp o.v zeroV == 0)) && plainOk o.v) && sameO (rest12 o) zeroO
  else if o.kind = 2 then plainOk o.v && sameO (rest2 o) zeroO
  else if o.kind = 3 then (((plainOk o.v && ((o.pc == 0) && (o.pk == 0))) && keyOk o.ky && (refCheck o.v == 0)) && stampOk o.st) && sameO (rest34 o) zeroO
  else if o.kind = 4 then ((keyOk o.ky && (refCheck o.v == 0)) && stampOk o.st) && sameO (rest4 o) zeroO
  else false
/-- A store into a box, cells in a row. -/
theorem OpAt.stored {W : World} {B : Nat} {o o' : O} (h : OpAt B o W) (k : Nat) (vs : List Value) (e : ((vs.zipIdx k).foldl (fun (c : Array Value) x => c.setIfInBounds x.2 x.1) o.vals) = o'.vals) : OpAt B o' (W.setCells B k vs) := by
  have key : ∀ (vs : List Value) (k : Nat) (W : World) (c : Array Value), W.heap[B]? = some (.cells c 31 (0, 0)) → (W.setCells B k vs).heap[B]? = some (.cells ((vs.zipIdx k).foldl (fun (c : Array Value) x => c.setIfInBounds x.2 x.1) c) 31 (0, 0)) := by
    intro vs
    induction vs with
    | nil => intro k W c h; exact h
    | cons v r ih =>
      intro k W c h
      rw [World.setCells]
      exact ih (k + 1) _ _ (heap_setCell_same W B k v h)
  have := key vs k W o.vals h
  rw [e] at this
  exact this
theorem OpAt.stored_other {W : World} {B C : Nat} {o : O} (h : OpAt B o W) (hc : C ≠ B) (k : Nat) (vs : List Value) : OpAt B o (W.setCells C k vs) := by
  have key : ∀ (vs : List Value) (k : Nat) (W : World), (W.setCells C k vs).heap[B]? = W.heap[B]? := by
    intro vs
    induction vs with
    | nil => intro k W; rfl
    | cons v r ih =>
      intro k W
      rw [World.setCells, ih]
      exact heap_setCell_other _ _ _ _ hc
  exact (key vs k W).trans h
theorem Touch.stored {w W : World} {B : Nat} (t : Touch (fun _ => False) w W) (hB : w.heap.size ≤ B) (k : Nat) (vs : List Value) : Touch (fun _ => False) w (W.setCells B k vs) := by
  have key : ∀ (vs : List Value) (k : Nat) (W : World), Touch (fun _ => False) w W → Touch (fun _ => False) w (W.setCells B k vs) := by
    intro vs
    induction vs with
    | nil => intro k W t; exact t
    | cons v r ih =>
      intro k W t
      rw [World.setCells]
      exact ih (k + 1) _ (t.setCell ⟨B, k, none⟩ v (fun h => absurd h (by show ¬ B < _; omega)))
  exact key vs k W t
theorem OpAt.keepF {W W' : World} {B : Nat} {o : O} (h : OpAt B o W) (t : Touch (fun _ => False) W W') : OpAt B o W' := h.keep t
set_option maxHeartbeats 8000000 in
theorem form2 (o : O) (hk : o.kind = 2) (h : o.tx.size ≤ 4611686018427387904 ∧ o.ky.size ≤ 4611686018427387904 ∧ o.vs.size ≤ 4611686018427387904 ∧ o.vf < 18446744073709551616) (w : World) (hU : TabsU w) : Calls Tryz.prog 35 #[o.val] w fun e w' => e = .returned (.bool (formB o)) ∧ Touch (fun _ => False) w w' := by
  have HP : Hid (∀ W, Touch (fun _ => False) w W → Calls Tryz.prog 62 #[o.v.val] W fun e w' => e = .returned (.bool (plainOk o.v)) ∧ Touch (fun _ => False) W w') := fun W t => plain_any o.v (by have := h.2.2.1; simpa [O.v] using (by omega : o.vs.size ≤ 9223372036854775807)) W (hU.keep t)
  have HS : Hid (∀ W, Touch (fun _ => False) w W → Calls Tryz.prog 27 #[(rest2 o).val, zeroO.val] W fun e w' => e = .returned (.bool (sameO (rest2 o) zeroO)) ∧ Touch (fun _ => False) W w') := fun W t => ops_sameO (rest2 o) zeroO (by simp [rest2]) (by decide) W
  obtain ⟨t3, et3⟩ : ∃ t3, plainOk o.v = t3 := ⟨_, rfl⟩
  obtain ⟨t4, et4⟩ : ∃ t4, sameO (rest2 o) zeroO = t4 := ⟨_, rfl⟩
  have HG : Hid (formB o = (t3 && t4)) := by unfold formB Hid; rw [if_neg (by omega), if_pos hk, et3, et4]
  rw [et3] at HP
  rw [et4] at HS
  clear h hU
  have HD : Hid (o.kind = 2) := hk
  clear hk
  clear et3 et4
  go_enter Tryz.func35, Tryz.ntmps35
  go_upto_region 2 with fail
  have hA0 : OpAt w.heap.size o (w.alloc (opO o)) := heap_alloc_new _ _
  have HTa : Hid (Touch (fun _ => False) w (w.alloc (opO o))) := (Touch.refl _ _).alloc _
  refine wp_region_lit ?_
  refine wpList_load_mid rfl 31 (.tmp 1) rfl w.heap.size 0 rfl o.vals.toList _ (rangeAt_of hA0) Tryz.underlying31 rfl (by kernel_rfl) ?_
  simp only [Act.put, List.setIfInBounds_toArray]
  clear hA0 HTa
  refine wpList_plain rfl fun K hK => ?_
  go_simp
  refine hK _ _ ?_
  clear hK K
  obtain ⟨W1, hW1⟩ : ∃ W1, Hid (W1 = (w.alloc (opO o)).alloc (.cells #[.int .u64 0, .int .u64 0, .int .i64 0, .int .u64 0, .int .u64 0, .int .u64 0, .int .u64 0, .int .u64 0, .string ⟨#[]⟩, .int .i64 0, .int .i64 0, .float .f64 0, .string ⟨#[]⟩, .string ⟨#[]⟩, .int .u64 0, .int .u64 0, .int .u64 0, .int .u64 0, .bool false, .int .u64 0, .int .u64 0, .bool false] 31)) := ⟨_, Eq.refl _⟩
  have HT1 : Hid (Touch (fun _ => False) w W1) := by rw [hW1.out]; exact ((Touch.refl _ _).alloc _).alloc _
  have HA1 : Hid (OpAt w.heap.size o W1 ∧ OpAt (w.heap.size + 1) zeroO W1) := by rw [hW1.out]; exact heap_two w _ _
  rw [← hW1.out]
  clear hW1
  refine wpList_store_mid rfl 31 (.tmp 4) (.tmp 5) rfl (w.heap.size + 1) 0 o.vals rfl rfl (HA1.out.2.there 0 22 (by decide)) (by kernel_rfl) (by kernel_rfl) ?_
  simp only [Act.put]
  obtain ⟨W2, hW2⟩ : ∃ W2, Hid (W2 = W1.setCells (w.heap.size + 1) 0 o.vals.toList) := ⟨_, Eq.refl _⟩
  have HT2 : Hid (Touch (fun _ => False) w W2) := by rw [hW2.out]; exact HT1.out.stored (by omega) 0 o.vals.toList
  have HA2 : Hid (OpAt w.heap.size o W2 ∧ OpAt (w.heap.size + 1) o W2) := by rw [hW2.out]; exact ⟨HA1.out.1.stored_other (by omega) 0 o.vals.toList, HA1.out.2.stored 0 o.vals.toList (by kernel_rfl)⟩
  rw [← hW2.out]
  clear hW2 HT1 HA1
  go_upto_region 3 with fail
  refine wp_region_lit ?_
  refine wpList_plain rfl fun K hK => ?_
  go_simp
  refine hK _ _ ?_
  clear hK K
  refine wpList_plain rfl fun K hK => ?_
  go_simp
  refine hK _ _ ?_
  clear hK K
  refine wpList_store_mid rfl 24 (.tmp 7) (.tmp 6) rfl (w.heap.size + 1) 0 #[.int .u64 0, .int .u64 0] rfl rfl (HA2.out.2.there 0 2 (by decide)) (by kernel_rfl) (by kernel_rfl) ?_
  simp only [Act.put]
  obtain ⟨W3, hW3⟩ : ∃ W3, Hid (W3 = W2.setCells (w.heap.size + 1) 0 [.int .u64 0, .int .u64 0]) := ⟨_, Eq.refl _⟩
  have HT3 : Hid (Touch (fun _ => False) w W3) := by rw [hW3.out]; exact HT2.out.stored (by omega) 0 [.int .u64 0, .int .u64 0]
  have HA3 : Hid (OpAt w.heap.size o W3 ∧ OpAt (w.heap.size + 1) { o with c := 0, k := 0 } W3) := by rw [hW3.out]; exact ⟨HA2.out.1.stored_other (by omega) 0 [.int .u64 0, .int .u64 0], HA2.out.2.stored 0 [.int .u64 0, .int .u64 0] (by kernel_rfl)⟩
  rw [← hW3.out]
  clear hW3 HT2 HA2
  refine wpList_plain rfl fun K hK => ?_
  go_simp
  refine hK _ _ ?_
  clear hK K
  have q := HA3.out.2.q2
  have z : W3.frozen? ⟨w.heap.size + 1, 2, none⟩ = false := free_of_block HA3.out.2
  refine wpList_plain rfl fun K hK => ?_
  go_simp
  refine hK _ _ ?_
  clear hK K q z
  obtain ⟨W4, hW4⟩ : ∃ W4, Hid (W4 = W3.setCell ⟨w.heap.size + 1, 2, none⟩ (.int .i64 0)) := ⟨_, Eq.refl _⟩
  have HT4 : Hid (Touch (fun _ => False) w W4) := by rw [hW4.out]; exact HT3.out.stored (by omega) 2 [.int .i64 0]
  have HA4 : Hid (OpAt w.heap.size o W4 ∧ OpAt (w.heap.size + 1) (rest0 o) W4) := by rw [hW4.out]; exact ⟨HA3.out.1.stored_other (by omega) 2 [.int .i64 0], HA3.out.2.stored 2 [.int .i64 0] (by kernel_rfl)⟩
  rw [← hW4.out]
  clear hW4 HT3 HA3
  have q2 := HA4.out.1.q2
  rw [HD.out] at q2
  go_upto_region 11 with fail
  clear q2
  have q9 := HA4.out.1.q9
  have q10 := HA4.out.1.q10
  have q11 := HA4.out.1.q11
  have q12 := HA4.out.1.q12
  go_wp2_with fail
  clear q9 q10 q11 q12
  refine (HP.out _ HT4.out).mono ?_
  rintro e W5 ⟨rfl, t⟩
  have HT5 : Hid (Touch (fun _ => False) w W5) := HT4.out.trans t
  have HA5 : Hid (OpAt w.heap.size o W5 ∧ OpAt (w.heap.size + 1) (rest0 o) W5) := ⟨HA4.out.1.keep t, HA4.out.2.keep t⟩
  clear t HT4 HA4
  go_upto_region 12 with fail
  refine wp_region_lit ?_
  refine wpList_plain rfl fun K hK => ?_
  go_simp
  refine hK _ _ ?_
  clear hK K
  refine wpList_plain rfl fun K hK => ?_
  go_simp
  refine hK _ _ ?_
  clear hK K
  refine wpList_plain rfl fun K hK => ?_
  go_simp
  refine hK _ _ ?_
  clear hK K
  refine wpList_plain rfl fun K hK => ?_
  go_simp
  refine hK _ _ ?_
  clear hK K
  refine wpList_store_mid rfl 24 (.tmp 38) (.tmp 35) rfl (w.heap.size + 1) 4 #[.int .u64 0, .int .u64 0] rfl rfl (HA5.out.2.there 4 2 (by decide)) (by kernel_rfl) (by kernel_rfl) ?_
  simp only [Act.put]
  obtain ⟨W6, hW6⟩ : ∃ W6, Hid (W6 = W5.setCells (w.heap.size + 1) 4 [.int .u64 0, .int .u64 0]) := ⟨_, Eq.refl _⟩
  have HT6 : Hid (Touch (fun _ => False) w W6) := by rw [hW6.out]; exact HT5.out.stored (by omega) 4 [.int .u64 0, .int .u64 0]
  have HA6 : Hid (OpAt w.heap.size o W6 ∧ OpAt (w.heap.size + 1) { rest0 o with lc := 0, lk := 0 } W6) := by rw [hW6.out]; exact ⟨HA5.out.1.stored_other (by omega) 4 [.int .u64 0, .int .u64 0], HA5.out.2.stored 4 [.int .u64 0, .int .u64 0] (by kernel_rfl)⟩
  rw [← hW6.out]
  clear hW6 HT5 HA5
  refine wpList_plain rfl fun K hK => ?_
  go_simp
  refine hK _ _ ?_
  clear hK K
  refine wpList_store_mid rfl 24 (.tmp 39) (.tmp 36) rfl (w.heap.size + 1) 6 #[.int .u64 0, .int .u64 0] rfl rfl (HA6.out.2.there 6 2 (by decide)) (by kernel_rfl) (by kernel_rfl) ?_
  simp only [Act.put]
  obtain ⟨W7, hW7⟩ : ∃ W7, Hid (W7 = W6.setCells (w.heap.size + 1) 6 [.int .u64 0, .int .u64 0]) := ⟨_, Eq.refl _⟩
  have HT7 : Hid (Touch (fun _ => False) w W7) := by rw [hW7.out]; exact HT6.out.stored (by omega) 6 [.int .u64 0, .int .u64 0]
  have HA7 : Hid (OpAt w.heap.size o W7 ∧ OpAt (w.heap.size + 1) { rest0 o with lc := 0, lk := 0, rc := 0, rk := 0 } W7) := by rw [hW7.out]; exact ⟨HA6.out.1.stored_other (by omega) 6 [.int .u64 0, .int .u64 0], HA6.out.2.stored 6 [.int .u64 0, .int .u64 0] (by kernel_rfl)⟩
  rw [← hW7.out]
  clear hW7 HT6 HA6
  refine wpList_plain rfl fun K hK => ?_
  go_simp
  refine hK _ _ ?_
  clear hK K
  refine wpList_store_mid rfl 27 (.tmp 40) (.tmp 37) rfl (w.heap.size + 1) 9 #[.int .i64 0, .int .i64 0, .float .f64 0, .string ⟨#[]⟩] rfl rfl (HA7.out.2.there 9 4 (by decide)) (by kernel_rfl) (by kernel_rfl) ?_
  simp only [Act.put]
  obtain ⟨W8, hW8⟩ : ∃ W8, Hid (W8 = W7.setCells (w.heap.size + 1) 9 [.int .i64 0, .int .i64 0, .float .f64 0, .string ⟨#[]⟩]) := ⟨_, Eq.refl _⟩
  have HT8 : Hid (Touch (fun _ => False) w W8) := by rw [hW8.out]; exact HT7.out.stored (by omega) 9 [.int .i64 0, .int .i64 0, .float .f64 0, .string ⟨#[]⟩]
  have HA8 : Hid (OpAt w.heap.size o W8 ∧ OpAt (w.heap.size + 1) (rest2 o) W8) := by rw [hW8.out]; exact ⟨HA7.out.1.stored_other (by omega) 9 [.int .i64 0, .int .i64 0, .float .f64 0, .string ⟨#[]⟩], HA7.out.2.stored 9 [.int .i64 0, .int .i64 0, .float .f64 0, .string ⟨#[]⟩] (by kernel_rfl)⟩
  rw [← hW8.out]
  clear hW8 HT7 HA7
  cases t3
  · go_wp2_with fail
    go_ret
    exact ⟨by rw [HG.out]; simp, HT8.out⟩
  · go_upto_region 18 with fail
    refine wp_region_lit ?_
    refine wpList_plain rfl fun K hK => ?_
    go_simp
    refine hK _ _ ?_
    clear hK K
    refine wpList_plain rfl fun K hK => ?_
    go_simp
    refine hK _ _ ?_
    clear hK K
    refine wpList_step fun K hK => ?_
    rw [if_pos (by kernel_rfl)]
    refine wp_load_mid 31 (.tmp 4) rfl (w.heap.size + 1) 0 rfl ((rest2 o)).vals.toList _ (rangeAt_of HA8.out.2) Tryz.underlying31 rfl (by kernel_rfl) (hK _ _ ?_)
    clear hK K
    simp only [Act.put, List.setIfInBounds_toArray, List.set_cons_succ, List.set_cons_zero]
    refine wpList_step fun K hK => ?_
    rw [if_pos (by kernel_rfl)]
    go_simp
    refine hK _ _ ?_
    clear hK K
    go_wp2_with fail
    refine (HS.out _ HT8.out).mono ?_
    rintro e W9 ⟨rfl, t⟩
    have HT9 : Hid (Touch (fun _ => False) w W9) := HT8.out.trans t
    have HA9 : Hid (OpAt w.heap.size o W9 ∧ OpAt (w.heap.size + 1) (rest2 o) W9) := ⟨HA8.out.1.keep t, HA8.out.2.keep t⟩
    clear t HT8 HA8
    go_wp2_with fail
    go_ret
    exact ⟨by rw [HG.out]; simp, HT9.out⟩
set_option maxHeartbeats 8000000 in
theorem form1 (o : O) (hk : o.kind = 1) (h : o.tx.size ≤ 4611686018427387904 ∧ o.ky.size ≤ 4611686018427387904 ∧ o.vs.size ≤ 4611686018427387904 ∧ o.vf < 18446744073709551616) (w : World) (hU : TabsU w) : Calls Tryz.prog 35 #[o.val] w fun e w' => e = .returned (.bool (formB o)) ∧ Touch (fun _ => False) w w' := by
  have HX : Hid (∀ W, Touch (fun _ => False) w W → Calls Tryz.prog 61 #[.string o.tx] W fun e w' => e = .returned (.bool (textOk o.tx)) ∧ Touch (fun _ => False) W w') := fun W t => rightText_any o.tx h.1 W (hU.keep t)
  have HV : Hid (∀ W, Touch (fun _ => False) w W → Calls Tryz.prog 55 #[o.v.val, zeroV.val] W fun e w' => e = .returned (.bool ((refCmp o.v zeroV == 0))) ∧ Touch (fun _ => False) W w') := fun W t => v_same o.v zeroV h.2.2.2 (by decide) W
  have HP : Hid (∀ W, Touch (fun _ => False) w W → Calls Tryz.prog 62 #[o.v.val] W fun e w' => e = .returned (.bool (plainOk o.v)) ∧ Touch (fun _ => False) W w') := fun W t => plain_any o.v (by have := h.2.2.1; simpa [O.v] using (by omega : o.vs.size ≤ 9223372036854775807)) W (hU.keep t)
  have HS : Hid (∀ W, Touch (fun _ => False) w W → Calls Tryz.prog 27 #[(rest12 o).val, zeroO.val] W fun e w' => e = .returned (.bool (sameO (rest12 o) zeroO)) ∧ Touch (fun _ => False) W w') := fun W t => ops_sameO (rest12 o) zeroO (by simp [rest12]) (by decide) W
  obtain ⟨t1, et1⟩ : ∃ t1, textOk o.tx = t1 := ⟨_, rfl⟩
  obtain ⟨t2, et2⟩ : ∃ t2, (refCmp o.v zeroV == 0) = t2 := ⟨_, rfl⟩
  obtain ⟨t3, et3⟩ : ∃ t3, plainOk o.v = t3 := ⟨_, rfl⟩
  obtain ⟨t4, et4⟩ : ∃ t4, sameO (rest12 o) zeroO = t4 := ⟨_, rfl⟩
  have HG : Hid (formB o = (((t1 && t2) && t3) && t4)) := by unfold formB Hid; rw [if_pos hk, et1, et2, et3, et4]
  rw [et1] at HX
  rw [et2] at HV
  rw [et3] at HP
  rw [et4] at HS
  clear h hU
  have HD : Hid (o.kind = 1) := hk
  clear hk
  clear et1 et2 et3 et4
  go_enter Tryz.func35, Tryz.ntmps35
  go_upto_region 2 with fail
  have hA0 : OpAt w.heap.size o (w.alloc (opO o)) := heap_alloc_new _ _
  have HTa : Hid (Touch (fun _ => False) w (w.alloc (opO o))) := (Touch.refl _ _).alloc _
  refine wp_region_lit ?_
  refine wpList_load_mid rfl 31 (.tmp 1) rfl w.heap.size 0 rfl o.vals.toList _ (rangeAt_of hA0) Tryz.underlying31 rfl (by kernel_rfl) ?_
  simp only [Act.put, List.setIfInBounds_toArray]
  clear hA0 HTa
  refine wpList_plain rfl fun K hK => ?_
  go_simp
  refine hK _ _ ?_
  clear hK K
  obtain ⟨W1, hW1⟩ : ∃ W1, Hid (W1 = (w.alloc (opO o)).alloc (.cells #[.int .u64 0, .int .u64 0, .int .i64 0, .int .u64 0, .int .u64 0, .int .u64 0, .int .u64 0, .int .u64 0, .string ⟨#[]⟩, .int .i64 0, .int .i64 0, .float .f64 0, .string ⟨#[]⟩, .string ⟨#[]⟩, .int .u64 0, .int .u64 0, .int .u64 0, .int .u64 0, .bool false, .int .u64 0, .int .u64 0, .bool false] 31)) := ⟨_, Eq.refl _⟩
  have HT1 : Hid (Touch (fun _ => False) w W1) := by rw [hW1.out]; exact ((Touch.refl _ _).alloc _).alloc _
  have HA1 : Hid (OpAt w.heap.size o W1 ∧ OpAt (w.heap.size + 1) zeroO W1) := by rw [hW1.out]; exact heap_two w _ _
  rw [← hW1.out]
  clear hW1
  refine wpList_store_mid rfl 31 (.tmp 4) (.tmp 5) rfl (w.heap.size + 1) 0 o.vals rfl rfl (HA1.out.2.there 0 22 (by decide)) (by kernel_rfl) (by kernel_rfl) ?_
  simp only [Act.put]
  obtain ⟨W2, hW2⟩ : ∃ W2, Hid (W2 = W1.setCells (w.heap.size + 1) 0 o.vals.toList) := ⟨_, Eq.refl _⟩
  have HT2 : Hid (Touch (fun _ => False) w W2) := by rw [hW2.out]; exact HT1.out.stored (by omega) 0 o.vals.toList
  have HA2 : Hid (OpAt w.heap.size o W2 ∧ OpAt (w.heap.size + 1) o W2) := by rw [hW2.out]; exact ⟨HA1.out.1.stored_other (by omega) 0 o.vals.toList, HA1.out.2.stored 0 o.vals.toList (by kernel_rfl)⟩
  rw [← hW2.out]
  clear hW2 HT1 HA1
  go_upto_region 3 with fail
  refine wp_region_lit ?_
  refine wpList_plain rfl fun K hK => ?_
  go_simp
  refine hK _ _ ?_
  clear hK K
  refine wpList_plain rfl fun K hK => ?_
  go_simp
  refine hK _ _ ?_
  clear hK K
  refine wpList_store_mid rfl 24 (.tmp 7) (.tmp 6) rfl (w.heap.size + 1) 0 #[.int .u64 0, .int .u64 0] rfl rfl (HA2.out.2.there 0 2 (by decide)) (by kernel_rfl) (by kernel_rfl) ?_
  simp only [Act.put]
  obtain ⟨W3, hW3⟩ : ∃ W3, Hid (W3 = W2.setCells (w.heap.size + 1) 0 [.int .u64 0, .int .u64 0]) := ⟨_, Eq.refl _⟩
  have HT3 : Hid (Touch (fun _ => False) w W3) := by rw [hW3.out]; exact HT2.out.stored (by omega) 0 [.int .u64 0, .int .u64 0]
  have HA3 : Hid (OpAt w.heap.size o W3 ∧ OpAt (w.heap.size + 1) { o with c := 0, k := 0 } W3) := by rw [hW3.out]; exact ⟨HA2.out.1.stored_other (by omega) 0 [.int .u64 0, .int .u64 0], HA2.out.2.stored 0 [.int .u64 0, .int .u64 0] (by kernel_rfl)⟩
  rw [← hW3.out]
  clear hW3 HT2 HA2
  refine wpList_plain rfl fun K hK => ?_
  go_simp
  refine hK _ _ ?_
  clear hK K
  have q := HA3.out.2.q2
  have z : W3.frozen? ⟨w.heap.size + 1, 2, none⟩ = false := free_of_block HA3.out.2
  refine wpList_plain rfl fun K hK => ?_
  go_simp
  refine hK _ _ ?_
  clear hK K q z
  obtain ⟨W4, hW4⟩ : ∃ W4, Hid (W4 = W3.setCell ⟨w.heap.size + 1, 2, none⟩ (.int .i64 0)) := ⟨_, Eq.refl _⟩
  have HT4 : Hid (Touch (fun _ => False) w W4) := by rw [hW4.out]; exact HT3.out.stored (by omega) 2 [.int .i64 0]
  have HA4 : Hid (OpAt w.heap.size o W4 ∧ OpAt (w.heap.size + 1) (rest0 o) W4) := by rw [hW4.out]; exact ⟨HA3.out.1.stored_other (by omega) 2 [.int .i64 0], HA3.out.2.stored 2 [.int .i64 0] (by kernel_rfl)⟩
  rw [← hW4.out]
  clear hW4 HT3 HA3
  have q2 := HA4.out.1.q2
  rw [HD.out] at q2
  go_upto_region 9 with fail
  clear q2
  have q8 := HA4.out.1.q8
  go_wp2_with fail
  clear q8
  refine (HX.out _ HT4.out).mono ?_
  rintro e W5 ⟨rfl, t⟩
  have HT5 : Hid (Touch (fun _ => False) w W5) := HT4.out.trans t
  have HA5 : Hid (OpAt w.heap.size o W5 ∧ OpAt (w.heap.size + 1) (rest0 o) W5) := ⟨HA4.out.1.keep t, HA4.out.2.keep t⟩
  clear t HT4 HA4
  cases t1
  · go_upto_region 10 with fail
    refine wp_region_lit ?_
    refine wpList_plain rfl fun K hK => ?_
    go_simp
    refine hK _ _ ?_
    clear hK K
    have q := HA5.out.2.q8
    have z : W5.frozen? ⟨w.heap.size + 1, 8, none⟩ = false := free_of_block HA5.out.2
    refine wpList_plain rfl fun K hK => ?_
    go_simp
    refine hK _ _ ?_
    clear hK K q z
    obtain ⟨W6, hW6⟩ : ∃ W6, Hid (W6 = W5.setCell ⟨w.heap.size + 1, 8, none⟩ (.string ⟨#[]⟩)) := ⟨_, Eq.refl _⟩
    have HT6 : Hid (Touch (fun _ => False) w W6) := by rw [hW6.out]; exact HT5.out.stored (by omega) 8 [.string ⟨#[]⟩]
    have HA6 : Hid (OpAt w.heap.size o W6 ∧ OpAt (w.heap.size + 1) (rest1 o) W6) := by rw [hW6.out]; exact ⟨HA5.out.1.stored_other (by omega) 8 [.string ⟨#[]⟩], HA5.out.2.stored 8 [.string ⟨#[]⟩] (by kernel_rfl)⟩
    rw [← hW6.out]
    clear hW6 HT5 HA5
    go_upto_region 12 with fail
    refine wp_region_lit ?_
    refine wpList_plain rfl fun K hK => ?_
    go_simp
    refine hK _ _ ?_
    clear hK K
    refine wpList_plain rfl fun K hK => ?_
    go_simp
    refine hK _ _ ?_
    clear hK K
    refine wpList_plain rfl fun K hK => ?_
    go_simp
    refine hK _ _ ?_
    clear hK K
    refine wpList_plain rfl fun K hK => ?_
    go_simp
    refine hK _ _ ?_
    clear hK K
    refine wpList_store_mid rfl 24 (.tmp 38) (.tmp 35) rfl (w.heap.size + 1) 4 #[.int .u64 0, .int .u64 0] rfl rfl (HA6.out.2.there 4 2 (by decide)) (by kernel_rfl) (by kernel_rfl) ?_
    simp only [Act.put]
    obtain ⟨W7, hW7⟩ : ∃ W7, Hid (W7 = W6.setCells (w.heap.size + 1) 4 [.int .u64 0, .int .u64 0]) := ⟨_, Eq.refl _⟩
    have HT7 : Hid (Touch (fun _ => False) w W7) := by rw [hW7.out]; exact HT6.out.stored (by omega) 4 [.int .u64 0, .int .u64 0]
    have HA7 : Hid (OpAt w.heap.size o W7 ∧ OpAt (w.heap.size + 1) { rest1 o with lc := 0, lk := 0 } W7) := by rw [hW7.out]; exact ⟨HA6.out.1.stored_other (by omega) 4 [.int .u64 0, .int .u64 0], HA6.out.2.stored 4 [.int .u64 0, .int .u64 0] (by kernel_rfl)⟩
    rw [← hW7.out]
    clear hW7 HT6 HA6
    refine wpList_plain rfl fun K hK => ?_
    go_simp
    refine hK _ _ ?_
    clear hK K
    refine wpList_store_mid rfl 24 (.tmp 39) (.tmp 36) rfl (w.heap.size + 1) 6 #[.int .u64 0, .int .u64 0] rfl rfl (HA7.out.2.there 6 2 (by decide)) (by kernel_rfl) (by kernel_rfl) ?_
    simp only [Act.put]
    obtain ⟨W8, hW8⟩ : ∃ W8, Hid (W8 = W7.setCells (w.heap.size + 1) 6 [.int .u64 0, .int .u64 0]) := ⟨_, Eq.refl _⟩
    have HT8 : Hid (Touch (fun _ => False) w W8) := by rw [hW8.out]; exact HT7.out.stored (by omega) 6 [.int .u64 0, .int .u64 0]
    have HA8 : Hid (OpAt w.heap.size o W8 ∧ OpAt (w.heap.size + 1) { rest1 o with lc := 0, lk := 0, rc := 0, rk := 0 } W8) := by rw [hW8.out]; exact ⟨HA7.out.1.stored_other (by omega) 6 [.int .u64 0, .int .u64 0], HA7.out.2.stored 6 [.int .u64 0, .int .u64 0] (by kernel_rfl)⟩
    rw [← hW8.out]
    clear hW8 HT7 HA7
    refine wpList_plain rfl fun K hK => ?_
    go_simp
    refine hK _ _ ?_
    clear hK K
    refine wpList_store_mid rfl 27 (.tmp 40) (.tmp 37) rfl (w.heap.size + 1) 9 #[.int .i64 0, .int .i64 0, .float .f64 0, .string ⟨#[]⟩] rfl rfl (HA8.out.2.there 9 4 (by decide)) (by kernel_rfl) (by kernel_rfl) ?_
    simp only [Act.put]
    obtain ⟨W9, hW9⟩ : ∃ W9, Hid (W9 = W8.setCells (w.heap.size + 1) 9 [.int .i64 0, .int .i64 0, .float .f64 0, .string ⟨#[]⟩]) := ⟨_, Eq.refl _⟩
    have HT9 : Hid (Touch (fun _ => False) w W9) := by rw [hW9.out]; exact HT8.out.stored (by omega) 9 [.int .i64 0, .int .i64 0, .float .f64 0, .string ⟨#[]⟩]
    have HA9 : Hid (OpAt w.heap.size o W9 ∧ OpAt (w.heap.size + 1) (rest12 o) W9) := by rw [hW9.out]; exact ⟨HA8.out.1.stored_other (by omega) 9 [.int .i64 0, .int .i64 0, .float .f64 0, .string ⟨#[]⟩], HA8.out.2.stored 9 [.int .i64 0, .int .i64 0, .float .f64 0, .string ⟨#[]⟩] (by kernel_rfl)⟩
    rw [← hW9.out]
    clear hW9 HT8 HA8
    go_wp2_with fail
    go_ret
    exact ⟨by rw [HG.out]; simp, HT9.out⟩
  · have q9 := HA5.out.1.q9
    have q10 := HA5.out.1.q10
    have q11 := HA5.out.1.q11
    have q12 := HA5.out.1.q12
    go_wp2_with fail
    clear q9 q10 q11 q12
    refine (HV.out _ HT5.out).mono ?_
    rintro e W6 ⟨rfl, t⟩
    have HT6 : Hid (Touch (fun _ => False) w W6) := HT5.out.trans t
    have HA6 : Hid (OpAt w.heap.size o W6 ∧ OpAt (w.heap.size + 1) (rest0 o) W6) := ⟨HA5.out.1.keep t, HA5.out.2.keep t⟩
    clear t HT5 HA5
    cases t2
    · go_upto_region 10 with fail
      refine wp_region_lit ?_
      refine wpList_plain rfl fun K hK => ?_
      go_simp
      refine hK _ _ ?_
      clear hK K
      have q := HA6.out.2.q8
      have z : W6.frozen? ⟨w.heap.size + 1, 8, none⟩ = false := free_of_block HA6.out.2
      refine wpList_plain rfl fun K hK => ?_
      go_simp
      refine hK _ _ ?_
      clear hK K q z
      obtain ⟨W7, hW7⟩ : ∃ W7, Hid (W7 = W6.setCell ⟨w.heap.size + 1, 8, none⟩ (.string ⟨#[]⟩)) := ⟨_, Eq.refl _⟩
      have HT7 : Hid (Touch (fun _ => False) w W7) := by rw [hW7.out]; exact HT6.out.stored (by omega) 8 [.string ⟨#[]⟩]
      have HA7 : Hid (OpAt w.heap.size o W7 ∧ OpAt (w.heap.size + 1) (rest1 o) W7) := by rw [hW7.out]; exact ⟨HA6.out.1.stored_other (by omega) 8 [.string ⟨#[]⟩], HA6.out.2.stored 8 [.string ⟨#[]⟩] (by kernel_rfl)⟩
      rw [← hW7.out]
      clear hW7 HT6 HA6
      go_upto_region 12 with fail
      refine wp_region_lit ?_
      refine wpList_plain rfl fun K hK => ?_
      go_simp
      refine hK _ _ ?_
      clear hK K
      refine wpList_plain rfl fun K hK => ?_
      go_simp
      refine hK _ _ ?_
      clear hK K
      refine wpList_plain rfl fun K hK => ?_
      go_simp
      refine hK _ _ ?_
      clear hK K
      refine wpList_plain rfl fun K hK => ?_
      go_simp
      refine hK _ _ ?_
      clear hK K
      refine wpList_store_mid rfl 24 (.tmp 38) (.tmp 35) rfl (w.heap.size + 1) 4 #[.int .u64 0, .int .u64 0] rfl rfl (HA7.out.2.there 4 2 (by decide)) (by kernel_rfl) (by kernel_rfl) ?_
      simp only [Act.put]
      obtain ⟨W8, hW8⟩ : ∃ W8, Hid (W8 = W7.setCells (w.heap.size + 1) 4 [.int .u64 0, .int .u64 0]) := ⟨_, Eq.refl _⟩
      have HT8 : Hid (Touch (fun _ => False) w W8) := by rw [hW8.out]; exact HT7.out.stored (by omega) 4 [.int .u64 0, .int .u64 0]
      have HA8 : Hid (OpAt w.heap.size o W8 ∧ OpAt (w.heap.size + 1) { rest1 o with lc := 0, lk := 0 } W8) := by rw [hW8.out]; exact ⟨HA7.out.1.stored_other (by omega) 4 [.int .u64 0, .int .u64 0], HA7.out.2.stored 4 [.int .u64 0, .int .u64 0] (by kernel_rfl)⟩
      rw [← hW8.out]
      clear hW8 HT7 HA7
      refine wpList_plain rfl fun K hK => ?_
      go_simp
      refine hK _ _ ?_
      clear hK K
      refine wpList_store_mid rfl 24 (.tmp 39) (.tmp 36) rfl (w.heap.size + 1) 6 #[.int .u64 0, .int .u64 0] rfl rfl (HA8.out.2.there 6 2 (by decide)) (by kernel_rfl) (by kernel_rfl) ?_
      simp only [Act.put]
      obtain ⟨W9, hW9⟩ : ∃ W9, Hid (W9 = W8.setCells (w.heap.size + 1) 6 [.int .u64 0, .int .u64 0]) := ⟨_, Eq.refl _⟩
      have HT9 : Hid (Touch (fun _ => False) w W9) := by rw [hW9.out]; exact HT8.out.stored (by omega) 6 [.int .u64 0, .int .u64 0]
      have HA9 : Hid (OpAt w.heap.size o W9 ∧ OpAt (w.heap.size + 1) { rest1 o with lc := 0, lk := 0, rc := 0, rk := 0 } W9) := by rw [hW9.out]; exact ⟨HA8.out.1.stored_other (by omega) 6 [.int .u64 0, .int .u64 0], HA8.out.2.stored 6 [.int .u64 0, .int .u64 0] (by kernel_rfl)⟩
      rw [← hW9.out]
      clear hW9 HT8 HA8
      refine wpList_plain rfl fun K hK => ?_
      go_simp
      refine hK _ _ ?_
      clear hK K
      refine wpList_store_mid rfl 27 (.tmp 40) (.tmp 37) rfl (w.heap.size + 1) 9 #[.int .i64 0, .int .i64 0, .float .f64 0, .string ⟨#[]⟩] rfl rfl (HA9.out.2.there 9 4 (by decide)) (by kernel_rfl) (by kernel_rfl) ?_
      simp only [Act.put]
      obtain ⟨W10, hW10⟩ : ∃ W10, Hid (W10 = W9.setCells (w.heap.size + 1) 9 [.int .i64 0, .int .i64 0, .float .f64 0, .string ⟨#[]⟩]) := ⟨_, Eq.refl _⟩
      have HT10 : Hid (Touch (fun _ => False) w W10) := by rw [hW10.out]; exact HT9.out.stored (by omega) 9 [.int .i64 0, .int .i64 0, .float .f64 0, .string ⟨#[]⟩]
      have HA10 : Hid (OpAt w.heap.size o W10 ∧ OpAt (w.heap.size + 1) (rest12 o) W10) := by rw [hW10.out]; exact ⟨HA9.out.1.stored_other (by omega) 9 [.int .i64 0, .int .i64 0, .float .f64 0, .string ⟨#[]⟩], HA9.out.2.stored 9 [.int .i64 0, .int .i64 0, .float .f64 0, .string ⟨#[]⟩] (by kernel_rfl)⟩
      rw [← hW10.out]
      clear hW10 HT9 HA9
      go_wp2_with fail
      go_ret
      exact ⟨by rw [HG.out]; simp, HT10.out⟩
    · go_upto_region 10 with fail
      refine wp_region_lit ?_
      refine wpList_plain rfl fun K hK => ?_
      go_simp
      refine hK _ _ ?_
      clear hK K
      have q := HA6.out.2.q8
      have z : W6.frozen? ⟨w.heap.size + 1, 8, none⟩ = false := free_of_block HA6.out.2
      refine wpList_plain rfl fun K hK => ?_
      go_simp
      refine hK _ _ ?_
      clear hK K q z
      obtain ⟨W7, hW7⟩ : ∃ W7, Hid (W7 = W6.setCell ⟨w.heap.size + 1, 8, none⟩ (.string ⟨#[]⟩)) := ⟨_, Eq.refl _⟩
      have HT7 : Hid (Touch (fun _ => False) w W7) := by rw [hW7.out]; exact HT6.out.stored (by omega) 8 [.string ⟨#[]⟩]
      have HA7 : Hid (OpAt w.heap.size o W7 ∧ OpAt (w.heap.size + 1) (rest1 o) W7) := by rw [hW7.out]; exact ⟨HA6.out.1.stored_other (by omega) 8 [.string ⟨#[]⟩], HA6.out.2.stored 8 [.string ⟨#[]⟩] (by kernel_rfl)⟩
      rw [← hW7.out]
      clear hW7 HT6 HA6
      go_upto_region 11 with fail
      have q9 := HA7.out.1.q9
      have q10 := HA7.out.1.q10
      have q11 := HA7.out.1.q11
      have q12 := HA7.out.1.q12
      go_wp2_with fail
      clear q9 q10 q11 q12
      refine (HP.out _ HT7.out).mono ?_
      rintro e W8 ⟨rfl, t⟩
      have HT8 : Hid (Touch (fun _ => False) w W8) := HT7.out.trans t
      have HA8 : Hid (OpAt w.heap.size o W8 ∧ OpAt (w.heap.size + 1) (rest1 o) W8) := ⟨HA7.out.1.keep t, HA7.out.2.keep t⟩
      clear t HT7 HA7
      go_upto_region 12 with fail
      refine wp_region_lit ?_
      refine wpList_plain rfl fun K hK => ?_
      go_simp
      refine hK _ _ ?_
      clear hK K
      refine wpList_plain rfl fun K hK => ?_
      go_simp
      refine hK _ _ ?_
      clear hK K
      refine wpList_plain rfl fun K hK => ?_
      go_simp
      refine hK _ _ ?_
      clear hK K
      refine wpList_plain rfl fun K hK => ?_
      go_simp
      refine hK _ _ ?_
      clear hK K
      refine wpList_store_mid rfl 24 (.tmp 38) (.tmp 35) rfl (w.heap.size + 1) 4 #[.int .u64 0, .int .u64 0] rfl rfl (HA8.out.2.there 4 2 (by decide)) (by kernel_rfl) (by kernel_rfl) ?_
      simp only [Act.put]
      obtain ⟨W9, hW9⟩ : ∃ W9, Hid (W9 = W8.setCells (w.heap.size + 1) 4 [.int .u64 0, .int .u64 0]) := ⟨_, Eq.refl _⟩
      have HT9 : Hid (Touch (fun _ => False) w W9) := by rw [hW9.out]; exact HT8.out.stored (by omega) 4 [.int .u64 0, .int .u64 0]
      have HA9 : Hid (OpAt w.heap.size o W9 ∧ OpAt (w.heap.size + 1) { rest1 o with lc := 0, lk := 0 } W9) := by rw [hW9.out]; exact ⟨HA8.out.1.stored_other (by omega) 4 [.int .u64 0, .int .u64 0], HA8.out.2.stored 4 [.int .u64 0, .int .u64 0] (by kernel_rfl)⟩
      rw [← hW9.out]
      clear hW9 HT8 HA8
      refine wpList_plain rfl fun K hK => ?_
      go_simp
      refine hK _ _ ?_
      clear hK K
      refine wpList_store_mid rfl 24 (.tmp 39) (.tmp 36) rfl (w.heap.size + 1) 6 #[.int .u64 0, .int .u64 0] rfl rfl (HA9.out.2.there 6 2 (by decide)) (by kernel_rfl) (by kernel_rfl) ?_
      simp only [Act.put]
      obtain ⟨W10, hW10⟩ : ∃ W10, Hid (W10 = W9.setCells (w.heap.size + 1) 6 [.int .u64 0, .int .u64 0]) := ⟨_, Eq.refl _⟩
      have HT10 : Hid (Touch (fun _ => False) w W10) := by rw [hW10.out]; exact HT9.out.stored (by omega) 6 [.int .u64 0, .int .u64 0]
      have HA10 : Hid (OpAt w.heap.size o W10 ∧ OpAt (w.heap.size + 1) { rest1 o with lc := 0, lk := 0, rc := 0, rk := 0 } W10) := by rw [hW10.out]; exact ⟨HA9.out.1.stored_other (by omega) 6 [.int .u64 0, .int .u64 0], HA9.out.2.stored 6 [.int .u64 0, .int .u64 0] (by kernel_rfl)⟩
      rw [← hW10.out]
      clear hW10 HT9 HA9
      refine wpList_plain rfl fun K hK => ?_
      go_simp
      refine hK _ _ ?_
      clear hK K
      refine wpList_store_mid rfl 27 (.tmp 40) (.tmp 37) rfl (w.heap.size + 1) 9 #[.int .i64 0, .int .i64 0, .float .f64 0, .string ⟨#[]⟩] rfl rfl (HA10.out.2.there 9 4 (by decide)) (by kernel_rfl) (by kernel_rfl) ?_
      simp only [Act.put]
      obtain ⟨W11, hW11⟩ : ∃ W11, Hid (W11 = W10.setCells (w.heap.size + 1) 9 [.int .i64 0, .int .i64 0, .float .f64 0, .string ⟨#[]⟩]) := ⟨_, Eq.refl _⟩
      have HT11 : Hid (Touch (fun _ => False) w W11) := by rw [hW11.out]; exact HT10.out.stored (by omega) 9 [.int .i64 0, .int .i64 0, .float .f64 0, .string ⟨#[]⟩]
      have HA11 : Hid (OpAt w.heap.size o W11 ∧ OpAt (w.heap.size + 1) (rest12 o) W11) := by rw [hW11.out]; exact ⟨HA10.out.1.stored_other (by omega) 9 [.int .i64 0, .int .i64 0, .float .f64 0, .string ⟨#[]⟩], HA10.out.2.stored 9 [.int .i64 0, .int .i64 0, .float .f64 0, .string ⟨#[]⟩] (by kernel_rfl)⟩
      rw [← hW11.out]
      clear hW11 HT10 HA10
      cases t3
      · go_wp2_with fail
        go_ret
        exact ⟨by rw [HG.out]; simp, HT11.out⟩
      · go_upto_region 18 with fail
        refine wp_region_lit ?_
        refine wpList_plain rfl fun K hK => ?_
        go_simp
        refine hK _ _ ?_
        clear hK K
        refine wpList_plain rfl fun K hK => ?_
        go_simp
        refine hK _ _ ?_
        clear hK K
        refine wpList_step fun K hK => ?_
        rw [if_pos (by kernel_rfl)]
        refine wp_load_mid 31 (.tmp 4) rfl (w.heap.size + 1) 0 rfl ((rest12 o)).vals.toList _ (rangeAt_of HA11.out.2) Tryz.underlying31 rfl (by kernel_rfl) (hK _ _ ?_)
        clear hK K
        simp only [Act.put, List.setIfInBounds_toArray, List.set_cons_succ, List.set_cons_zero]
        refine wpList_step fun K hK => ?_
        rw [if_pos (by kernel_rfl)]
        go_simp
        refine hK _ _ ?_
        clear hK K
        go_wp2_with fail
        refine (HS.out _ HT11.out).mono ?_
        rintro e W12 ⟨rfl, t⟩
        have HT12 : Hid (Touch (fun _ => False) w W12) := HT11.out.trans t
        have HA12 : Hid (OpAt w.heap.size o W12 ∧ OpAt (w.heap.size + 1) (rest12 o) W12) := ⟨HA11.out.1.keep t, HA11.out.2.keep t⟩
        clear t HT11 HA11
        go_wp2_with fail
        go_ret
        exact ⟨by rw [HG.out]; simp, HT12.out⟩
set_option maxHeartbeats 8000000 in
theorem form4 (o : O) (hk : o.kind = 4) (h : o.tx.size ≤ 4611686018427387904 ∧ o.ky.size ≤ 4611686018427387904 ∧ o.vs.size ≤ 4611686018427387904 ∧ o.vf < 18446744073709551616) (w : World) (hU : TabsU w) : Calls Tryz.prog 35 #[o.val] w fun e w' => e = .returned (.bool (formB o)) ∧ Touch (fun _ => False) w w' := by
  have HC : Hid (∀ W, Touch (fun _ => False) w W → Calls Tryz.prog 64 #[o.v.val] W fun e w' => e = .returned (.int .i64 (refCheck o.v)) ∧ Touch (fun _ => False) W w') := fun W t => v_check o.v (by have := h.2.2.1; simpa [O.v] using (by omega : o.vs.size ≤ 9223372036854775807)) W (hU.keep t)
  have HK : Hid (∀ W, Touch (fun _ => False) w W → Calls Tryz.prog 63 #[.string o.ky] W fun e w' => e = .returned (.bool (keyOk o.ky)) ∧ Touch (fun _ => False) W w') := fun W t => rightKey_any o.ky h.2.1 W (hU.keep t)
  have HM : Hid (∀ W, Touch (fun _ => False) w W → Calls Tryz.prog 65 #[.int .u64 o.st] W fun e w' => e = .returned (.bool (stampOk o.st)) ∧ Touch (fun _ => False) W w') := fun W t => (rightStamp_any o.st W).mono (by rintro e w2 ⟨rfl, rfl⟩; exact ⟨rfl, Touch.refl _ _⟩)
  have HS : Hid (∀ W, Touch (fun _ => False) w W → Calls Tryz.prog 27 #[(rest4 o).val, zeroO.val] W fun e w' => e = .returned (.bool (sameO (rest4 o) zeroO)) ∧ Touch (fun _ => False) W w') := fun W t => ops_sameO (rest4 o) zeroO (by simp [rest4]) (by decide) W
  obtain ⟨t5, et5⟩ : ∃ t5, keyOk o.ky = t5 := ⟨_, rfl⟩
  obtain ⟨t6, et6⟩ : ∃ t6, (refCheck o.v == 0) = t6 := ⟨_, rfl⟩
  obtain ⟨t7, et7⟩ : ∃ t7, stampOk o.st = t7 := ⟨_, rfl⟩
  obtain ⟨t4, et4⟩ : ∃ t4, sameO (rest4 o) zeroO = t4 := ⟨_, rfl⟩
  have HG : Hid (formB o = (((t5 && t6) && t7) && t4)) := by unfold formB Hid; rw [if_neg (by omega), if_neg (by omega), if_neg (by omega), if_pos hk, et5, et6, et7, et4]
  rw [et5] at HK
  rw [et7] at HM
  rw [et4] at HS
  clear h hU
  have HD : Hid (o.kind = 4) := hk
  clear hk
  clear et5 et7 et4
  generalize refCheck o.v = C at *
  go_enter Tryz.func35, Tryz.ntmps35
  go_upto_region 2 with fail
  have hA0 : OpAt w.heap.size o (w.alloc (opO o)) := heap_alloc_new _ _
  have HTa : Hid (Touch (fun _ => False) w (w.alloc (opO o))) := (Touch.refl _ _).alloc _
  refine wp_region_lit ?_
  refine wpList_load_mid rfl 31 (.tmp 1) rfl w.heap.size 0 rfl o.vals.toList _ (rangeAt_of hA0) Tryz.underlying31 rfl (by kernel_rfl) ?_
  simp only [Act.put, List.setIfInBounds_toArray]
  clear hA0 HTa
  refine wpList_plain rfl fun K hK => ?_
  go_simp
  refine hK _ _ ?_
  clear hK K
  obtain ⟨W1, hW1⟩ : ∃ W1, Hid (W1 = (w.alloc (opO o)).alloc (.cells #[.int .u64 0, .int .u64 0, .int .i64 0, .int .u64 0, .int .u64 0, .int .u64 0, .int .u64 0, .int .u64 0, .string ⟨#[]⟩, .int .i64 0, .int .i64 0, .float .f64 0, .string ⟨#[]⟩, .string ⟨#[]⟩, .int .u64 0, .int .u64 0, .int .u64 0, .int .u64 0, .bool false, .int .u64 0, .int .u64 0, .bool false] 31)) := ⟨_, Eq.refl _⟩
  have HT1 : Hid (Touch (fun _ => False) w W1) := by rw [hW1.out]; exact ((Touch.refl _ _).alloc _).alloc _
  have HA1 : Hid (OpAt w.heap.size o W1 ∧ OpAt (w.heap.size + 1) zeroO W1) := by rw [hW1.out]; exact heap_two w _ _
  rw [← hW1.out]
  clear hW1
  refine wpList_store_mid rfl 31 (.tmp 4) (.tmp 5) rfl (w.heap.size + 1) 0 o.vals rfl rfl (HA1.out.2.there 0 22 (by decide)) (by kernel_rfl) (by kernel_rfl) ?_
  simp only [Act.put]
  obtain ⟨W2, hW2⟩ : ∃ W2, Hid (W2 = W1.setCells (w.heap.size + 1) 0 o.vals.toList) := ⟨_, Eq.refl _⟩
  have HT2 : Hid (Touch (fun _ => False) w W2) := by rw [hW2.out]; exact HT1.out.stored (by omega) 0 o.vals.toList
  have HA2 : Hid (OpAt w.heap.size o W2 ∧ OpAt (w.heap.size + 1) o W2) := by rw [hW2.out]; exact ⟨HA1.out.1.stored_other (by omega) 0 o.vals.toList, HA1.out.2.stored 0 o.vals.toList (by kernel_rfl)⟩
  rw [← hW2.out]
  clear hW2 HT1 HA1
  go_upto_region 3 with fail
  refine wp_region_lit ?_
  refine wpList_plain rfl fun K hK => ?_
  go_simp
  refine hK _ _ ?_
  clear hK K
  refine wpList_plain rfl fun K hK => ?_
  go_simp
  refine hK _ _ ?_
  clear hK K
  refine wpList_store_mid rfl 24 (.tmp 7) (.tmp 6) rfl (w.heap.size + 1) 0 #[.int .u64 0, .int .u64 0] rfl rfl (HA2.out.2.there 0 2 (by decide)) (by kernel_rfl) (by kernel_rfl) ?_
  simp only [Act.put]
  obtain ⟨W3, hW3⟩ : ∃ W3, Hid (W3 = W2.setCells (w.heap.size + 1) 0 [.int .u64 0, .int .u64 0]) := ⟨_, Eq.refl _⟩
  have HT3 : Hid (Touch (fun _ => False) w W3) := by rw [hW3.out]; exact HT2.out.stored (by omega) 0 [.int .u64 0, .int .u64 0]
  have HA3 : Hid (OpAt w.heap.size o W3 ∧ OpAt (w.heap.size + 1) { o with c := 0, k := 0 } W3) := by rw [hW3.out]; exact ⟨HA2.out.1.stored_other (by omega) 0 [.int .u64 0, .int .u64 0], HA2.out.2.stored 0 [.int .u64 0, .int .u64 0] (by kernel_rfl)⟩
  rw [← hW3.out]
  clear hW3 HT2 HA2
  refine wpList_plain rfl fun K hK => ?_
  go_simp
  refine hK _ _ ?_
  clear hK K
  have q := HA3.out.2.q2
  have z : W3.frozen? ⟨w.heap.size + 1, 2, none⟩ = false := free_of_block HA3.out.2
  refine wpList_plain rfl fun K hK => ?_
  go_simp
  refine hK _ _ ?_
  clear hK K q z
  obtain ⟨W4, hW4⟩ : ∃ W4, Hid (W4 = W3.setCell ⟨w.heap.size + 1, 2, none⟩ (.int .i64 0)) := ⟨_, Eq.refl _⟩
  have HT4 : Hid (Touch (fun _ => False) w W4) := by rw [hW4.out]; exact HT3.out.stored (by omega) 2 [.int .i64 0]
  have HA4 : Hid (OpAt w.heap.size o W4 ∧ OpAt (w.heap.size + 1) (rest0 o) W4) := by rw [hW4.out]; exact ⟨HA3.out.1.stored_other (by omega) 2 [.int .i64 0], HA3.out.2.stored 2 [.int .i64 0] (by kernel_rfl)⟩
  rw [← hW4.out]
  clear hW4 HT3 HA3
  have q2 := HA4.out.1.q2
  rw [HD.out] at q2
  go_upto_region 15 with fail
  clear q2
  have q13 := HA4.out.1.q13
  go_wp2_with fail
  clear q13
  refine (HK.out _ HT4.out).mono ?_
  rintro e W5 ⟨rfl, t⟩
  have HT5 : Hid (Touch (fun _ => False) w W5) := HT4.out.trans t
  have HA5 : Hid (OpAt w.heap.size o W5 ∧ OpAt (w.heap.size + 1) (rest0 o) W5) := ⟨HA4.out.1.keep t, HA4.out.2.keep t⟩
  clear t HT4 HA4
  cases t5
  · go_upto_region 16 with fail
    refine wp_region_lit ?_
    refine wpList_plain rfl fun K hK => ?_
    go_simp
    refine hK _ _ ?_
    clear hK K
    refine wpList_plain rfl fun K hK => ?_
    go_simp
    refine hK _ _ ?_
    clear hK K
    refine wpList_plain rfl fun K hK => ?_
    go_simp
    refine hK _ _ ?_
    clear hK K
    have q := HA5.out.2.q3
    have z : W5.frozen? ⟨w.heap.size + 1, 3, none⟩ = false := free_of_block HA5.out.2
    refine wpList_plain rfl fun K hK => ?_
    go_simp
    refine hK _ _ ?_
    clear hK K q z
    obtain ⟨W6, hW6⟩ : ∃ W6, Hid (W6 = W5.setCell ⟨w.heap.size + 1, 3, none⟩ (.int .u64 0)) := ⟨_, Eq.refl _⟩
    have HT6 : Hid (Touch (fun _ => False) w W6) := by rw [hW6.out]; exact HT5.out.stored (by omega) 3 [.int .u64 0]
    have HA6 : Hid (OpAt w.heap.size o W6 ∧ OpAt (w.heap.size + 1) { rest0 o with st := 0 } W6) := by rw [hW6.out]; exact ⟨HA5.out.1.stored_other (by omega) 3 [.int .u64 0], HA5.out.2.stored 3 [.int .u64 0] (by kernel_rfl)⟩
    rw [← hW6.out]
    clear hW6 HT5 HA5
    refine wpList_plain rfl fun K hK => ?_
    go_simp
    refine hK _ _ ?_
    clear hK K
    have q := HA6.out.2.q13
    have z : W6.frozen? ⟨w.heap.size + 1, 13, none⟩ = false := free_of_block HA6.out.2
    refine wpList_plain rfl fun K hK => ?_
    go_simp
    refine hK _ _ ?_
    clear hK K q z
    obtain ⟨W7, hW7⟩ : ∃ W7, Hid (W7 = W6.setCell ⟨w.heap.size + 1, 13, none⟩ (.string ⟨#[]⟩)) := ⟨_, Eq.refl _⟩
    have HT7 : Hid (Touch (fun _ => False) w W7) := by rw [hW7.out]; exact HT6.out.stored (by omega) 13 [.string ⟨#[]⟩]
    have HA7 : Hid (OpAt w.heap.size o W7 ∧ OpAt (w.heap.size + 1) { rest0 o with st := 0, ky := ⟨#[]⟩ } W7) := by rw [hW7.out]; exact ⟨HA6.out.1.stored_other (by omega) 13 [.string ⟨#[]⟩], HA6.out.2.stored 13 [.string ⟨#[]⟩] (by kernel_rfl)⟩
    rw [← hW7.out]
    clear hW7 HT6 HA6
    refine wpList_plain rfl fun K hK => ?_
    go_simp
    refine hK _ _ ?_
    clear hK K
    refine wpList_store_mid rfl 27 (.tmp 75) (.tmp 71) rfl (w.heap.size + 1) 9 #[.int .i64 0, .int .i64 0, .float .f64 0, .string ⟨#[]⟩] rfl rfl (HA7.out.2.there 9 4 (by decide)) (by kernel_rfl) (by kernel_rfl) ?_
    simp only [Act.put]
    obtain ⟨W8, hW8⟩ : ∃ W8, Hid (W8 = W7.setCells (w.heap.size + 1) 9 [.int .i64 0, .int .i64 0, .float .f64 0, .string ⟨#[]⟩]) := ⟨_, Eq.refl _⟩
    have HT8 : Hid (Touch (fun _ => False) w W8) := by rw [hW8.out]; exact HT7.out.stored (by omega) 9 [.int .i64 0, .int .i64 0, .float .f64 0, .string ⟨#[]⟩]
    have HA8 : Hid (OpAt w.heap.size o W8 ∧ OpAt (w.heap.size + 1) { rest0 o with st := 0, ky := ⟨#[]⟩, vk := 0, vn := 0, vf := 0, vs := ⟨#[]⟩ } W8) := by rw [hW8.out]; exact ⟨HA7.out.1.stored_other (by omega) 9 [.int .i64 0, .int .i64 0, .float .f64 0, .string ⟨#[]⟩], HA7.out.2.stored 9 [.int .i64 0, .int .i64 0, .float .f64 0, .string ⟨#[]⟩] (by kernel_rfl)⟩
    rw [← hW8.out]
    clear hW8 HT7 HA7
    refine wpList_plain rfl fun K hK => ?_
    go_simp
    refine hK _ _ ?_
    clear hK K
    refine wpList_store_mid rfl 24 (.tmp 76) (.tmp 72) rfl (w.heap.size + 1) 14 #[.int .u64 0, .int .u64 0] rfl rfl (HA8.out.2.there 14 2 (by decide)) (by kernel_rfl) (by kernel_rfl) ?_
    simp only [Act.put]
    obtain ⟨W9, hW9⟩ : ∃ W9, Hid (W9 = W8.setCells (w.heap.size + 1) 14 [.int .u64 0, .int .u64 0]) := ⟨_, Eq.refl _⟩
    have HT9 : Hid (Touch (fun _ => False) w W9) := by rw [hW9.out]; exact HT8.out.stored (by omega) 14 [.int .u64 0, .int .u64 0]
    have HA9 : Hid (OpAt w.heap.size o W9 ∧ OpAt (w.heap.size + 1) (rest4 o) W9) := by rw [hW9.out]; exact ⟨HA8.out.1.stored_other (by omega) 14 [.int .u64 0, .int .u64 0], HA8.out.2.stored 14 [.int .u64 0, .int .u64 0] (by kernel_rfl)⟩
    rw [← hW9.out]
    clear hW9 HT8 HA8
    go_wp2_with fail
    go_ret
    exact ⟨by rw [HG.out]; simp, HT9.out⟩
  · have q9 := HA5.out.1.q9
    have q10 := HA5.out.1.q10
    have q11 := HA5.out.1.q11
    have q12 := HA5.out.1.q12
    go_wp2_with fail
    clear q9 q10 q11 q12
    refine (HC.out _ HT5.out).mono ?_
    rintro e W6 ⟨rfl, t⟩
    have HT6 : Hid (Touch (fun _ => False) w W6) := HT5.out.trans t
    have HA6 : Hid (OpAt w.heap.size o W6 ∧ OpAt (w.heap.size + 1) (rest0 o) W6) := ⟨HA5.out.1.keep t, HA5.out.2.keep t⟩
    clear t HT5 HA5
    cases t6
    · go_upto_region 16 with fail
      refine wp_region_lit ?_
      refine wpList_plain rfl fun K hK => ?_
      go_simp
      refine hK _ _ ?_
      clear hK K
      refine wpList_plain rfl fun K hK => ?_
      go_simp
      refine hK _ _ ?_
      clear hK K
      refine wpList_plain rfl fun K hK => ?_
      go_simp
      refine hK _ _ ?_
      clear hK K
      have q := HA6.out.2.q3
      have z : W6.frozen? ⟨w.heap.size + 1, 3, none⟩ = false := free_of_block HA6.out.2
      refine wpList_plain rfl fun K hK => ?_
      go_simp
      refine hK _ _ ?_
      clear hK K q z
      obtain ⟨W7, hW7⟩ : ∃ W7, Hid (W7 = W6.setCell ⟨w.heap.size + 1, 3, none⟩ (.int .u64 0)) := ⟨_, Eq.refl _⟩
      have HT7 : Hid (Touch (fun _ => False) w W7) := by rw [hW7.out]; exact HT6.out.stored (by omega) 3 [.int .u64 0]
      have HA7 : Hid (OpAt w.heap.size o W7 ∧ OpAt (w.heap.size + 1) { rest0 o with st := 0 } W7) := by rw [hW7.out]; exact ⟨HA6.out.1.stored_other (by omega) 3 [.int .u64 0], HA6.out.2.stored 3 [.int .u64 0] (by kernel_rfl)⟩
      rw [← hW7.out]
      clear hW7 HT6 HA6
      refine wpList_plain rfl fun K hK => ?_
      go_simp
      refine hK _ _ ?_
      clear hK K
      have q := HA7.out.2.q13
      have z : W7.frozen? ⟨w.heap.size + 1, 13, none⟩ = false := free_of_block HA7.out.2
      refine wpList_plain rfl fun K hK => ?_
      go_simp
      refine hK _ _ ?_
      clear hK K q z
      obtain ⟨W8, hW8⟩ : ∃ W8, Hid (W8 = W7.setCell ⟨w.heap.size + 1, 13, none⟩ (.string ⟨#[]⟩)) := ⟨_, Eq.refl _⟩
      have HT8 : Hid (Touch (fun _ => False) w W8) := by rw [hW8.out]; exact HT7.out.stored (by omega) 13 [.string ⟨#[]⟩]
      have HA8 : Hid (OpAt w.heap.size o W8 ∧ OpAt (w.heap.size + 1) { rest0 o with st := 0, ky := ⟨#[]⟩ } W8) := by rw [hW8.out]; exact ⟨HA7.out.1.stored_other (by omega) 13 [.string ⟨#[]⟩], HA7.out.2.stored 13 [.string ⟨#[]⟩] (by kernel_rfl)⟩
      rw [← hW8.out]
      clear hW8 HT7 HA7
      refine wpList_plain rfl fun K hK => ?_
      go_simp
      refine hK _ _ ?_
      clear hK K
      refine wpList_store_mid rfl 27 (.tmp 75) (.tmp 71) rfl (w.heap.size + 1) 9 #[.int .i64 0, .int .i64 0, .float .f64 0, .string ⟨#[]⟩] rfl rfl (HA8.out.2.there 9 4 (by decide)) (by kernel_rfl) (by kernel_rfl) ?_
      simp only [Act.put]
      obtain ⟨W9, hW9⟩ : ∃ W9, Hid (W9 = W8.setCells (w.heap.size + 1) 9 [.int .i64 0, .int .i64 0, .float .f64 0, .string ⟨#[]⟩]) := ⟨_, Eq.refl _⟩
      have HT9 : Hid (Touch (fun _ => False) w W9) := by rw [hW9.out]; exact HT8.out.stored (by omega) 9 [.int .i64 0, .int .i64 0, .float .f64 0, .string ⟨#[]⟩]
      have HA9 : Hid (OpAt w.heap.size o W9 ∧ OpAt (w.heap.size + 1) { rest0 o with st := 0, ky := ⟨#[]⟩, vk := 0, vn := 0, vf := 0, vs := ⟨#[]⟩ } W9) := by rw [hW9.out]; exact ⟨HA8.out.1.stored_other (by omega) 9 [.int .i64 0, .int .i64 0, .float .f64 0, .string ⟨#[]⟩], HA8.out.2.stored 9 [.int .i64 0, .int .i64 0, .float .f64 0, .string ⟨#[]⟩] (by kernel_rfl)⟩
      rw [← hW9.out]
      clear hW9 HT8 HA8
      refine wpList_plain rfl fun K hK => ?_
      go_simp
      refine hK _ _ ?_
      clear hK K
      refine wpList_store_mid rfl 24 (.tmp 76) (.tmp 72) rfl (w.heap.size + 1) 14 #[.int .u64 0, .int .u64 0] rfl rfl (HA9.out.2.there 14 2 (by decide)) (by kernel_rfl) (by kernel_rfl) ?_
      simp only [Act.put]
      obtain ⟨W10, hW10⟩ : ∃ W10, Hid (W10 = W9.setCells (w.heap.size + 1) 14 [.int .u64 0, .int .u64 0]) := ⟨_, Eq.refl _⟩
      have HT10 : Hid (Touch (fun _ => False) w W10) := by rw [hW10.out]; exact HT9.out.stored (by omega) 14 [.int .u64 0, .int .u64 0]
      have HA10 : Hid (OpAt w.heap.size o W10 ∧ OpAt (w.heap.size + 1) (rest4 o) W10) := by rw [hW10.out]; exact ⟨HA9.out.1.stored_other (by omega) 14 [.int .u64 0, .int .u64 0], HA9.out.2.stored 14 [.int .u64 0, .int .u64 0] (by kernel_rfl)⟩
      rw [← hW10.out]
      clear hW10 HT9 HA9
      go_wp2_with fail
      go_ret
      exact ⟨by rw [HG.out]; simp, HT10.out⟩
    · have q3 := HA6.out.1.q3
      go_wp2_with fail
      clear q3
      refine (HM.out _ HT6.out).mono ?_
      rintro e W7 ⟨rfl, t⟩
      have HT7 : Hid (Touch (fun _ => False) w W7) := HT6.out.trans t
      have HA7 : Hid (OpAt w.heap.size o W7 ∧ OpAt (w.heap.size + 1) (rest0 o) W7) := ⟨HA6.out.1.keep t, HA6.out.2.keep t⟩
      clear t HT6 HA6
      go_upto_region 16 with fail
      refine wp_region_lit ?_
      refine wpList_plain rfl fun K hK => ?_
      go_simp
      refine hK _ _ ?_
      clear hK K
      refine wpList_plain rfl fun K hK => ?_
      go_simp
      refine hK _ _ ?_
      clear hK K
      refine wpList_plain rfl fun K hK => ?_
      go_simp
      refine hK _ _ ?_
      clear hK K
      have q := HA7.out.2.q3
      have z : W7.frozen? ⟨w.heap.size + 1, 3, none⟩ = false := free_of_block HA7.out.2
      refine wpList_plain rfl fun K hK => ?_
      go_simp
      refine hK _ _ ?_
      clear hK K q z
      obtain ⟨W8, hW8⟩ : ∃ W8, Hid (W8 = W7.setCell ⟨w.heap.size + 1, 3, none⟩ (.int .u64 0)) := ⟨_, Eq.refl _⟩
      have HT8 : Hid (Touch (fun _ => False) w W8) := by rw [hW8.out]; exact HT7.out.stored (by omega) 3 [.int .u64 0]
      have HA8 : Hid (OpAt w.heap.size o W8 ∧ OpAt (w.heap.size + 1) { rest0 o with st := 0 } W8) := by rw [hW8.out]; exact ⟨HA7.out.1.stored_other (by omega) 3 [.int .u64 0], HA7.out.2.stored 3 [.int .u64 0] (by kernel_rfl)⟩
      rw [← hW8.out]
      clear hW8 HT7 HA7
      refine wpList_plain rfl fun K hK => ?_
      go_simp
      refine hK _ _ ?_
      clear hK K
      have q := HA8.out.2.q13
      have z : W8.frozen? ⟨w.heap.size + 1, 13, none⟩ = false := free_of_block HA8.out.2
      refine wpList_plain rfl fun K hK => ?_
      go_simp
      refine hK _ _ ?_
      clear hK K q z
      obtain ⟨W9, hW9⟩ : ∃ W9, Hid (W9 = W8.setCell ⟨w.heap.size + 1, 13, none⟩ (.string ⟨#[]⟩)) := ⟨_, Eq.refl _⟩
      have HT9 : Hid (Touch (fun _ => False) w W9) := by rw [hW9.out]; exact HT8.out.stored (by omega) 13 [.string ⟨#[]⟩]
      have HA9 : Hid (OpAt w.heap.size o W9 ∧ OpAt (w.heap.size + 1) { rest0 o with st := 0, ky := ⟨#[]⟩ } W9) := by rw [hW9.out]; exact ⟨HA8.out.1.stored_other (by omega) 13 [.string ⟨#[]⟩], HA8.out.2.stored 13 [.string ⟨#[]⟩] (by kernel_rfl)⟩
      rw [← hW9.out]
      clear hW9 HT8 HA8
      refine wpList_plain rfl fun K hK => ?_
      go_simp
      refine hK _ _ ?_
      clear hK K
      refine wpList_store_mid rfl 27 (.tmp 75) (.tmp 71) rfl (w.heap.size + 1) 9 #[.int .i64 0, .int .i64 0, .float .f64 0, .string ⟨#[]⟩] rfl rfl (HA9.out.2.there 9 4 (by decide)) (by kernel_rfl) (by kernel_rfl) ?_
      simp only [Act.put]
      obtain ⟨W10, hW10⟩ : ∃ W10, Hid (W10 = W9.setCells (w.heap.size + 1) 9 [.int .i64 0, .int .i64 0, .float .f64 0, .string ⟨#[]⟩]) := ⟨_, Eq.refl _⟩
      have HT10 : Hid (Touch (fun _ => False) w W10) := by rw [hW10.out]; exact HT9.out.stored (by omega) 9 [.int .i64 0, .int .i64 0, .float .f64 0, .string ⟨#[]⟩]
      have HA10 : Hid (OpAt w.heap.size o W10 ∧ OpAt (w.heap.size + 1) { rest0 o with st := 0, ky := ⟨#[]⟩, vk := 0, vn := 0, vf := 0, vs := ⟨#[]⟩ } W10) := by rw [hW10.out]; exact ⟨HA9.out.1.stored_other (by omega) 9 [.int .i64 0, .int .i64 0, .float .f64 0, .string ⟨#[]⟩], HA9.out.2.stored 9 [.int .i64 0, .int .i64 0, .float .f64 0, .string ⟨#[]⟩] (by kernel_rfl)⟩
      rw [← hW10.out]
      clear hW10 HT9 HA9
      refine wpList_plain rfl fun K hK => ?_
      go_simp
      refine hK _ _ ?_
      clear hK K
      refine wpList_store_mid rfl 24 (.tmp 76) (.tmp 72) rfl (w.heap.size + 1) 14 #[.int .u64 0, .int .u64 0] rfl rfl (HA10.out.2.there 14 2 (by decide)) (by kernel_rfl) (by kernel_rfl) ?_
      simp only [Act.put]
      obtain ⟨W11, hW11⟩ : ∃ W11, Hid (W11 = W10.setCells (w.heap.size + 1) 14 [.int .u64 0, .int .u64 0]) := ⟨_, Eq.refl _⟩
      have HT11 : Hid (Touch (fun _ => False) w W11) := by rw [hW11.out]; exact HT10.out.stored (by omega) 14 [.int .u64 0, .int .u64 0]
      have HA11 : Hid (OpAt w.heap.size o W11 ∧ OpAt (w.heap.size + 1) (rest4 o) W11) := by rw [hW11.out]; exact ⟨HA10.out.1.stored_other (by omega) 14 [.int .u64 0, .int .u64 0], HA10.out.2.stored 14 [.int .u64 0, .int .u64 0] (by kernel_rfl)⟩
      rw [← hW11.out]
      clear hW11 HT10 HA10
      cases t7
      · go_wp2_with fail
        go_ret
        exact ⟨by rw [HG.out]; simp, HT11.out⟩
      · go_upto_region 18 with fail
        refine wp_region_lit ?_
        refine wpList_plain rfl fun K hK => ?_
        go_simp
        refine hK _ _ ?_
        clear hK K
        refine wpList_plain rfl fun K hK => ?_
        go_simp
        refine hK _ _ ?_
        clear hK K
        refine wpList_step fun K hK => ?_
        rw [if_pos (by kernel_rfl)]
        refine wp_load_mid 31 (.tmp 4) rfl (w.heap.size + 1) 0 rfl ((rest4 o)).vals.toList _ (rangeAt_of HA11.out.2) Tryz.underlying31 rfl (by kernel_rfl) (hK _ _ ?_)
        clear hK K
        simp only [Act.put, List.setIfInBounds_toArray, List.set_cons_succ, List.set_cons_zero]
        refine wpList_step fun K hK => ?_
        rw [if_pos (by kernel_rfl)]
        go_simp
        refine hK _ _ ?_
        clear hK K
        go_wp2_with fail
        refine (HS.out _ HT11.out).mono ?_
        rintro e W12 ⟨rfl, t⟩
        have HT12 : Hid (Touch (fun _ => False) w W12) := HT11.out.trans t
        have HA12 : Hid (OpAt w.heap.size o W12 ∧ OpAt (w.heap.size + 1) (rest4 o) W12) := ⟨HA11.out.1.keep t, HA11.out.2.keep t⟩
        clear t HT11 HA11
        go_wp2_with fail
        go_ret
        exact ⟨by rw [HG.out]; simp, HT12.out⟩
set_option maxHeartbeats 8000000 in
theorem form3 (o : O) (hk : o.kind = 3) (h : o.tx.size ≤ 4611686018427387904 ∧ o.ky.size ≤ 4611686018427387904 ∧ o.vs.size ≤ 4611686018427387904 ∧ o.vf < 18446744073709551616) (w : World) (hU : TabsU w) : Calls Tryz.prog 35 #[o.val] w fun e w' => e = .returned (.bool (formB o)) ∧ Touch (fun _ => False) w w' := by
  have HC : Hid (∀ W, Touch (fun _ => False) w W → Calls Tryz.prog 64 #[o.v.val] W fun e w' => e = .returned (.int .i64 (refCheck o.v)) ∧ Touch (fun _ => False) W w') := fun W t => v_check o.v (by have := h.2.2.1; simpa [O.v] using (by omega : o.vs.size ≤ 9223372036854775807)) W (hU.keep t)
  have HP : Hid (∀ W, Touch (fun _ => False) w W → Calls Tryz.prog 62 #[o.v.val] W fun e w' => e = .returned (.bool (plainOk o.v)) ∧ Touch (fun _ => False) W w') := fun W t => plain_any o.v (by have := h.2.2.1; simpa [O.v] using (by omega : o.vs.size ≤ 9223372036854775807)) W (hU.keep t)
  have HK : Hid (∀ W, Touch (fun _ => False) w W → Calls Tryz.prog 63 #[.string o.ky] W fun e w' => e = .returned (.bool (keyOk o.ky)) ∧ Touch (fun _ => False) W w') := fun W t => rightKey_any o.ky h.2.1 W (hU.keep t)
  have HM : Hid (∀ W, Touch (fun _ => False) w W → Calls Tryz.prog 65 #[.int .u64 o.st] W fun e w' => e = .returned (.bool (stampOk o.st)) ∧ Touch (fun _ => False) W w') := fun W t => (rightStamp_any o.st W).mono (by rintro e w2 ⟨rfl, rfl⟩; exact ⟨rfl, Touch.refl _ _⟩)
  have HS : Hid (∀ W, Touch (fun _ => False) w W → Calls Tryz.prog 27 #[(rest34 o).val, zeroO.val] W fun e w' => e = .returned (.bool (sameO (rest34 o) zeroO)) ∧ Touch (fun _ => False) W w') := fun W t => ops_sameO (rest34 o) zeroO (by simp [rest34]) (by decide) W
  obtain ⟨t3, et3⟩ : ∃ t3, plainOk o.v = t3 := ⟨_, rfl⟩
  obtain ⟨u1, eu1⟩ : ∃ u1, (o.pc == 0) = u1 := ⟨_, rfl⟩
  obtain ⟨u2, eu2⟩ : ∃ u2, (o.pk == 0) = u2 := ⟨_, rfl⟩
  obtain ⟨t5, et5⟩ : ∃ t5, keyOk o.ky = t5 := ⟨_, rfl⟩
  obtain ⟨t6, et6⟩ : ∃ t6, (refCheck o.v == 0) = t6 := ⟨_, rfl⟩
  obtain ⟨t7, et7⟩ : ∃ t7, stampOk o.st = t7 := ⟨_, rfl⟩
  obtain ⟨t4, et4⟩ : ∃ t4, sameO (rest34 o) zeroO = t4 := ⟨_, rfl⟩
  have HG : Hid (formB o = ((((t3 && (u1 && u2)) && t5 && t6) && t7) && t4)) := by unfold formB Hid; rw [if_neg (by omega), if_neg (by omega), if_pos hk, et3, eu1, eu2, et5, et6, et7, et4]
  rw [et3] at HP
  rw [et5] at HK
  rw [et7] at HM
  rw [et4] at HS
  clear h hU
  have HD : Hid (o.kind = 3) := hk
  clear hk
  clear et3 et5 et7 et4
  generalize refCheck o.v = C at *
  go_enter Tryz.func35, Tryz.ntmps35
  go_upto_region 2 with fail
  have hA0 : OpAt w.heap.size o (w.alloc (opO o)) := heap_alloc_new _ _
  have HTa : Hid (Touch (fun _ => False) w (w.alloc (opO o))) := (Touch.refl _ _).alloc _
  refine wp_region_lit ?_
  refine wpList_load_mid rfl 31 (.tmp 1) rfl w.heap.size 0 rfl o.vals.toList _ (rangeAt_of hA0) Tryz.underlying31 rfl (by kernel_rfl) ?_
  simp only [Act.put, List.setIfInBounds_toArray]
  clear hA0 HTa
  refine wpList_plain rfl fun K hK => ?_
  go_simp
  refine hK _ _ ?_
  clear hK K
  obtain ⟨W1, hW1⟩ : ∃ W1, Hid (W1 = (w.alloc (opO o)).alloc (.cells #[.int .u64 0, .int .u64 0, .int .i64 0, .int .u64 0, .int .u64 0, .int .u64 0, .int .u64 0, .int .u64 0, .string ⟨#[]⟩, .int .i64 0, .int .i64 0, .float .f64 0, .string ⟨#[]⟩, .string ⟨#[]⟩, .int .u64 0, .int .u64 0, .int .u64 0, .int .u64 0, .bool false, .int .u64 0, .int .u64 0, .bool false] 31)) := ⟨_, Eq.refl _⟩
  have HT1 : Hid (Touch (fun _ => False) w W1) := by rw [hW1.out]; exact ((Touch.refl _ _).alloc _).alloc _
  have HA1 : Hid (OpAt w.heap.size o W1 ∧ OpAt (w.heap.size + 1) zeroO W1) := by rw [hW1.out]; exact heap_two w _ _
  rw [← hW1.out]
  clear hW1
  refine wpList_store_mid rfl 31 (.tmp 4) (.tmp 5) rfl (w.heap.size + 1) 0 o.vals rfl rfl (HA1.out.2.there 0 22 (by decide)) (by kernel_rfl) (by kernel_rfl) ?_
  simp only [Act.put]
  obtain ⟨W2, hW2⟩ : ∃ W2, Hid (W2 = W1.setCells (w.heap.size + 1) 0 o.vals.toList) := ⟨_, Eq.refl _⟩
  have HT2 : Hid (Touch (fun _ => False) w W2) := by rw [hW2.out]; exact HT1.out.stored (by omega) 0 o.vals.toList
  have HA2 : Hid (OpAt w.heap.size o W2 ∧ OpAt (w.heap.size + 1) o W2) := by rw [hW2.out]; exact ⟨HA1.out.1.stored_other (by omega) 0 o.vals.toList, HA1.out.2.stored 0 o.vals.toList (by kernel_rfl)⟩
  rw [← hW2.out]
  clear hW2 HT1 HA1
  go_upto_region 3 with fail
  refine wp_region_lit ?_
  refine wpList_plain rfl fun K hK => ?_
  go_simp
  refine hK _ _ ?_
  clear hK K
  refine wpList_plain rfl fun K hK => ?_
  go_simp
  refine hK _ _ ?_
  clear hK K
  refine wpList_store_mid rfl 24 (.tmp 7) (.tmp 6) rfl (w.heap.size + 1) 0 #[.int .u64 0, .int .u64 0] rfl rfl (HA2.out.2.there 0 2 (by decide)) (by kernel_rfl) (by kernel_rfl) ?_
  simp only [Act.put]
  obtain ⟨W3, hW3⟩ : ∃ W3, Hid (W3 = W2.setCells (w.heap.size + 1) 0 [.int .u64 0, .int .u64 0]) := ⟨_, Eq.refl _⟩
  have HT3 : Hid (Touch (fun _ => False) w W3) := by rw [hW3.out]; exact HT2.out.stored (by omega) 0 [.int .u64 0, .int .u64 0]
  have HA3 : Hid (OpAt w.heap.size o W3 ∧ OpAt (w.heap.size + 1) { o with c := 0, k := 0 } W3) := by rw [hW3.out]; exact ⟨HA2.out.1.stored_other (by omega) 0 [.int .u64 0, .int .u64 0], HA2.out.2.stored 0 [.int .u64 0, .int .u64 0] (by kernel_rfl)⟩
  rw [← hW3.out]
  clear hW3 HT2 HA2
  refine wpList_plain rfl fun K hK => ?_
  go_simp
  refine hK _ _ ?_
  clear hK K
  have q := HA3.out.2.q2
  have z : W3.frozen? ⟨w.heap.size + 1, 2, none⟩ = false := free_of_block HA3.out.2
  refine wpList_plain rfl fun K hK => ?_
  go_simp
  refine hK _ _ ?_
  clear hK K q z
  obtain ⟨W4, hW4⟩ : ∃ W4, Hid (W4 = W3.setCell ⟨w.heap.size + 1, 2, none⟩ (.int .i64 0)) := ⟨_, Eq.refl _⟩
  have HT4 : Hid (Touch (fun _ => False) w W4) := by rw [hW4.out]; exact HT3.out.stored (by omega) 2 [.int .i64 0]
  have HA4 : Hid (OpAt w.heap.size o W4 ∧ OpAt (w.heap.size + 1) (rest0 o) W4) := by rw [hW4.out]; exact ⟨HA3.out.1.stored_other (by omega) 2 [.int .i64 0], HA3.out.2.stored 2 [.int .i64 0] (by kernel_rfl)⟩
  rw [← hW4.out]
  clear hW4 HT3 HA3
  have q2 := HA4.out.1.q2
  rw [HD.out] at q2
  go_upto_region 13 with fail
  clear q2
  have q9 := HA4.out.1.q9
  have q10 := HA4.out.1.q10
  have q11 := HA4.out.1.q11
  have q12 := HA4.out.1.q12
  go_wp2_with fail
  clear q9 q10 q11 q12
  refine (HP.out _ HT4.out).mono ?_
  rintro e W5 ⟨rfl, t⟩
  have HT5 : Hid (Touch (fun _ => False) w W5) := HT4.out.trans t
  have HA5 : Hid (OpAt w.heap.size o W5 ∧ OpAt (w.heap.size + 1) (rest0 o) W5) := ⟨HA4.out.1.keep t, HA4.out.2.keep t⟩
  clear t HT4 HA4
  cases t3
  · go_upto_region 14 with fail
    refine wp_region_lit ?_
    refine wpList_plain rfl fun K hK => ?_
    go_simp
    refine hK _ _ ?_
    clear hK K
    refine wpList_plain rfl fun K hK => ?_
    go_simp
    refine hK _ _ ?_
    clear hK K
    refine wpList_plain rfl fun K hK => ?_
    go_simp
    refine hK _ _ ?_
    clear hK K
    refine wpList_store_mid rfl 29 (.tmp 52) (.tmp 50) rfl (w.heap.size + 1) 16 #[.int .u64 0, .int .u64 0, .bool false] rfl rfl (HA5.out.2.there 16 3 (by decide)) (by kernel_rfl) (by kernel_rfl) ?_
    simp only [Act.put]
    obtain ⟨W6, hW6⟩ : ∃ W6, Hid (W6 = W5.setCells (w.heap.size + 1) 16 [.int .u64 0, .int .u64 0, .bool false]) := ⟨_, Eq.refl _⟩
    have HT6 : Hid (Touch (fun _ => False) w W6) := by rw [hW6.out]; exact HT5.out.stored (by omega) 16 [.int .u64 0, .int .u64 0, .bool false]
    have HA6 : Hid (OpAt w.heap.size o W6 ∧ OpAt (w.heap.size + 1) { rest0 o with fc := 0, fk := 0, fa := false } W6) := by rw [hW6.out]; exact ⟨HA5.out.1.stored_other (by omega) 16 [.int .u64 0, .int .u64 0, .bool false], HA5.out.2.stored 16 [.int .u64 0, .int .u64 0, .bool false] (by kernel_rfl)⟩
    rw [← hW6.out]
    clear hW6 HT5 HA5
    refine wpList_plain rfl fun K hK => ?_
    go_simp
    refine hK _ _ ?_
    clear hK K
    refine wpList_store_mid rfl 29 (.tmp 53) (.tmp 51) rfl (w.heap.size + 1) 19 #[.int .u64 0, .int .u64 0, .bool false] rfl rfl (HA6.out.2.there 19 3 (by decide)) (by kernel_rfl) (by kernel_rfl) ?_
    simp only [Act.put]
    obtain ⟨W7, hW7⟩ : ∃ W7, Hid (W7 = W6.setCells (w.heap.size + 1) 19 [.int .u64 0, .int .u64 0, .bool false]) := ⟨_, Eq.refl _⟩
    have HT7 : Hid (Touch (fun _ => False) w W7) := by rw [hW7.out]; exact HT6.out.stored (by omega) 19 [.int .u64 0, .int .u64 0, .bool false]
    have HA7 : Hid (OpAt w.heap.size o W7 ∧ OpAt (w.heap.size + 1) (rest3 o) W7) := by rw [hW7.out]; exact ⟨HA6.out.1.stored_other (by omega) 19 [.int .u64 0, .int .u64 0, .bool false], HA6.out.2.stored 19 [.int .u64 0, .int .u64 0, .bool false] (by kernel_rfl)⟩
    rw [← hW7.out]
    clear hW7 HT6 HA6
    go_upto_region 16 with fail
    refine wp_region_lit ?_
    refine wpList_plain rfl fun K hK => ?_
    go_simp
    refine hK _ _ ?_
    clear hK K
    refine wpList_plain rfl fun K hK => ?_
    go_simp
    refine hK _ _ ?_
    clear hK K
    refine wpList_plain rfl fun K hK => ?_
    go_simp
    refine hK _ _ ?_
    clear hK K
    have q := HA7.out.2.q3
    have z : W7.frozen? ⟨w.heap.size + 1, 3, none⟩ = false := free_of_block HA7.out.2
    refine wpList_plain rfl fun K hK => ?_
    go_simp
    refine hK _ _ ?_
    clear hK K q z
    obtain ⟨W8, hW8⟩ : ∃ W8, Hid (W8 = W7.setCell ⟨w.heap.size + 1, 3, none⟩ (.int .u64 0)) := ⟨_, Eq.refl _⟩
    have HT8 : Hid (Touch (fun _ => False) w W8) := by rw [hW8.out]; exact HT7.out.stored (by omega) 3 [.int .u64 0]
    have HA8 : Hid (OpAt w.heap.size o W8 ∧ OpAt (w.heap.size + 1) { rest3 o with st := 0 } W8) := by rw [hW8.out]; exact ⟨HA7.out.1.stored_other (by omega) 3 [.int .u64 0], HA7.out.2.stored 3 [.int .u64 0] (by kernel_rfl)⟩
    rw [← hW8.out]
    clear hW8 HT7 HA7
    refine wpList_plain rfl fun K hK => ?_
    go_simp
    refine hK _ _ ?_
    clear hK K
    have q := HA8.out.2.q13
    have z : W8.frozen? ⟨w.heap.size + 1, 13, none⟩ = false := free_of_block HA8.out.2
    refine wpList_plain rfl fun K hK => ?_
    go_simp
    refine hK _ _ ?_
    clear hK K q z
    obtain ⟨W9, hW9⟩ : ∃ W9, Hid (W9 = W8.setCell ⟨w.heap.size + 1, 13, none⟩ (.string ⟨#[]⟩)) := ⟨_, Eq.refl _⟩
    have HT9 : Hid (Touch (fun _ => False) w W9) := by rw [hW9.out]; exact HT8.out.stored (by omega) 13 [.string ⟨#[]⟩]
    have HA9 : Hid (OpAt w.heap.size o W9 ∧ OpAt (w.heap.size + 1) { rest3 o with st := 0, ky := ⟨#[]⟩ } W9) := by rw [hW9.out]; exact ⟨HA8.out.1.stored_other (by omega) 13 [.string ⟨#[]⟩], HA8.out.2.stored 13 [.string ⟨#[]⟩] (by kernel_rfl)⟩
    rw [← hW9.out]
    clear hW9 HT8 HA8
    refine wpList_plain rfl fun K hK => ?_
    go_simp
    refine hK _ _ ?_
    clear hK K
    refine wpList_store_mid rfl 27 (.tmp 75) (.tmp 71) rfl (w.heap.size + 1) 9 #[.int .i64 0, .int .i64 0, .float .f64 0, .string ⟨#[]⟩] rfl rfl (HA9.out.2.there 9 4 (by decide)) (by kernel_rfl) (by kernel_rfl) ?_
    simp only [Act.put]
    obtain ⟨W10, hW10⟩ : ∃ W10, Hid (W10 = W9.setCells (w.heap.size + 1) 9 [.int .i64 0, .int .i64 0, .float .f64 0, .string ⟨#[]⟩]) := ⟨_, Eq.refl _⟩
    have HT10 : Hid (Touch (fun _ => False) w W10) := by rw [hW10.out]; exact HT9.out.stored (by omega) 9 [.int .i64 0, .int .i64 0, .float .f64 0, .string ⟨#[]⟩]
    have HA10 : Hid (OpAt w.heap.size o W10 ∧ OpAt (w.heap.size + 1) { rest3 o with st := 0, ky := ⟨#[]⟩, vk := 0, vn := 0, vf := 0, vs := ⟨#[]⟩ } W10) := by rw [hW10.out]; exact ⟨HA9.out.1.stored_other (by omega) 9 [.int .i64 0, .int .i64 0, .float .f64 0, .string ⟨#[]⟩], HA9.out.2.stored 9 [.int .i64 0, .int .i64 0, .float .f64 0, .string ⟨#[]⟩] (by kernel_rfl)⟩
    rw [← hW10.out]
    clear hW10 HT9 HA9
    refine wpList_plain rfl fun K hK => ?_
    go_simp
    refine hK _ _ ?_
    clear hK K
    refine wpList_store_mid rfl 24 (.tmp 76) (.tmp 72) rfl (w.heap.size + 1) 14 #[.int .u64 0, .int .u64 0] rfl rfl (HA10.out.2.there 14 2 (by decide)) (by kernel_rfl) (by kernel_rfl) ?_
    simp only [Act.put]
    obtain ⟨W11, hW11⟩ : ∃ W11, Hid (W11 = W10.setCells (w.heap.size + 1) 14 [.int .u64 0, .int .u64 0]) := ⟨_, Eq.refl _⟩
    have HT11 : Hid (Touch (fun _ => False) w W11) := by rw [hW11.out]; exact HT10.out.stored (by omega) 14 [.int .u64 0, .int .u64 0]
    have HA11 : Hid (OpAt w.heap.size o W11 ∧ OpAt (w.heap.size + 1) (rest34 o) W11) := by rw [hW11.out]; exact ⟨HA10.out.1.stored_other (by omega) 14 [.int .u64 0, .int .u64 0], HA10.out.2.stored 14 [.int .u64 0, .int .u64 0] (by kernel_rfl)⟩
    rw [← hW11.out]
    clear hW11 HT10 HA10
    go_wp2_with fail
    go_ret
    exact ⟨by rw [HG.out]; simp, HT11.out⟩
  · have q14 := HA5.out.1.q14
    have q15 := HA5.out.1.q15
    cases u1
    · go_upto_region 14 with fail
      clear q14 q15
      refine wp_region_lit ?_
      refine wpList_plain rfl fun K hK => ?_
      go_simp
      refine hK _ _ ?_
      clear hK K
      refine wpList_plain rfl fun K hK => ?_
      go_simp
      refine hK _ _ ?_
      clear hK K
      refine wpList_plain rfl fun K hK => ?_
      go_simp
      refine hK _ _ ?_
      clear hK K
      refine wpList_store_mid rfl 29 (.tmp 52) (.tmp 50) rfl (w.heap.size + 1) 16 #[.int .u64 0, .int .u64 0, .bool false] rfl rfl (HA5.out.2.there 16 3 (by decide)) (by kernel_rfl) (by kernel_rfl) ?_
      simp only [Act.put]
      obtain ⟨W6, hW6⟩ : ∃ W6, Hid (W6 = W5.setCells (w.heap.size + 1) 16 [.int .u64 0, .int .u64 0, .bool false]) := ⟨_, Eq.refl _⟩
      have HT6 : Hid (Touch (fun _ => False) w W6) := by rw [hW6.out]; exact HT5.out.stored (by omega) 16 [.int .u64 0, .int .u64 0, .bool false]
      have HA6 : Hid (OpAt w.heap.size o W6 ∧ OpAt (w.heap.size + 1) { rest0 o with fc := 0, fk := 0, fa := false } W6) := by rw [hW6.out]; exact ⟨HA5.out.1.stored_other (by omega) 16 [.int .u64 0, .int .u64 0, .bool false], HA5.out.2.stored 16 [.int .u64 0, .int .u64 0, .bool false] (by kernel_rfl)⟩
      rw [← hW6.out]
      clear hW6 HT5 HA5
      refine wpList_plain rfl fun K hK => ?_
      go_simp
      refine hK _ _ ?_
      clear hK K
      refine wpList_store_mid rfl 29 (.tmp 53) (.tmp 51) rfl (w.heap.size + 1) 19 #[.int .u64 0, .int .u64 0, .bool false] rfl rfl (HA6.out.2.there 19 3 (by decide)) (by kernel_rfl) (by kernel_rfl) ?_
      simp only [Act.put]
      obtain ⟨W7, hW7⟩ : ∃ W7, Hid (W7 = W6.setCells (w.heap.size + 1) 19 [.int .u64 0, .int .u64 0, .bool false]) := ⟨_, Eq.refl _⟩
      have HT7 : Hid (Touch (fun _ => False) w W7) := by rw [hW7.out]; exact HT6.out.stored (by omega) 19 [.int .u64 0, .int .u64 0, .bool false]
      have HA7 : Hid (OpAt w.heap.size o W7 ∧ OpAt (w.heap.size + 1) (rest3 o) W7) := by rw [hW7.out]; exact ⟨HA6.out.1.stored_other (by omega) 19 [.int .u64 0, .int .u64 0, .bool false], HA6.out.2.stored 19 [.int .u64 0, .int .u64 0, .bool false] (by kernel_rfl)⟩
      rw [← hW7.out]
      clear hW7 HT6 HA6
      go_upto_region 16 with fail
      refine wp_region_lit ?_
      refine wpList_plain rfl fun K hK => ?_
      go_simp
      refine hK _ _ ?_
      clear hK K
      refine wpList_plain rfl fun K hK => ?_
      go_simp
      refine hK _ _ ?_
      clear hK K
      refine wpList_plain rfl fun K hK => ?_
      go_simp
      refine hK _ _ ?_
      clear hK K
      have q := HA7.out.2.q3
      have z : W7.frozen? ⟨w.heap.size + 1, 3, none⟩ = false := free_of_block HA7.out.2
      refine wpList_plain rfl fun K hK => ?_
      go_simp
      refine hK _ _ ?_
      clear hK K q z
      obtain ⟨W8, hW8⟩ : ∃ W8, Hid (W8 = W7.setCell ⟨w.heap.size + 1, 3, none⟩ (.int .u64 0)) := ⟨_, Eq.refl _⟩
      have HT8 : Hid (Touch (fun _ => False) w W8) := by rw [hW8.out]; exact HT7.out.stored (by omega) 3 [.int .u64 0]
      have HA8 : Hid (OpAt w.heap.size o W8 ∧ OpAt (w.heap.size + 1) { rest3 o with st := 0 } W8) := by rw [hW8.out]; exact ⟨HA7.out.1.stored_other (by omega) 3 [.int .u64 0], HA7.out.2.stored 3 [.int .u64 0] (by kernel_rfl)⟩
      rw [← hW8.out]
      clear hW8 HT7 HA7
      refine wpList_plain rfl fun K hK => ?_
      go_simp
      refine hK _ _ ?_
      clear hK K
      have q := HA8.out.2.q13
      have z : W8.frozen? ⟨w.heap.size + 1, 13, none⟩ = false := free_of_block HA8.out.2
      refine wpList_plain rfl fun K hK => ?_
      go_simp
      refine hK _ _ ?_
      clear hK K q z
      obtain ⟨W9, hW9⟩ : ∃ W9, Hid (W9 = W8.setCell ⟨w.heap.size + 1, 13, none⟩ (.string ⟨#[]⟩)) := ⟨_, Eq.refl _⟩
      have HT9 : Hid (Touch (fun _ => False) w W9) := by rw [hW9.out]; exact HT8.out.stored (by omega) 13 [.string ⟨#[]⟩]
      have HA9 : Hid (OpAt w.heap.size o W9 ∧ OpAt (w.heap.size + 1) { rest3 o with st := 0, ky := ⟨#[]⟩ } W9) := by rw [hW9.out]; exact ⟨HA8.out.1.stored_other (by omega) 13 [.string ⟨#[]⟩], HA8.out.2.stored 13 [.string ⟨#[]⟩] (by kernel_rfl)⟩
      rw [← hW9.out]
      clear hW9 HT8 HA8
      refine wpList_plain rfl fun K hK => ?_
      go_simp
      refine hK _ _ ?_
      clear hK K
      refine wpList_store_mid rfl 27 (.tmp 75) (.tmp 71) rfl (w.heap.size + 1) 9 #[.int .i64 0, .int .i64 0, .float .f64 0, .string ⟨#[]⟩] rfl rfl (HA9.out.2.there 9 4 (by decide)) (by kernel_rfl) (by kernel_rfl) ?_
      simp only [Act.put]
      obtain ⟨W10, hW10⟩ : ∃ W10, Hid (W10 = W9.setCells (w.heap.size + 1) 9 [.int .i64 0, .int .i64 0, .float .f64 0, .string ⟨#[]⟩]) := ⟨_, Eq.refl _⟩
      have HT10 : Hid (Touch (fun _ => False) w W10) := by rw [hW10.out]; exact HT9.out.stored (by omega) 9 [.int .i64 0, .int .i64 0, .float .f64 0, .string ⟨#[]⟩]
      have HA10 : Hid (OpAt w.heap.size o W10 ∧ OpAt (w.heap.size + 1) { rest3 o with st := 0, ky := ⟨#[]⟩, vk := 0, vn := 0, vf := 0, vs := ⟨#[]⟩ } W10) := by rw [hW10.out]; exact ⟨HA9.out.1.stored_other (by omega) 9 [.int .i64 0, .int .i64 0, .float .f64 0, .string ⟨#[]⟩], HA9.out.2.stored 9 [.int .i64 0, .int .i64 0, .float .f64 0, .string ⟨#[]⟩] (by kernel_rfl)⟩
      rw [← hW10.out]
      clear hW10 HT9 HA9
      refine wpList_plain rfl fun K hK => ?_
      go_simp
      refine hK _ _ ?_
      clear hK K
      refine wpList_store_mid rfl 24 (.tmp 76) (.tmp 72) rfl (w.heap.size + 1) 14 #[.int .u64 0, .int .u64 0] rfl rfl (HA10.out.2.there 14 2 (by decide)) (by kernel_rfl) (by kernel_rfl) ?_
      simp only [Act.put]
      obtain ⟨W11, hW11⟩ : ∃ W11, Hid (W11 = W10.setCells (w.heap.size + 1) 14 [.int .u64 0, .int .u64 0]) := ⟨_, Eq.refl _⟩
      have HT11 : Hid (Touch (fun _ => False) w W11) := by rw [hW11.out]; exact HT10.out.stored (by omega) 14 [.int .u64 0, .int .u64 0]
      have HA11 : Hid (OpAt w.heap.size o W11 ∧ OpAt (w.heap.size + 1) (rest34 o) W11) := by rw [hW11.out]; exact ⟨HA10.out.1.stored_other (by omega) 14 [.int .u64 0, .int .u64 0], HA10.out.2.stored 14 [.int .u64 0, .int .u64 0] (by kernel_rfl)⟩
      rw [← hW11.out]
      clear hW11 HT10 HA10
      go_wp2_with fail
      go_ret
      exact ⟨by rw [HG.out]; simp, HT11.out⟩
    · cases u2
      · go_upto_region 14 with fail
        clear q14 q15
        refine wp_region_lit ?_
        refine wpList_plain rfl fun K hK => ?_
        go_simp
        refine hK _ _ ?_
        clear hK K
        refine wpList_plain rfl fun K hK => ?_
        go_simp
        refine hK _ _ ?_
        clear hK K
        refine wpList_plain rfl fun K hK => ?_
        go_simp
        refine hK _ _ ?_
        clear hK K
        refine wpList_store_mid rfl 29 (.tmp 52) (.tmp 50) rfl (w.heap.size + 1) 16 #[.int .u64 0, .int .u64 0, .bool false] rfl rfl (HA5.out.2.there 16 3 (by decide)) (by kernel_rfl) (by kernel_rfl) ?_
        simp only [Act.put]
        obtain ⟨W6, hW6⟩ : ∃ W6, Hid (W6 = W5.setCells (w.heap.size + 1) 16 [.int .u64 0, .int .u64 0, .bool false]) := ⟨_, Eq.refl _⟩
        have HT6 : Hid (Touch (fun _ => False) w W6) := by rw [hW6.out]; exact HT5.out.stored (by omega) 16 [.int .u64 0, .int .u64 0, .bool false]
        have HA6 : Hid (OpAt w.heap.size o W6 ∧ OpAt (w.heap.size + 1) { rest0 o with fc := 0, fk := 0, fa := false } W6) := by rw [hW6.out]; exact ⟨HA5.out.1.stored_other (by omega) 16 [.int .u64 0, .int .u64 0, .bool false], HA5.out.2.stored 16 [.int .u64 0, .int .u64 0, .bool false] (by kernel_rfl)⟩
        rw [← hW6.out]
        clear hW6 HT5 HA5
        refine wpList_plain rfl fun K hK => ?_
        go_simp
        refine hK _ _ ?_
        clear hK K
        refine wpList_store_mid rfl 29 (.tmp 53) (.tmp 51) rfl (w.heap.size + 1) 19 #[.int .u64 0, .int .u64 0, .bool false] rfl rfl (HA6.out.2.there 19 3 (by decide)) (by kernel_rfl) (by kernel_rfl) ?_
        simp only [Act.put]
        obtain ⟨W7, hW7⟩ : ∃ W7, Hid (W7 = W6.setCells (w.heap.size + 1) 19 [.int .u64 0, .int .u64 0, .bool false]) := ⟨_, Eq.refl _⟩
        have HT7 : Hid (Touch (fun _ => False) w W7) := by rw [hW7.out]; exact HT6.out.stored (by omega) 19 [.int .u64 0, .int .u64 0, .bool false]
        have HA7 : Hid (OpAt w.heap.size o W7 ∧ OpAt (w.heap.size + 1) (rest3 o) W7) := by rw [hW7.out]; exact ⟨HA6.out.1.stored_other (by omega) 19 [.int .u64 0, .int .u64 0, .bool false], HA6.out.2.stored 19 [.int .u64 0, .int .u64 0, .bool false] (by kernel_rfl)⟩
        rw [← hW7.out]
        clear hW7 HT6 HA6
        go_upto_region 16 with fail
        refine wp_region_lit ?_
        refine wpList_plain rfl fun K hK => ?_
        go_simp
        refine hK _ _ ?_
        clear hK K
        refine wpList_plain rfl fun K hK => ?_
        go_simp
        refine hK _ _ ?_
        clear hK K
        refine wpList_plain rfl fun K hK => ?_
        go_simp
        refine hK _ _ ?_
        clear hK K
        have q := HA7.out.2.q3
        have z : W7.frozen? ⟨w.heap.size + 1, 3, none⟩ = false := free_of_block HA7.out.2
        refine wpList_plain rfl fun K hK => ?_
        go_simp
        refine hK _ _ ?_
        clear hK K q z
        obtain ⟨W8, hW8⟩ : ∃ W8, Hid (W8 = W7.setCell ⟨w.heap.size + 1, 3, none⟩ (.int .u64 0)) := ⟨_, Eq.refl _⟩
        have HT8 : Hid (Touch (fun _ => False) w W8) := by rw [hW8.out]; exact HT7.out.stored (by omega) 3 [.int .u64 0]
        have HA8 : Hid (OpAt w.heap.size o W8 ∧ OpAt (w.heap.size + 1) { rest3 o with st := 0 } W8) := by rw [hW8.out]; exact ⟨HA7.out.1.stored_other (by omega) 3 [.int .u64 0], HA7.out.2.stored 3 [.int .u64 0] (by kernel_rfl)⟩
        rw [← hW8.out]
        clear hW8 HT7 HA7
        refine wpList_plain rfl fun K hK => ?_
        go_simp
        refine hK _ _ ?_
        clear hK K
        have q := HA8.out.2.q13
        have z : W8.frozen? ⟨w.heap.size + 1, 13, none⟩ = false := free_of_block HA8.out.2
        refine wpList_plain rfl fun K hK => ?_
        go_simp
        refine hK _ _ ?_
        clear hK K q z
        obtain ⟨W9, hW9⟩ : ∃ W9, Hid (W9 = W8.setCell ⟨w.heap.size + 1, 13, none⟩ (.string ⟨#[]⟩)) := ⟨_, Eq.refl _⟩
        have HT9 : Hid (Touch (fun _ => False) w W9) := by rw [hW9.out]; exact HT8.out.stored (by omega) 13 [.string ⟨#[]⟩]
        have HA9 : Hid (OpAt w.heap.size o W9 ∧ OpAt (w.heap.size + 1) { rest3 o with st := 0, ky := ⟨#[]⟩ } W9) := by rw [hW9.out]; exact ⟨HA8.out.1.stored_other (by omega) 13 [.string ⟨#[]⟩], HA8.out.2.stored 13 [.string ⟨#[]⟩] (by kernel_rfl)⟩
        rw [← hW9.out]
        clear hW9 HT8 HA8
        refine wpList_plain rfl fun K hK => ?_
        go_simp
        refine hK _ _ ?_
        clear hK K
        refine wpList_store_mid rfl 27 (.tmp 75) (.tmp 71) rfl (w.heap.size + 1) 9 #[.int .i64 0, .int .i64 0, .float .f64 0, .string ⟨#[]⟩] rfl rfl (HA9.out.2.there 9 4 (by decide)) (by kernel_rfl) (by kernel_rfl) ?_
        simp only [Act.put]
        obtain ⟨W10, hW10⟩ : ∃ W10, Hid (W10 = W9.setCells (w.heap.size + 1) 9 [.int .i64 0, .int .i64 0, .float .f64 0, .string ⟨#[]⟩]) := ⟨_, Eq.refl _⟩
        have HT10 : Hid (Touch (fun _ => False) w W10) := by rw [hW10.out]; exact HT9.out.stored (by omega) 9 [.int .i64 0, .int .i64 0, .float .f64 0, .string ⟨#[]⟩]
        have HA10 : Hid (OpAt w.heap.size o W10 ∧ OpAt (w.heap.size + 1) { rest3 o with st := 0, ky := ⟨#[]⟩, vk := 0, vn := 0, vf := 0, vs := ⟨#[]⟩ } W10) := by rw [hW10.out]; exact ⟨HA9.out.1.stored_other (by omega) 9 [.int .i64 0, .int .i64 0, .float .f64 0, .string ⟨#[]⟩], HA9.out.2.stored 9 [.int .i64 0, .int .i64 0, .float .f64 0, .string ⟨#[]⟩] (by kernel_rfl)⟩
        rw [← hW10.out]
        clear hW10 HT9 HA9
        refine wpList_plain rfl fun K hK => ?_
        go_simp
        refine hK _ _ ?_
        clear hK K
        refine wpList_store_mid rfl 24 (.tmp 76) (.tmp 72) rfl (w.heap.size + 1) 14 #[.int .u64 0, .int .u64 0] rfl rfl (HA10.out.2.there 14 2 (by decide)) (by kernel_rfl) (by kernel_rfl) ?_
        simp only [Act.put]
        obtain ⟨W11, hW11⟩ : ∃ W11, Hid (W11 = W10.setCells (w.heap.size + 1) 14 [.int .u64 0, .int .u64 0]) := ⟨_, Eq.refl _⟩
        have HT11 : Hid (Touch (fun _ => False) w W11) := by rw [hW11.out]; exact HT10.out.stored (by omega) 14 [.int .u64 0, .int .u64 0]
        have HA11 : Hid (OpAt w.heap.size o W11 ∧ OpAt (w.heap.size + 1) (rest34 o) W11) := by rw [hW11.out]; exact ⟨HA10.out.1.stored_other (by omega) 14 [.int .u64 0, .int .u64 0], HA10.out.2.stored 14 [.int .u64 0, .int .u64 0] (by kernel_rfl)⟩
        rw [← hW11.out]
        clear hW11 HT10 HA10
        go_wp2_with fail
        go_ret
        exact ⟨by rw [HG.out]; simp, HT11.out⟩
      · go_upto_region 14 with fail
        clear q14 q15
        refine wp_region_lit ?_
        refine wpList_plain rfl fun K hK => ?_
        go_simp
        refine hK _ _ ?_
        clear hK K
        refine wpList_plain rfl fun K hK => ?_
        go_simp
        refine hK _ _ ?_
        clear hK K
        refine wpList_plain rfl fun K hK => ?_
        go_simp
        refine hK _ _ ?_
        clear hK K
        refine wpList_store_mid rfl 29 (.tmp 52) (.tmp 50) rfl (w.heap.size + 1) 16 #[.int .u64 0, .int .u64 0, .bool false] rfl rfl (HA5.out.2.there 16 3 (by decide)) (by kernel_rfl) (by kernel_rfl) ?_
        simp only [Act.put]
        obtain ⟨W6, hW6⟩ : ∃ W6, Hid (W6 = W5.setCells (w.heap.size + 1) 16 [.int .u64 0, .int .u64 0, .bool false]) := ⟨_, Eq.refl _⟩
        have HT6 : Hid (Touch (fun _ => False) w W6) := by rw [hW6.out]; exact HT5.out.stored (by omega) 16 [.int .u64 0, .int .u64 0, .bool false]
        have HA6 : Hid (OpAt w.heap.size o W6 ∧ OpAt (w.heap.size + 1) { rest0 o with fc := 0, fk := 0, fa := false } W6) := by rw [hW6.out]; exact ⟨HA5.out.1.stored_other (by omega) 16 [.int .u64 0, .int .u64 0, .bool false], HA5.out.2.stored 16 [.int .u64 0, .int .u64 0, .bool false] (by kernel_rfl)⟩
        rw [← hW6.out]
        clear hW6 HT5 HA5
        refine wpList_plain rfl fun K hK => ?_
        go_simp
        refine hK _ _ ?_
        clear hK K
        refine wpList_store_mid rfl 29 (.tmp 53) (.tmp 51) rfl (w.heap.size + 1) 19 #[.int .u64 0, .int .u64 0, .bool false] rfl rfl (HA6.out.2.there 19 3 (by decide)) (by kernel_rfl) (by kernel_rfl) ?_
        simp only [Act.put]
        obtain ⟨W7, hW7⟩ : ∃ W7, Hid (W7 = W6.setCells (w.heap.size + 1) 19 [.int .u64 0, .int .u64 0, .bool false]) := ⟨_, Eq.refl _⟩
        have HT7 : Hid (Touch (fun _ => False) w W7) := by rw [hW7.out]; exact HT6.out.stored (by omega) 19 [.int .u64 0, .int .u64 0, .bool false]
        have HA7 : Hid (OpAt w.heap.size o W7 ∧ OpAt (w.heap.size + 1) (rest3 o) W7) := by rw [hW7.out]; exact ⟨HA6.out.1.stored_other (by omega) 19 [.int .u64 0, .int .u64 0, .bool false], HA6.out.2.stored 19 [.int .u64 0, .int .u64 0, .bool false] (by kernel_rfl)⟩
        rw [← hW7.out]
        clear hW7 HT6 HA6
        have q13 := HA7.out.1.q13
        go_wp2_with fail
        clear q13
        refine (HK.out _ HT7.out).mono ?_
        rintro e W8 ⟨rfl, t⟩
        have HT8 : Hid (Touch (fun _ => False) w W8) := HT7.out.trans t
        have HA8 : Hid (OpAt w.heap.size o W8 ∧ OpAt (w.heap.size + 1) (rest3 o) W8) := ⟨HA7.out.1.keep t, HA7.out.2.keep t⟩
        clear t HT7 HA7
        cases t5
        · go_upto_region 16 with fail
          refine wp_region_lit ?_
          refine wpList_plain rfl fun K hK => ?_
          go_simp
          refine hK _ _ ?_
          clear hK K
          refine wpList_plain rfl fun K hK => ?_
          go_simp
          refine hK _ _ ?_
          clear hK K
          refine wpList_plain rfl fun K hK => ?_
          go_simp
          refine hK _ _ ?_
          clear hK K
          have q := HA8.out.2.q3
          have z : W8.frozen? ⟨w.heap.size + 1, 3, none⟩ = false := free_of_block HA8.out.2
          refine wpList_plain rfl fun K hK => ?_
          go_simp
          refine hK _ _ ?_
          clear hK K q z
          obtain ⟨W9, hW9⟩ : ∃ W9, Hid (W9 = W8.setCell ⟨w.heap.size + 1, 3, none⟩ (.int .u64 0)) := ⟨_, Eq.refl _⟩
          have HT9 : Hid (Touch (fun _ => False) w W9) := by rw [hW9.out]; exact HT8.out.stored (by omega) 3 [.int .u64 0]
          have HA9 : Hid (OpAt w.heap.size o W9 ∧ OpAt (w.heap.size + 1) { rest3 o with st := 0 } W9) := by rw [hW9.out]; exact ⟨HA8.out.1.stored_other (by omega) 3 [.int .u64 0], HA8.out.2.stored 3 [.int .u64 0] (by kernel_rfl)⟩
          rw [← hW9.out]
          clear hW9 HT8 HA8
          refine wpList_plain rfl fun K hK => ?_
          go_simp
          refine hK _ _ ?_
          clear hK K
          have q := HA9.out.2.q13
          have z : W9.frozen? ⟨w.heap.size + 1, 13, none⟩ = false := free_of_block HA9.out.2
          refine wpList_plain rfl fun K hK => ?_
          go_simp
          refine hK _ _ ?_
          clear hK K q z
          obtain ⟨W10, hW10⟩ : ∃ W10, Hid (W10 = W9.setCell ⟨w.heap.size + 1, 13, none⟩ (.string ⟨#[]⟩)) := ⟨_, Eq.refl _⟩
          have HT10 : Hid (Touch (fun _ => False) w W10) := by rw [hW10.out]; exact HT9.out.stored (by omega) 13 [.string ⟨#[]⟩]
          have HA10 : Hid (OpAt w.heap.size o W10 ∧ OpAt (w.heap.size + 1) { rest3 o with st := 0, ky := ⟨#[]⟩ } W10) := by rw [hW10.out]; exact ⟨HA9.out.1.stored_other (by omega) 13 [.string ⟨#[]⟩], HA9.out.2.stored 13 [.string ⟨#[]⟩] (by kernel_rfl)⟩
          rw [← hW10.out]
          clear hW10 HT9 HA9
          refine wpList_plain rfl fun K hK => ?_
          go_simp
          refine hK _ _ ?_
          clear hK K
          refine wpList_store_mid rfl 27 (.tmp 75) (.tmp 71) rfl (w.heap.size + 1) 9 #[.int .i64 0, .int .i64 0, .float .f64 0, .string ⟨#[]⟩] rfl rfl (HA10.out.2.there 9 4 (by decide)) (by kernel_rfl) (by kernel_rfl) ?_
          simp only [Act.put]
          obtain ⟨W11, hW11⟩ : ∃ W11, Hid (W11 = W10.setCells (w.heap.size + 1) 9 [.int .i64 0, .int .i64 0, .float .f64 0, .string ⟨#[]⟩]) := ⟨_, Eq.refl _⟩
          have HT11 : Hid (Touch (fun _ => False) w W11) := by rw [hW11.out]; exact HT10.out.stored (by omega) 9 [.int .i64 0, .int .i64 0, .float .f64 0, .string ⟨#[]⟩]
          have HA11 : Hid (OpAt w.heap.size o W11 ∧ OpAt (w.heap.size + 1) { rest3 o with st := 0, ky := ⟨#[]⟩, vk := 0, vn := 0, vf := 0, vs := ⟨#[]⟩ } W11) := by rw [hW11.out]; exact ⟨HA10.out.1.stored_other (by omega) 9 [.int .i64 0, .int .i64 0, .float .f64 0, .string ⟨#[]⟩], HA10.out.2.stored 9 [.int .i64 0, .int .i64 0, .float .f64 0, .string ⟨#[]⟩] (by kernel_rfl)⟩
          rw [← hW11.out]
          clear hW11 HT10 HA10
          refine wpList_plain rfl fun K hK => ?_
          go_simp
          refine hK _ _ ?_
          clear hK K
          refine wpList_store_mid rfl 24 (.tmp 76) (.tmp 72) rfl (w.heap.size + 1) 14 #[.int .u64 0, .int .u64 0] rfl rfl (HA11.out.2.there 14 2 (by decide)) (by kernel_rfl) (by kernel_rfl) ?_
          simp only [Act.put]
          obtain ⟨W12, hW12⟩ : ∃ W12, Hid (W12 = W11.setCells (w.heap.size + 1) 14 [.int .u64 0, .int .u64 0]) := ⟨_, Eq.refl _⟩
          have HT12 : Hid (Touch (fun _ => False) w W12) := by rw [hW12.out]; exact HT11.out.stored (by omega) 14 [.int .u64 0, .int .u64 0]
          have HA12 : Hid (OpAt w.heap.size o W12 ∧ OpAt (w.heap.size + 1) (rest34 o) W12) := by rw [hW12.out]; exact ⟨HA11.out.1.stored_other (by omega) 14 [.int .u64 0, .int .u64 0], HA11.out.2.stored 14 [.int .u64 0, .int .u64 0] (by kernel_rfl)⟩
          rw [← hW12.out]
          clear hW12 HT11 HA11
          go_wp2_with fail
          go_ret
          exact ⟨by rw [HG.out]; simp, HT12.out⟩
        · have q9 := HA8.out.1.q9
          have q10 := HA8.out.1.q10
          have q11 := HA8.out.1.q11
          have q12 := HA8.out.1.q12
          go_wp2_with fail
          clear q9 q10 q11 q12
          refine (HC.out _ HT8.out).mono ?_
          rintro e W9 ⟨rfl, t⟩
          have HT9 : Hid (Touch (fun _ => False) w W9) := HT8.out.trans t
          have HA9 : Hid (OpAt w.heap.size o W9 ∧ OpAt (w.heap.size + 1) (rest3 o) W9) := ⟨HA8.out.1.keep t, HA8.out.2.keep t⟩
          clear t HT8 HA8
          cases t6
          · go_upto_region 16 with fail
            refine wp_region_lit ?_
            refine wpList_plain rfl fun K hK => ?_
            go_simp
            refine hK _ _ ?_
            clear hK K
            refine wpList_plain rfl fun K hK => ?_
            go_simp
            refine hK _ _ ?_
            clear hK K
            refine wpList_plain rfl fun K hK => ?_
            go_simp
            refine hK _ _ ?_
            clear hK K
            have q := HA9.out.2.q3
            have z : W9.frozen? ⟨w.heap.size + 1, 3, none⟩ = false := free_of_block HA9.out.2
            refine wpList_plain rfl fun K hK => ?_
            go_simp
            refine hK _ _ ?_
            clear hK K q z
            obtain ⟨W10, hW10⟩ : ∃ W10, Hid (W10 = W9.setCell ⟨w.heap.size + 1, 3, none⟩ (.int .u64 0)) := ⟨_, Eq.refl _⟩
            have HT10 : Hid (Touch (fun _ => False) w W10) := by rw [hW10.out]; exact HT9.out.stored (by omega) 3 [.int .u64 0]
            have HA10 : Hid (OpAt w.heap.size o W10 ∧ OpAt (w.heap.size + 1) { rest3 o with st := 0 } W10) := by rw [hW10.out]; exact ⟨HA9.out.1.stored_other (by omega) 3 [.int .u64 0], HA9.out.2.stored 3 [.int .u64 0] (by kernel_rfl)⟩
            rw [← hW10.out]
            clear hW10 HT9 HA9
            refine wpList_plain rfl fun K hK => ?_
            go_simp
            refine hK _ _ ?_
            clear hK K
            have q := HA10.out.2.q13
            have z : W10.frozen? ⟨w.heap.size + 1, 13, none⟩ = false := free_of_block HA10.out.2
            refine wpList_plain rfl fun K hK => ?_
            go_simp
            refine hK _ _ ?_
            clear hK K q z
            obtain ⟨W11, hW11⟩ : ∃ W11, Hid (W11 = W10.setCell ⟨w.heap.size + 1, 13, none⟩ (.string ⟨#[]⟩)) := ⟨_, Eq.refl _⟩
            have HT11 : Hid (Touch (fun _ => False) w W11) := by rw [hW11.out]; exact HT10.out.stored (by omega) 13 [.string ⟨#[]⟩]
            have HA11 : Hid (OpAt w.heap.size o W11 ∧ OpAt (w.heap.size + 1) { rest3 o with st := 0, ky := ⟨#[]⟩ } W11) := by rw [hW11.out]; exact ⟨HA10.out.1.stored_other (by omega) 13 [.string ⟨#[]⟩], HA10.out.2.stored 13 [.string ⟨#[]⟩] (by kernel_rfl)⟩
            rw [← hW11.out]
            clear hW11 HT10 HA10
            refine wpList_plain rfl fun K hK => ?_
            go_simp
            refine hK _ _ ?_
            clear hK K
            refine wpList_store_mid rfl 27 (.tmp 75) (.tmp 71) rfl (w.heap.size + 1) 9 #[.int .i64 0, .int .i64 0, .float .f64 0, .string ⟨#[]⟩] rfl rfl (HA11.out.2.there 9 4 (by decide)) (by kernel_rfl) (by kernel_rfl) ?_
            simp only [Act.put]
            obtain ⟨W12, hW12⟩ : ∃ W12, Hid (W12 = W11.setCells (w.heap.size + 1) 9 [.int .i64 0, .int .i64 0, .float .f64 0, .string ⟨#[]⟩]) := ⟨_, Eq.refl _⟩
            have HT12 : Hid (Touch (fun _ => False) w W12) := by rw [hW12.out]; exact HT11.out.stored (by omega) 9 [.int .i64 0, .int .i64 0, .float .f64 0, .string ⟨#[]⟩]
            have HA12 : Hid (OpAt w.heap.size o W12 ∧ OpAt (w.heap.size + 1) { rest3 o with st := 0, ky := ⟨#[]⟩, vk := 0, vn := 0, vf := 0, vs := ⟨#[]⟩ } W12) := by rw [hW12.out]; exact ⟨HA11.out.1.stored_other (by omega) 9 [.int .i64 0, .int .i64 0, .float .f64 0, .string ⟨#[]⟩], HA11.out.2.stored 9 [.int .i64 0, .int .i64 0, .float .f64 0, .string ⟨#[]⟩] (by kernel_rfl)⟩
            rw [← hW12.out]
            clear hW12 HT11 HA11
            refine wpList_plain rfl fun K hK => ?_
            go_simp
            refine hK _ _ ?_
            clear hK K
            refine wpList_store_mid rfl 24 (.tmp 76) (.tmp 72) rfl (w.heap.size + 1) 14 #[.int .u64 0, .int .u64 0] rfl rfl (HA12.out.2.there 14 2 (by decide)) (by kernel_rfl) (by kernel_rfl) ?_
            simp only [Act.put]
            obtain ⟨W13, hW13⟩ : ∃ W13, Hid (W13 = W12.setCells (w.heap.size + 1) 14 [.int .u64 0, .int .u64 0]) := ⟨_, Eq.refl _⟩
            have HT13 : Hid (Touch (fun _ => False) w W13) := by rw [hW13.out]; exact HT12.out.stored (by omega) 14 [.int .u64 0, .int .u64 0]
            have HA13 : Hid (OpAt w.heap.size o W13 ∧ OpAt (w.heap.size + 1) (rest34 o) W13) := by rw [hW13.out]; exact ⟨HA12.out.1.stored_other (by omega) 14 [.int .u64 0, .int .u64 0], HA12.out.2.stored 14 [.int .u64 0, .int .u64 0] (by kernel_rfl)⟩
            rw [← hW13.out]
            clear hW13 HT12 HA12
            go_wp2_with fail
            go_ret
            exact ⟨by rw [HG.out]; simp, HT13.out⟩
          · have q3 := HA9.out.1.q3
            go_wp2_with fail
            clear q3
            refine (HM.out _ HT9.out).mono ?_
            rintro e W10 ⟨rfl, t⟩
            have HT10 : Hid (Touch (fun _ => False) w W10) := HT9.out.trans t
            have HA10 : Hid (OpAt w.heap.size o W10 ∧ OpAt (w.heap.size + 1) (rest3 o) W10) := ⟨HA9.out.1.keep t, HA9.out.2.keep t⟩
            clear t HT9 HA9
            go_upto_region 16 with fail
            refine wp_region_lit ?_
            refine wpList_plain rfl fun K hK => ?_
            go_simp
            refine hK _ _ ?_
            clear hK K
            refine wpList_plain rfl fun K hK => ?_
            go_simp
            refine hK _ _ ?_
            clear hK K
            refine wpList_plain rfl fun K hK => ?_
            go_simp
            refine hK _ _ ?_
            clear hK K
            have q := HA10.out.2.q3
            have z : W10.frozen? ⟨w.heap.size + 1, 3, none⟩ = false := free_of_block HA10.out.2
            refine wpList_plain rfl fun K hK => ?_
            go_simp
            refine hK _ _ ?_
            clear hK K q z
            obtain ⟨W11, hW11⟩ : ∃ W11, Hid (W11 = W10.setCell ⟨w.heap.size + 1, 3, none⟩ (.int .u64 0)) := ⟨_, Eq.refl _⟩
            have HT11 : Hid (Touch (fun _ => False) w W11) := by rw [hW11.out]; exact HT10.out.stored (by omega) 3 [.int .u64 0]
            have HA11 : Hid (OpAt w.heap.size o W11 ∧ OpAt (w.heap.size + 1) { rest3 o with st := 0 } W11) := by rw [hW11.out]; exact ⟨HA10.out.1.stored_other (by omega) 3 [.int .u64 0], HA10.out.2.stored 3 [.int .u64 0] (by kernel_rfl)⟩
            rw [← hW11.out]
            clear hW11 HT10 HA10
            refine wpList_plain rfl fun K hK => ?_
            go_simp
            refine hK _ _ ?_
            clear hK K
            have q := HA11.out.2.q13
            have z : W11.frozen? ⟨w.heap.size + 1, 13, none⟩ = false := free_of_block HA11.out.2
            refine wpList_plain rfl fun K hK => ?_
            go_simp
            refine hK _ _ ?_
            clear hK K q z
            obtain ⟨W12, hW12⟩ : ∃ W12, Hid (W12 = W11.setCell ⟨w.heap.size + 1, 13, none⟩ (.string ⟨#[]⟩)) := ⟨_, Eq.refl _⟩
            have HT12 : Hid (Touch (fun _ => False) w W12) := by rw [hW12.out]; exact HT11.out.stored (by omega) 13 [.string ⟨#[]⟩]
            have HA12 : Hid (OpAt w.heap.size o W12 ∧ OpAt (w.heap.size + 1) { rest3 o with st := 0, ky := ⟨#[]⟩ } W12) := by rw [hW12.out]; exact ⟨HA11.out.1.stored_other (by omega) 13 [.string ⟨#[]⟩], HA11.out.2.stored 13 [.string ⟨#[]⟩] (by kernel_rfl)⟩
            rw [← hW12.out]
            clear hW12 HT11 HA11
            refine wpList_plain rfl fun K hK => ?_
            go_simp
            refine hK _ _ ?_
            clear hK K
            refine wpList_store_mid rfl 27 (.tmp 75) (.tmp 71) rfl (w.heap.size + 1) 9 #[.int .i64 0, .int .i64 0, .float .f64 0, .string ⟨#[]⟩] rfl rfl (HA12.out.2.there 9 4 (by decide)) (by kernel_rfl) (by kernel_rfl) ?_
            simp only [Act.put]
            obtain ⟨W13, hW13⟩ : ∃ W13, Hid (W13 = W12.setCells (w.heap.size + 1) 9 [.int .i64 0, .int .i64 0, .float .f64 0, .string ⟨#[]⟩]) := ⟨_, Eq.refl _⟩
            have HT13 : Hid (Touch (fun _ => False) w W13) := by rw [hW13.out]; exact HT12.out.stored (by omega) 9 [.int .i64 0, .int .i64 0, .float .f64 0, .string ⟨#[]⟩]
            have HA13 : Hid (OpAt w.heap.size o W13 ∧ OpAt (w.heap.size + 1) { rest3 o with st := 0, ky := ⟨#[]⟩, vk := 0, vn := 0, vf := 0, vs := ⟨#[]⟩ } W13) := by rw [hW13.out]; exact ⟨HA12.out.1.stored_other (by omega) 9 [.int .i64 0, .int .i64 0, .float .f64 0, .string ⟨#[]⟩], HA12.out.2.stored 9 [.int .i64 0, .int .i64 0, .float .f64 0, .string ⟨#[]⟩] (by kernel_rfl)⟩
            rw [← hW13.out]
            clear hW13 HT12 HA12
            refine wpList_plain rfl fun K hK => ?_
            go_simp
            refine hK _ _ ?_
            clear hK K
            refine wpList_store_mid rfl 24 (.tmp 76) (.tmp 72) rfl (w.heap.size + 1) 14 #[.int .u64 0, .int .u64 0] rfl rfl (HA13.out.2.there 14 2 (by decide)) (by kernel_rfl) (by kernel_rfl) ?_
            simp only [Act.put]
            obtain ⟨W14, hW14⟩ : ∃ W14, Hid (W14 = W13.setCells (w.heap.size + 1) 14 [.int .u64 0, .int .u64 0]) := ⟨_, Eq.refl _⟩
            have HT14 : Hid (Touch (fun _ => False) w W14) := by rw [hW14.out]; exact HT13.out.stored (by omega) 14 [.int .u64 0, .int .u64 0]
            have HA14 : Hid (OpAt w.heap.size o W14 ∧ OpAt (w.heap.size + 1) (rest34 o) W14) := by rw [hW14.out]; exact ⟨HA13.out.1.stored_other (by omega) 14 [.int .u64 0, .int .u64 0], HA13.out.2.stored 14 [.int .u64 0, .int .u64 0] (by kernel_rfl)⟩
            rw [← hW14.out]
            clear hW14 HT13 HA13
            cases t7
            · go_wp2_with fail
              go_ret
              exact ⟨by rw [HG.out]; simp, HT14.out⟩
            · go_upto_region 18 with fail
              refine wp_region_lit ?_
              refine wpList_plain rfl fun K hK => ?_
              go_simp
              refine hK _ _ ?_
              clear hK K
              refine wpList_plain rfl fun K hK => ?_
              go_simp
              refine hK _ _ ?_
              clear hK K
              refine wpList_step fun K hK => ?_
              rw [if_pos (by kernel_rfl)]
              refine wp_load_mid 31 (.tmp 4) rfl (w.heap.size + 1) 0 rfl ((rest34 o)).vals.toList _ (rangeAt_of HA14.out.2) Tryz.underlying31 rfl (by kernel_rfl) (hK _ _ ?_)
              clear hK K
              simp only [Act.put, List.setIfInBounds_toArray, List.set_cons_succ, List.set_cons_zero]
              refine wpList_step fun K hK => ?_
              rw [if_pos (by kernel_rfl)]
              go_simp
              refine hK _ _ ?_
              clear hK K
              go_wp2_with fail
              refine (HS.out _ HT14.out).mono ?_
              rintro e W15 ⟨rfl, t⟩
              have HT15 : Hid (Touch (fun _ => False) w W15) := HT14.out.trans t
              have HA15 : Hid (OpAt w.heap.size o W15 ∧ OpAt (w.heap.size + 1) (rest34 o) W15) := ⟨HA14.out.1.keep t, HA14.out.2.keep t⟩
              clear t HT14 HA14
              go_wp2_with fail
              go_ret
              exact ⟨by rw [HG.out]; simp, HT15.out⟩
set_option maxHeartbeats 8000000 in
theorem formX (o : O) (h1 : ¬ o.kind = 1) (h2 : ¬ o.kind = 2) (h3 : ¬ o.kind = 3) (h4 : ¬ o.kind = 4) (h : o.tx.size ≤ 4611686018427387904 ∧ o.ky.size ≤ 4611686018427387904 ∧ o.vs.size ≤ 4611686018427387904 ∧ o.vf < 18446744073709551616) (w : World) (hU : TabsU w) : Calls Tryz.prog 35 #[o.val] w fun e w' => e = .returned (.bool (formB o)) ∧ Touch (fun _ => False) w w' := by
  have HG : Hid (formB o = false) := by unfold formB Hid; rw [if_neg h1, if_neg h2, if_neg h3, if_neg h4]
  have f1 : (o.kind == 1) = false := by simpa using h1
  have f2 : (o.kind == 2) = false := by simpa using h2
  have f3 : (o.kind == 3) = false := by simpa using h3
  have f4 : (o.kind == 4) = false := by simpa using h4
  have HF : Hid ((o.kind == 1) = false ∧ (o.kind == 2) = false ∧ (o.kind == 3) = false ∧ (o.kind == 4) = false) := ⟨f1, f2, f3, f4⟩
  clear f1 f2 f3 f4 h1 h2 h3 h4 h hU
  go_enter Tryz.func35, Tryz.ntmps35
  go_upto_region 2 with fail
  have hA0 : OpAt w.heap.size o (w.alloc (opO o)) := heap_alloc_new _ _
  have HTa : Hid (Touch (fun _ => False) w (w.alloc (opO o))) := (Touch.refl _ _).alloc _
  refine wp_region_lit ?_
  refine wpList_load_mid rfl 31 (.tmp 1) rfl w.heap.size 0 rfl o.vals.toList _ (rangeAt_of hA0) Tryz.underlying31 rfl (by kernel_rfl) ?_
  simp only [Act.put, List.setIfInBounds_toArray]
  clear hA0 HTa
  refine wpList_plain rfl fun K hK => ?_
  go_simp
  refine hK _ _ ?_
  clear hK K
  obtain ⟨W1, hW1⟩ : ∃ W1, Hid (W1 = (w.alloc (opO o)).alloc (.cells #[.int .u64 0, .int .u64 0, .int .i64 0, .int .u64 0, .int .u64 0, .int .u64 0, .int .u64 0, .int .u64 0, .string ⟨#[]⟩, .int .i64 0, .int .i64 0, .float .f64 0, .string ⟨#[]⟩, .string ⟨#[]⟩, .int .u64 0, .int .u64 0, .int .u64 0, .int .u64 0, .bool false, .int .u64 0, .int .u64 0, .bool false] 31)) := ⟨_, Eq.refl _⟩
  have HT1 : Hid (Touch (fun _ => False) w W1) := by rw [hW1.out]; exact ((Touch.refl _ _).alloc _).alloc _
  have HA1 : Hid (OpAt w.heap.size o W1 ∧ OpAt (w.heap.size + 1) zeroO W1) := by rw [hW1.out]; exact heap_two w _ _
  rw [← hW1.out]
  clear hW1
  refine wpList_store_mid rfl 31 (.tmp 4) (.tmp 5) rfl (w.heap.size + 1) 0 o.vals rfl rfl (HA1.out.2.there 0 22 (by decide)) (by kernel_rfl) (by kernel_rfl) ?_
  simp only [Act.put]
  obtain ⟨W2, hW2⟩ : ∃ W2, Hid (W2 = W1.setCells (w.heap.size + 1) 0 o.vals.toList) := ⟨_, Eq.refl _⟩
  have HT2 : Hid (Touch (fun _ => False) w W2) := by rw [hW2.out]; exact HT1.out.stored (by omega) 0 o.vals.toList
  have HA2 : Hid (OpAt w.heap.size o W2 ∧ OpAt (w.heap.size + 1) o W2) := by rw [hW2.out]; exact ⟨HA1.out.1.stored_other (by omega) 0 o.vals.toList, HA1.out.2.stored 0 o.vals.toList (by kernel_rfl)⟩
  rw [← hW2.out]
  clear hW2 HT1 HA1
  go_upto_region 3 with fail
  refine wp_region_lit ?_
  refine wpList_plain rfl fun K hK => ?_
  go_simp
  refine hK _ _ ?_
  clear hK K
  refine wpList_plain rfl fun K hK => ?_
  go_simp
  refine hK _ _ ?_
  clear hK K
  refine wpList_store_mid rfl 24 (.tmp 7) (.tmp 6) rfl (w.heap.size + 1) 0 #[.int .u64 0, .int .u64 0] rfl rfl (HA2.out.2.there 0 2 (by decide)) (by kernel_rfl) (by kernel_rfl) ?_
  simp only [Act.put]
  obtain ⟨W3, hW3⟩ : ∃ W3, Hid (W3 = W2.setCells (w.heap.size + 1) 0 [.int .u64 0, .int .u64 0]) := ⟨_, Eq.refl _⟩
  have HT3 : Hid (Touch (fun _ => False) w W3) := by rw [hW3.out]; exact HT2.out.stored (by omega) 0 [.int .u64 0, .int .u64 0]
  have HA3 : Hid (OpAt w.heap.size o W3 ∧ OpAt (w.heap.size + 1) { o with c := 0, k := 0 } W3) := by rw [hW3.out]; exact ⟨HA2.out.1.stored_other (by omega) 0 [.int .u64 0, .int .u64 0], HA2.out.2.stored 0 [.int .u64 0, .int .u64 0] (by kernel_rfl)⟩
  rw [← hW3.out]
  clear hW3 HT2 HA2
  refine wpList_plain rfl fun K hK => ?_
  go_simp
  refine hK _ _ ?_
  clear hK K
  have q := HA3.out.2.q2
  have z : W3.frozen? ⟨w.heap.size + 1, 2, none⟩ = false := free_of_block HA3.out.2
  refine wpList_plain rfl fun K hK => ?_
  go_simp
  refine hK _ _ ?_
  clear hK K q z
  obtain ⟨W4, hW4⟩ : ∃ W4, Hid (W4 = W3.setCell ⟨w.heap.size + 1, 2, none⟩ (.int .i64 0)) := ⟨_, Eq.refl _⟩
  have HT4 : Hid (Touch (fun _ => False) w W4) := by rw [hW4.out]; exact HT3.out.stored (by omega) 2 [.int .i64 0]
  have HA4 : Hid (OpAt w.heap.size o W4 ∧ OpAt (w.heap.size + 1) (rest0 o) W4) := by rw [hW4.out]; exact ⟨HA3.out.1.stored_other (by omega) 2 [.int .i64 0], HA3.out.2.stored 2 [.int .i64 0] (by kernel_rfl)⟩
  rw [← hW4.out]
  clear hW4 HT3 HA3
  have q2 := HA4.out.1.q2
  obtain ⟨f1, f2, f3, f4⟩ := HF.out
  generalize o.kind = kk at *
  go_wp2_with fail
  go_ret
  exact ⟨by rw [HG.out]; simp, HT4.out⟩
theorem form_any (o : O) (h : o.tx.size ≤ 4611686018427387904 ∧ o.ky.size ≤ 4611686018427387904 ∧ o.vs.size ≤ 4611686018427387904 ∧ o.vf < 18446744073709551616) (w : World) (hU : TabsU w) : Calls Tryz.prog 35 #[o.val] w fun e w' => e = .returned (.bool (formB o)) ∧ Touch (fun _ => False) w w' := by
  by_cases h1 : o.kind = 1
  · exact form1 o h1 h w hU
  by_cases h2 : o.kind = 2
  · exact form2 o h2 h w hU
  by_cases h3 : o.kind = 3
  · exact form3 o h3 h w hU
  by_cases h4 : o.kind = 4
  · exact form4 o h4 h w hU
  exact formX o h1 h2 h3 h4 h w hU
end Go.Proofs.YtphcnjbiojdalaaGreatDoor
