/- Same; the document's Same. -/
import Derived.Test.YtmknkecaeagmbaaGreatDoorPart5
import Derived.Test.YtmknkecaeagmbaaGreatDoorPart7
import Derived.Deep.RegionHeld3
import Derived.Deep.MidRow
import Derived.Great.Ranges
namespace Go.Proofs.YtmknkecaeagmbaaGreatDoor
open Go.RowKit
set_option linter.unusedVariables false
set_option linter.unusedSimpArgs false
set_option maxRecDepth 100000

/-- All fields are alike. -/
def sameO (a b : O) : Bool := (((a.c == b.c) && (a.k == b.k)) && ((a.kind == b.kind) && ((a.st == b.st) && (((a.lc == b.lc) && (a.lk == b.lk)) && (((a.rc == b.rc) && (a.rk == b.rk)) && ((decide (a.tx.toList = b.tx.toList)) && ((refCmp a.v b.v == 0) && ((decide (a.ky.toList = b.ky.toList)) && (((a.pc == b.pc) && (a.pk == b.pk)) && (((a.fc == b.fc) && ((a.fk == b.fk) && (a.fa == b.fa))) && ((a.tc == b.tc) && ((a.tk == b.tk) && (a.ta == b.ta)))))))))))))
set_option maxHeartbeats 8000000 in
theorem ref_same (a b : O) (hfa : a.vf < 18446744073709551616) (hfb : b.vf < 18446744073709551616) (w : World) : Calls Tryz.prog 16 #[a.val, b.val] w fun e w' => e = .returned (.bool (sameO a b)) ∧ Touch (fun _ => False) w w' := by
  have HC : Hid (∀ w, Calls Tryz.prog 48 #[a.v.val, b.v.val] w fun e w' => e = .returned (.int .i64 (refCmp a.v b.v)) ∧ Touch (fun _ => False) w w') := fun w => ref_cmp a.v b.v hfa hfb w
  obtain ⟨t1, e1⟩ : ∃ t1, (a.c == b.c) = t1 := ⟨_, rfl⟩
  obtain ⟨t2, e2⟩ : ∃ t2, (a.k == b.k) = t2 := ⟨_, rfl⟩
  obtain ⟨t3, e3⟩ : ∃ t3, (a.kind == b.kind) = t3 := ⟨_, rfl⟩
  obtain ⟨t4, e4⟩ : ∃ t4, (a.st == b.st) = t4 := ⟨_, rfl⟩
  obtain ⟨t5, e5⟩ : ∃ t5, (a.lc == b.lc) = t5 := ⟨_, rfl⟩
  obtain ⟨t6, e6⟩ : ∃ t6, (a.lk == b.lk) = t6 := ⟨_, rfl⟩
  obtain ⟨t7, e7⟩ : ∃ t7, (a.rc == b.rc) = t7 := ⟨_, rfl⟩
  obtain ⟨t8, e8⟩ : ∃ t8, (a.rk == b.rk) = t8 := ⟨_, rfl⟩
  obtain ⟨t9, e9⟩ : ∃ t9, (decide (a.tx.toList = b.tx.toList)) = t9 := ⟨_, rfl⟩
  obtain ⟨t10, e10⟩ : ∃ t10, (refCmp a.v b.v == 0) = t10 := ⟨_, rfl⟩
  obtain ⟨t11, e11⟩ : ∃ t11, (decide (a.ky.toList = b.ky.toList)) = t11 := ⟨_, rfl⟩
  obtain ⟨t12, e12⟩ : ∃ t12, (a.pc == b.pc) = t12 := ⟨_, rfl⟩
  obtain ⟨t13, e13⟩ : ∃ t13, (a.pk == b.pk) = t13 := ⟨_, rfl⟩
  obtain ⟨t14, e14⟩ : ∃ t14, (a.fc == b.fc) = t14 := ⟨_, rfl⟩
  obtain ⟨t15, e15⟩ : ∃ t15, (a.fk == b.fk) = t15 := ⟨_, rfl⟩
  obtain ⟨t16, e16⟩ : ∃ t16, (a.fa == b.fa) = t16 := ⟨_, rfl⟩
  obtain ⟨t17, e17⟩ : ∃ t17, (a.tc == b.tc) = t17 := ⟨_, rfl⟩
  obtain ⟨t18, e18⟩ : ∃ t18, (a.tk == b.tk) = t18 := ⟨_, rfl⟩
  obtain ⟨t19, e19⟩ : ∃ t19, (a.ta == b.ta) = t19 := ⟨_, rfl⟩
  have HG : Hid (sameO a b = ((t1 && t2) && (t3 && (t4 && ((t5 && t6) && ((t7 && t8) && (t9 && (t10 && (t11 && ((t12 && t13) && ((t14 && (t15 && t16)) && (t17 && (t18 && t19))))))))))))) := by unfold sameO Hid; rw [e1, e2, e3, e4, e5, e6, e7, e8, e9, e10, e11, e12, e13, e14, e15, e16, e17, e18, e19]
  generalize refCmp a.v b.v = C at *
  clear hfa hfb
  go_enter Tryz.func16, Tryz.ntmps16
  go_upto_region 0 with fail
  refine wp_region_lit ?_
  refine Go.Great.wpList_boxTo rfl 31 (.tmp 0) rfl (some 2) rfl w.heap.size rfl a.vals rfl ?_
  refine Go.Great.wpList_boxTo rfl 31 (.tmp 1) rfl (some 3) rfl (w.heap.size + 1) (by simp) b.vals rfl ?_
  simp only [Act.put, List.setIfInBounds_toArray]
  obtain ⟨W0, hW0⟩ : ∃ W0, Hid (W0 = (w.alloc (opO a)).alloc (opO b)) := ⟨_, Eq.refl _⟩
  have HT0 : Hid (Touch (fun _ => False) w W0) := by rw [hW0.out]; exact ((Touch.refl _ _).alloc _).alloc _
  have HA : Hid (OpAt w.heap.size a W0 ∧ OpAt (w.heap.size + 1) b W0) := by rw [hW0.out]; exact heap_two w _ _
  rw [← hW0.out]
  clear hW0
  have q0 := HA.out.1.q0
  have qb0 := HA.out.2.q0
  have q1 := HA.out.1.q1
  have qb1 := HA.out.2.q1
  have q2 := HA.out.1.q2
  have qb2 := HA.out.2.q2
  have q3 := HA.out.1.q3
  have qb3 := HA.out.2.q3
  have q4 := HA.out.1.q4
  have qb4 := HA.out.2.q4
  have q5 := HA.out.1.q5
  have qb5 := HA.out.2.q5
  have q6 := HA.out.1.q6
  have qb6 := HA.out.2.q6
  have q7 := HA.out.1.q7
  have qb7 := HA.out.2.q7
  have q8 := HA.out.1.q8
  have qb8 := HA.out.2.q8
  have q9 := HA.out.1.q9
  have qb9 := HA.out.2.q9
  have q10 := HA.out.1.q10
  have qb10 := HA.out.2.q10
  have q11 := HA.out.1.q11
  have qb11 := HA.out.2.q11
  have q12 := HA.out.1.q12
  have qb12 := HA.out.2.q12
  go_wp2_with fail
  all_goals first | (go_ret; exact ⟨by rw [HG.out]; first | (simp [*]; done) | (rw [← e9]; simp [*]; done), HT0.out⟩) | skip
  clear q0 qb0 q1 qb1 q2 qb2 q3 qb3 q4 qb4 q5 qb5 q6 qb6 q7 qb7 q8 qb8 q9 qb9 q10 qb10 q11 qb11 q12 qb12
  refine (HC.out _).mono ?_
  rintro e w1 ⟨rfl, t⟩
  have HT1 : Hid (Touch (fun _ => False) w w1) := HT0.out.trans t
  have HA1 : Hid (OpAt w.heap.size a w1 ∧ OpAt (w.heap.size + 1) b w1) := ⟨HA.out.1.keep t, HA.out.2.keep t⟩
  clear t HA HT0
  have q13 := HA1.out.1.q13
  have qb13 := HA1.out.2.q13
  have q14 := HA1.out.1.q14
  have qb14 := HA1.out.2.q14
  have q15 := HA1.out.1.q15
  have qb15 := HA1.out.2.q15
  have q16 := HA1.out.1.q16
  have qb16 := HA1.out.2.q16
  have q17 := HA1.out.1.q17
  have qb17 := HA1.out.2.q17
  have q18 := HA1.out.1.q18
  have qb18 := HA1.out.2.q18
  have q19 := HA1.out.1.q19
  have qb19 := HA1.out.2.q19
  have q20 := HA1.out.1.q20
  have qb20 := HA1.out.2.q20
  have q21 := HA1.out.1.q21
  have qb21 := HA1.out.2.q21
  go_wp2_with fail
  all_goals (go_ret; exact ⟨by rw [HG.out]; first | (simp [*]; done) | (rw [← e9, ← e11]; simp [*]; done), HT1.out⟩)
end Go.Proofs.YtmknkecaeagmbaaGreatDoor

/- Same. -/
namespace Go.Proofs.YtmknkecaeagmbaaGreatDoor
open Go.RowKit
set_option linter.unusedVariables false
set_option linter.unusedSimpArgs false
set_option maxRecDepth 100000

/-- Without its value. -/
def O.noV (o : O) : O := { o with vk := 0, vn := 0, vf := 0, vs := ⟨#[]⟩ }
/-- All fields but the values are alike. -/
def likeO (a b : O) : Bool := ((a.c == b.c) && ((a.k == b.k) && ((a.kind == b.kind) && ((a.st == b.st) && ((a.lc == b.lc) && ((a.lk == b.lk) && ((a.rc == b.rc) && ((a.rk == b.rk) && ((a.tx.toList == b.tx.toList) && ((a.ky.toList == b.ky.toList) && ((a.pc == b.pc) && ((a.pk == b.pk) && ((a.fc == b.fc) && ((a.fk == b.fk) && ((a.fa == b.fa) && ((a.tc == b.tc) && ((a.tk == b.tk) && (a.ta == b.ta))))))))))))))))))
set_option maxHeartbeats 8000000 in
theorem eql_op (a b : O) (w : World) : (binOp .eql 31 a.noV.val b.noV.val).run Tryz.prog w = .ok (.bool (likeO a b)) w := by
  have hu : Tryz.prog.underlying 25 = some (.float .f64) := by kernel_rfl
  have hF0 : ∀ (d : Nat) w, (Op.equalIn (d + 1) 25 (Value.float .f64 0) (Value.float .f64 0)).run Tryz.prog w = .ok true w := by
    intro d w
    simp [Op.equalIn, run_underlying hu]
    try kernel_rfl
  have hF : ∀ w, (Op.equalIn 9998 25 (Value.float .f64 0) (Value.float .f64 0)).run Tryz.prog w = .ok true w := fun w => hF0 9997 w
  clear hF0
  unfold likeO
  simp only [O.noV]
  go_simp
  rcases Classical.em (a.c = b.c) with h1 | h1
  rotate_left
  · simp [h1]
  rcases Classical.em (a.k = b.k) with h2 | h2
  rotate_left
  · simp [h2]
  rcases Classical.em (a.kind = b.kind) with h3 | h3
  rotate_left
  · simp [h3]
  rcases Classical.em (a.st = b.st) with h4 | h4
  rotate_left
  · simp [h4]
  rcases Classical.em (a.lc = b.lc) with h5 | h5
  rotate_left
  · simp [h5]
  rcases Classical.em (a.lk = b.lk) with h6 | h6
  rotate_left
  · simp [h6]
  rcases Classical.em (a.rc = b.rc) with h7 | h7
  rotate_left
  · simp [h7]
  rcases Classical.em (a.rk = b.rk) with h8 | h8
  rotate_left
  · simp [h8]
  rcases Classical.em (a.tx.toList = b.tx.toList) with h9 | h9
  rotate_left
  · simp [h9]
  rcases Classical.em (a.ky.toList = b.ky.toList) with h10 | h10
  rotate_left
  · simp [h10]
  rcases Classical.em (a.pc = b.pc) with h11 | h11
  rotate_left
  · simp [h11]
  rcases Classical.em (a.pk = b.pk) with h12 | h12
  rotate_left
  · simp [h12]
  rcases Classical.em (a.fc = b.fc) with h13 | h13
  rotate_left
  · simp [h13]
  rcases Classical.em (a.fk = b.fk) with h14 | h14
  rotate_left
  · simp [h14]
  rcases Classical.em (a.fa = b.fa) with h15 | h15
  rotate_left
  · simp [h15]
  rcases Classical.em (a.tc = b.tc) with h16 | h16
  rotate_left
  · simp [h16]
  rcases Classical.em (a.tk = b.tk) with h17 | h17
  rotate_left
  · simp [h17]
  rcases Classical.em (a.ta = b.ta) with h18 | h18
  rotate_left
  · simp [h18]
  simp [h1, h2, h3, h4, h5, h6, h7, h8, h9, h10, h11, h12, h13, h14, h15, h16, h17, h18]

theorem wp_eql_agg {P : Program} {op : Oper} {a : Act} {w : World} {K : Act → World → Prop} {Q : Exit → Act → World → Prop} (ty rt : TypeId) (x y : Operand) (ho : op.op = .binOp .eql ty x y rt)
    (xs ys : Array Value) (hx : a.eval x = .agg xs) (hy : a.eval y = .agg ys) (hm : P.eqGuardType P.depth ty = false) (r : Bool) (hr : (binOp .eql ty (.agg xs) (.agg ys)).run P w = .ok (.bool r) w)
    (h : K (a.put op.dst (.bool r)) w) : op.wp P a w K Q := by
  unfold Oper.wp execOp
  simp only [ho, hx, hy, Sem.run_bind, Sem.run_pure, Result.andThen_ok, run_eqGuard_agg, hm, hr]
  exact h
/-- The world in which a box's value has been cleared. -/
def clearV (W : World) (B : Nat) : World := W.setCells B 9 [.int .i64 0, .int .i64 0, .float .f64 0, .string ⟨#[]⟩]
theorem OpAt.there {W : World} {B : Nat} {o : O} (h : OpAt B o W) (k n : Nat) (hk : k + n ≤ 22) : W.there B k n := by
  intro j hj
  refine ⟨?_, free_of_block h⟩
  rw [cell_of_block h, Array.getElem?_eq_getElem (by show k + j < 22; omega)]
  rfl
theorem OpAt.clearV {W : World} {B : Nat} {o : O} (h : OpAt B o W) : OpAt B o.noV (clearV W B) := by
  unfold OpAt at h
  have h0 := heap_setCell_same W B 9 (.int .i64 0) h
  have h1 := heap_setCell_same _ B 10 (.int .i64 0) h0
  have h2 := heap_setCell_same _ B 11 (.float .f64 0) h1
  have h3 := heap_setCell_same _ B 12 (.string ⟨#[]⟩) h2
  exact h3
theorem OpAt.clearV_other {W : World} {B C : Nat} {o : O} (h : OpAt B o W) (hc : C ≠ B) : OpAt B o (Go.Proofs.YtmknkecaeagmbaaGreatDoor.clearV W C) := by
  unfold OpAt at *
  show ((((W.setCell ⟨C, 9, none⟩ (.int .i64 0)).setCell ⟨C, 10, none⟩ (.int .i64 0)).setCell ⟨C, 11, none⟩ (.float .f64 0)).setCell ⟨C, 12, none⟩ (.string ⟨#[]⟩)).heap[B]? = _
  rw [heap_setCell_other _ _ _ _ hc, heap_setCell_other _ _ _ _ hc, heap_setCell_other _ _ _ _ hc, heap_setCell_other _ _ _ _ hc]
  exact h
theorem Touch.clearV {w W : World} {B : Nat} (t : Touch (fun _ => False) w W) (hB : w.heap.size ≤ B) : Touch (fun _ => False) w (Go.Proofs.YtmknkecaeagmbaaGreatDoor.clearV W B) := by
  have n : B < w.heap.size → False := fun h => absurd h (by omega)
  have t0 := t.setCell ⟨B, 9, none⟩ (.int .i64 0) n
  have t1 := t0.setCell ⟨B, 10, none⟩ (.int .i64 0) n
  have t2 := t1.setCell ⟨B, 11, none⟩ (.float .f64 0) n
  exact t2.setCell ⟨B, 12, none⟩ (.string ⟨#[]⟩) n
set_option maxHeartbeats 8000000 in
theorem ops_same (a b : O) (hfa : a.vf < 18446744073709551616) (hfb : b.vf < 18446744073709551616) (w : World) : Calls Tryz.prog 27 #[a.val, b.val] w fun e w' => e = .returned (.bool ((refCmp a.v b.v == 0) && likeO a b)) ∧ Touch (fun _ => False) w w' := by
  have HC : Hid (∀ w, Calls Tryz.prog 55 #[a.v.val, b.v.val] w fun e w' => e = .returned (.bool (refCmp a.v b.v == 0)) ∧ Touch (fun _ => False) w w') := fun w => v_same a.v b.v hfa hfb w
  generalize (refCmp a.v b.v == 0) = t at *
  clear hfa hfb
  go_enter Tryz.func27, Tryz.ntmps27
  go_upto_region 1 with fail
  obtain ⟨W0, hW0⟩ : ∃ W0, Hid (W0 = (w.alloc (opO a)).alloc (opO b)) := ⟨_, Eq.refl _⟩
  have HT0 : Hid (Touch (fun _ => False) w W0) := by rw [hW0.out]; exact ((Touch.refl _ _).alloc _).alloc _
  have HA : Hid (OpAt w.heap.size a W0 ∧ OpAt (w.heap.size + 1) b W0) := by rw [hW0.out]; exact heap_two w _ _
  rw [← hW0.out]
  clear hW0
  have q9 := HA.out.1.q9
  have q10 := HA.out.1.q10
  have q11 := HA.out.1.q11
  have q12 := HA.out.1.q12
  have qb9 := HA.out.2.q9
  have qb10 := HA.out.2.q10
  have qb11 := HA.out.2.q11
  have qb12 := HA.out.2.q12
  go_wp2_with fail
  clear q9 q10 q11 q12 qb9 qb10 qb11 qb12
  refine (HC.out _).mono ?_
  rintro e w1 ⟨rfl, t⟩
  have HT1 : Hid (Touch (fun _ => False) w w1) := HT0.out.trans t
  have HA1 : Hid (OpAt w.heap.size a w1 ∧ OpAt (w.heap.size + 1) b w1) := ⟨HA.out.1.keep t, HA.out.2.keep t⟩
  clear t HA HT0
  go_upto_region 2 with fail
  refine wp_region_lit ?_
  refine wpList_plain rfl fun K hK => ?_
  go_simp
  refine hK _ _ ?_
  clear hK K
  refine wpList_plain rfl fun K hK => ?_
  go_simp
  refine hK _ _ ?_
  clear hK K
  refine wpList_plain rfl fun K hK => ?_
  go_simp
  refine hK _ _ ?_
  clear hK K
  refine wpList_store_mid rfl 27 (.tmp 13) (.tmp 11) rfl w.heap.size 9 #[.int .i64 0, .int .i64 0, .float .f64 0, .string ⟨#[]⟩] rfl rfl (HA1.out.1.there 9 4 (by decide)) (by kernel_rfl) (by kernel_rfl) ?_
  simp only [Act.put]
  refine wpList_plain rfl fun K hK => ?_
  go_simp
  refine hK _ _ ?_
  clear hK K
  refine wpList_store_mid rfl 27 (.tmp 14) (.tmp 12) rfl (w.heap.size + 1) 9 #[.int .i64 0, .int .i64 0, .float .f64 0, .string ⟨#[]⟩] rfl rfl (World.there_setCells (HA1.out.2.there 9 4 (by decide)) _ _ _) (by kernel_rfl) (by kernel_rfl) ?_
  simp only [Act.put]
  obtain ⟨W3, hW3⟩ : ∃ W3, Hid (W3 = clearV (clearV w1 w.heap.size) (w.heap.size + 1)) := ⟨_, Eq.refl _⟩
  have HT3 : Hid (Touch (fun _ => False) w W3) := by rw [hW3.out]; exact (HT1.out.clearV (Nat.le_refl _)).clearV (Nat.le_succ _)
  have HA3 : Hid (OpAt w.heap.size a.noV W3 ∧ OpAt (w.heap.size + 1) b.noV W3) := by rw [hW3.out]; exact ⟨HA1.out.1.clearV.clearV_other (by omega), (HA1.out.2.clearV_other (by omega)).clearV⟩
  have HQ := eql_op a b
  unfold clearV at hW3
  rw [← hW3.out]
  clear hW3 HA1 HT1
  cases t
  · clear HA3 HQ
    go_wp2_with fail
    go_ret
    exact ⟨by simp, HT3.out⟩
  · go_upto_region 3 with fail
    refine wp_region_lit ?_
    refine wpList_plain rfl fun K hK => ?_
    go_simp
    refine hK _ _ ?_
    clear hK K
    refine wpList_plain rfl fun K hK => ?_
    go_simp
    refine hK _ _ ?_
    clear hK K
    refine wpList_step fun K hK => ?_
    rw [if_pos (by kernel_rfl)]
    refine wp_load_mid 31 (.tmp 2) rfl w.heap.size 0 rfl a.noV.vals.toList _ (rangeAt_of HA3.out.1) Tryz.underlying31 rfl (by kernel_rfl) (hK _ _ ?_)
    clear hK K
    refine wpList_step fun K hK => ?_
    rw [if_pos (by kernel_rfl)]
    refine wp_load_mid 31 (.tmp 3) rfl (w.heap.size + 1) 0 rfl b.noV.vals.toList _ (rangeAt_of HA3.out.2) Tryz.underlying31 rfl (by kernel_rfl) (hK _ _ ?_)
    clear hK K
    simp only [Act.put, List.setIfInBounds_toArray, List.set_cons_succ, List.set_cons_zero]
    refine wpList_step fun K hK => ?_
    rw [if_pos (by kernel_rfl)]
    refine wp_eql_agg 31 31 (.tmp 17) (.tmp 18) rfl a.noV.vals b.noV.vals rfl rfl (by kernel_rfl) (likeO a b) (HQ _) (hK _ _ ?_)
    clear hK K HQ HA3
    simp only [Act.put, List.setIfInBounds_toArray, List.set_cons_succ, List.set_cons_zero]
    go_wp2_with fail
    go_ret
    exact ⟨by simp, HT3.out⟩
end Go.Proofs.YtmknkecaeagmbaaGreatDoor
