/- The document's named. -/
import Derived.Test.YtphcnjbiojdalaaGreatDoorPart12
import Derived.Test.YtphcnjbiojdalaaGreatDoorPart7
import Derived.Test.YtphcnjbiojdalaaGreatDoorPart11
import Derived.Test.YtphcnjbiojdalaaGreatDoorPart6
import Derived.Test.YtphcnjbiojdalaaGreatDoorPart5
import Derived.Deep.RegionHeld3
import Derived.Deep.MidRow
import Derived.Great.Ranges
namespace Go.Proofs.YtphcnjbiojdalaaGreatDoor
open Go.RowKit
set_option linter.unusedVariables false
set_option linter.unusedSimpArgs false
set_option maxRecDepth 100000

/-- No id, or a right one. -/
def namedB (c k : Int) : Bool := ((c == 0) && (k == 0)) || (numOk c && numOk k)
set_option maxHeartbeats 2000000 in
theorem named_any (c k : Int) (w : World) : Calls Tryz.prog 38 #[idV c k] w fun e w' => e = .returned (.bool (namedB c k)) ∧ Touch (fun _ => False) w w' := by
  have HN : Hid (∀ W, Calls Tryz.prog 39 #[idV c k] W fun e w' => e = .returned (.bool ((c == 0) && (k == 0))) ∧ Touch (fun _ => False) W w') := fun W => none_any c k W
  have HR : Hid (∀ W, Calls Tryz.prog 37 #[idV c k] W fun e w' => e = .returned (.bool (numOk c && numOk k)) ∧ Touch (fun _ => False) W w') := fun W => (rRight_any c k W).mono (by rintro e w2 ⟨rfl, rfl⟩; exact ⟨rfl, (Touch.refl _ _).alloc _⟩)
  unfold namedB
  generalize ((c == 0) && (k == 0)) = n at *
  generalize (numOk c && numOk k) = r at *
  go_enter Tryz.func38, Tryz.ntmps38
  go_wp2_with fail
  refine (HN.out _).mono ?_
  rintro e w1 ⟨rfl, t⟩
  have q0 := (t.cell (b := w.heap.size) (by simp) id 0).trans (by simp : _ = some (Value.int .u64 c))
  have q1 := (t.cell (b := w.heap.size) (by simp) id 1).trans (by simp : _ = some (Value.int .u64 k))
  have HT : Hid (Touch (fun _ => False) w w1) := ((Touch.refl _ _).alloc _).trans t
  clear t HN
  cases n
  · go_wp2_with fail
    refine (HR.out _).mono ?_
    rintro e w2 ⟨rfl, t⟩
    have HT2 : Hid (Touch (fun _ => False) w w2) := HT.out.trans t
    clear t HR
    go_wp2_with fail
    go_ret
    exact ⟨by simp, HT2.out⟩
  · go_wp2_with fail
    go_ret
    exact ⟨by simp, HT.out⟩
end Go.Proofs.YtphcnjbiojdalaaGreatDoor

/- ops.byId; the one test of rightOnes. -/
namespace Go.Proofs.YtphcnjbiojdalaaGreatDoor
open Go.RowKit
set_option linter.unusedVariables false
set_option linter.unusedSimpArgs false
set_option maxRecDepth 100000

/-- The order of ids, as a number. -/
def cmpI (a b c d : Int) : Int := bif lessI a b c d then -1 else bif lessI c d a b then 1 else 0
set_option maxHeartbeats 2000000 in
theorem byId_any (a b c d : Int) (w : World) : Calls Tryz.prog 84 #[idV a b, idV c d] w fun e w' => e = .returned (.int .i64 (cmpI a b c d)) ∧ Touch (fun _ => False) w w' := by
  have H1 : Hid (∀ W, Calls Tryz.prog 102 #[idV a b, idV c d] W fun e w' => e = .returned (.bool (lessI a b c d)) ∧ Touch (fun _ => False) W w') := fun W => (less_any a b c d W).mono (by rintro e w2 ⟨rfl, rfl⟩; exact ⟨rfl, ((Touch.refl _ _).alloc _).alloc _⟩)
  have H2 : Hid (∀ W, Calls Tryz.prog 102 #[idV c d, idV a b] W fun e w' => e = .returned (.bool (lessI c d a b)) ∧ Touch (fun _ => False) W w') := fun W => (less_any c d a b W).mono (by rintro e w2 ⟨rfl, rfl⟩; exact ⟨rfl, ((Touch.refl _ _).alloc _).alloc _⟩)
  have HG : Hid (cmpI a b c d = bif lessI a b c d then -1 else bif lessI c d a b then 1 else 0) := rfl
  generalize lessI a b c d = x at *
  generalize lessI c d a b = y at *
  go_enter Tryz.func84, Tryz.ntmps84
  go_wp2_with fail
  refine (H1.out _).mono ?_
  rintro e w1 ⟨rfl, t⟩
  have hb := heap_two w (idO a b) (idO c d)
  have b0 := (t.block w.heap.size (lt_of_heap hb.1) id).trans hb.1
  have b1 := (t.block (w.heap.size + 1) (lt_of_heap hb.2) id).trans hb.2
  have q0 : w1.cell? ⟨w.heap.size, 0, none⟩ = some (.int .u64 a) := by rw [cell_of_block b0]; rfl
  have q1 : w1.cell? ⟨w.heap.size, 1, none⟩ = some (.int .u64 b) := by rw [cell_of_block b0]; rfl
  have q2 : w1.cell? ⟨w.heap.size + 1, 0, none⟩ = some (.int .u64 c) := by rw [cell_of_block b1]; rfl
  have q3 : w1.cell? ⟨w.heap.size + 1, 1, none⟩ = some (.int .u64 d) := by rw [cell_of_block b1]; rfl
  have HT : Hid (Touch (fun _ => False) w w1) := (((Touch.refl _ _).alloc _).alloc _).trans t
  clear t hb b0 b1 H1
  cases x
  · go_wp2_with fail
    refine (H2.out _).mono ?_
    rintro e w2 ⟨rfl, t⟩
    have HT2 : Hid (Touch (fun _ => False) w w2) := HT.out.trans t
    clear t HT
    cases y
    · go_wp2_with fail
      go_ret
      exact ⟨by rw [HG.out]; rfl, HT2.out⟩
    · go_wp2_with fail
      go_ret
      exact ⟨by rw [HG.out]; rfl, HT2.out⟩
  · go_wp2_with fail
    go_ret
    exact ⟨by rw [HG.out]; rfl, HT.out⟩
set_option maxHeartbeats 2000000 in
theorem sameId_any (a b : O) (w : World) : Calls Tryz.prog 76 #[a.val, b.val] w fun e w' => e = .returned (.bool ((a.c == b.c) && (a.k == b.k))) ∧ Touch (fun _ => False) w w' := by
  obtain ⟨t1, e1⟩ : ∃ t1, (a.c == b.c) = t1 := ⟨_, rfl⟩
  obtain ⟨t2, e2⟩ : ∃ t2, (a.k == b.k) = t2 := ⟨_, rfl⟩
  rw [e1, e2]
  go_enter Tryz.func76, Tryz.ntmps76
  go_upto_region 1 with fail
  obtain ⟨W0, hW0⟩ : ∃ W0, Hid (W0 = (w.alloc (opO a)).alloc (opO b)) := ⟨_, Eq.refl _⟩
  have HT0 : Hid (Touch (fun _ => False) w W0) := by rw [hW0.out]; exact ((Touch.refl _ _).alloc _).alloc _
  have hA : OpAt w.heap.size a W0 := by rw [hW0.out]; exact (heap_two w _ _).1
  have hB : OpAt (w.heap.size + 1) b W0 := by rw [hW0.out]; exact (heap_two w _ _).2
  rw [← hW0.out]
  clear hW0
  have q0 := hA.q0
  have q1 := hA.q1
  have p0 := hB.q0
  have p1 := hB.q1
  clear hA hB
  cases t1
  · go_wp2_with fail
    go_ret
    exact ⟨by simp, HT0.out⟩
  · cases t2
    · go_wp2_with fail
      go_ret
      exact ⟨by simp, HT0.out⟩
    · go_wp2_with fail
      go_ret
      exact ⟨by simp, HT0.out⟩
end Go.Proofs.YtphcnjbiojdalaaGreatDoor

/- Same; the document's Same. -/
namespace Go.Proofs.YtphcnjbiojdalaaGreatDoor
open Go.RowKit
set_option linter.unusedVariables false
set_option linter.unusedSimpArgs false
set_option maxRecDepth 100000

/-- All fields are alike. -/
def sameO (a b : O) : Bool := (((a.c == b.c) && (a.k == b.k)) && ((a.kind == b.kind) && ((a.st == b.st) && (((a.lc == b.lc) && (a.lk == b.lk)) && (((a.rc == b.rc) && (a.rk == b.rk)) && ((decide (a.tx.toList = b.tx.toList)) && ((refCmp a.v b.v == 0) && ((decide (a.ky.toList = b.ky.toList)) && (((a.pc == b.pc) && (a.pk == b.pk)) && (((a.fc == b.fc) && ((a.fk == b.fk) && (a.fa == b.fa))) && ((a.tc == b.tc) && ((a.tk == b.tk) && (a.ta == b.ta)))))))))))))
set_option maxHeartbeats 8000000 in
theorem ref_same (a b : O) (hfa : a.vf < 18446744073709551616) (hfb : b.vf < 18446744073709551616) (w : World) : Calls Tryz.prog 16 #[a.val, b.val] w fun e w' => e = .returned (.bool (sameO a b)) ∧ Touch (fun _ => False) w w' := by
  have HC : Hid (∀ w, Calls Tryz.prog 48 #[a.v.val, b.v.val] w fun e w' => e = .returned (.int .i64 (refCmp a.v b.v)) ∧ Touch (fun _ => False) w w') := fun w => ref_cmp a.v b.v hfa hfb w
  obtain ⟨t1, e1⟩ : ∃ t1, (a.c == b.c) = t1 := ⟨_, rfl⟩
  obtain ⟨t2, e2⟩ : ∃ t2, (a.k == b.k) = t2 := ⟨_, rfl⟩
  obtain ⟨t3, e3⟩ : ∃ t3, (a.kind == b.kind) = t3 := ⟨_, rfl⟩
  obtain ⟨t4, e4⟩ : ∃ t4, (a.st == b.st) = t4 := ⟨_, rfl⟩
  obtain ⟨t5, e5⟩ : ∃ t5, (a.lc == b.lc) = t5 := ⟨_, rfl⟩
  obtain ⟨t6, e6⟩ : ∃ t6, (a.lk == b.lk) = t6 := ⟨_, rfl⟩
  obtain ⟨t7, e7⟩ : ∃ t7, (a.rc == b.rc) = t7 := ⟨_, rfl⟩
  obtain ⟨t8, e8⟩ : ∃ t8, (a.rk == b.rk) = t8 := ⟨_, rfl⟩
  obtain ⟨t9, e9⟩ : ∃ t9, (decide (a.tx.toList = b.tx.toList)) = t9 := ⟨_, rfl⟩
  obtain ⟨t10, e10⟩ : ∃ t10, (refCmp a.v b.v == 0) = t10 := ⟨_, rfl⟩
  obtain ⟨t11, e11⟩ : ∃ t11, (decide (a.ky.toList = b.ky.toList)) = t11 := ⟨_, rfl⟩
  obtain ⟨t12, e12⟩ : ∃ t12, (a.pc == b.pc) = t12 := ⟨_, rfl⟩
  obtain ⟨t13, e13⟩ : ∃ t13, (a.pk == b.pk) = t13 := ⟨_, rfl⟩
  obtain ⟨t14, e14⟩ : ∃ t14, (a.fc == b.fc) = t14 := ⟨_, rfl⟩
  obtain ⟨t15, e15⟩ : ∃ t15, (a.fk == b.fk) = t15 := ⟨_, rfl⟩
  obtain ⟨t16, e16⟩ : ∃ t16, (a.fa == b.fa) = t16 := ⟨_, rfl⟩
  obtain ⟨t17, e17⟩ : ∃ t17, (a.tc == b.tc) = t17 := ⟨_, rfl⟩
  obtain ⟨t18, e18⟩ : ∃ t18, (a.tk == b.tk) = t18 := ⟨_, rfl⟩
  obtain ⟨t19, e19⟩ : ∃ t19, (a.ta == b.ta) = t19 := ⟨_, rfl⟩
  have HG : Hid (sameO a b = ((t1 && t2) && (t3 && (t4 && ((t5 && t6) && ((t7 && t8) && (t9 && (t10 && (t11 && ((t12 && t13) && ((t14 && (t15 && t16)) && (t17 && (t18 && t19))))))))))))) := by unfold sameO Hid; rw [e1, e2, e3, e4, e5, e6, e7, e8, e9, e10, e11, e12, e13, e14, e15, e16, e17, e18, e19]
  generalize refCmp a.v b.v = C at *
  clear hfa hfb
  go_enter Tryz.func16, Tryz.ntmps16
  go_upto_region 0 with fail
  refine wp_region_lit ?_
  refine Go.Great.wpList_boxTo rfl 31 (.tmp 0) rfl (some 2) rfl w.heap.size rfl a.vals rfl ?_
  refine Go.Great.wpList_boxTo rfl 31 (.tmp 1) rfl (some 3) rfl (w.heap.size + 1) (by simp) b.vals rfl ?_
  simp only [Act.put, List.setIfInBounds_toArray]
  obtain ⟨W0, hW0⟩ : ∃ W0, Hid (W0 = (w.alloc (opO a)).alloc (opO b)) := ⟨_, Eq.refl _⟩
  have HT0 : Hid (Touch (fun _ => False) w W0) := by rw [hW0.out]; exact ((Touch.refl _ _).alloc _).alloc _
  have HA : Hid (OpAt w.heap.size a W0 ∧ OpAt (w.heap.size + 1) b W0) := by rw [hW0.out]; exact heap_two w _ _
  rw [← hW0.out]
  clear hW0
  have q0 := HA.out.1.q0
  have qb0 := HA.out.2.q0
  have q1 := HA.out.1.q1
  have qb1 := HA.out.2.q1
  have q2 := HA.out.1.q2
  have qb2 := HA.out.2.q2
  have q3 := HA.out.1.q3
  have qb3 := HA.out.2.q3
  have q4 := HA.out.1.q4
  have qb4 := HA.out.2.q4
  have q5 := HA.out.1.q5
  have qb5 := HA.out.2.q5
  have q6 := HA.out.1.q6
  have qb6 := HA.out.2.q6
  have q7 := HA.out.1.q7
  have qb7 := HA.out.2.q7
  have q8 := HA.out.1.q8
  have qb8 := HA.out.2.q8
  have q9 := HA.out.1.q9
  have qb9 := HA.out.2.q9
  have q10 := HA.out.1.q10
  have qb10 := HA.out.2.q10
  have q11 := HA.out.1.q11
  have qb11 := HA.out.2.q11
  have q12 := HA.out.1.q12
  have qb12 := HA.out.2.q12
  go_wp2_with fail
  all_goals first | (go_ret; exact ⟨by rw [HG.out]; first | (simp [*]; done) | (rw [← e9]; simp [*]; done), HT0.out⟩) | skip
  clear q0 qb0 q1 qb1 q2 qb2 q3 qb3 q4 qb4 q5 qb5 q6 qb6 q7 qb7 q8 qb8 q9 qb9 q10 qb10 q11 qb11 q12 qb12
  refine (HC.out _).mono ?_
  rintro e w1 ⟨rfl, t⟩
  have HT1 : Hid (Touch (fun _ => False) w w1) := HT0.out.trans t
  have HA1 : Hid (OpAt w.heap.size a w1 ∧ OpAt (w.heap.size + 1) b w1) := ⟨HA.out.1.keep t, HA.out.2.keep t⟩
  clear t HA HT0
  have q13 := HA1.out.1.q13
  have qb13 := HA1.out.2.q13
  have q14 := HA1.out.1.q14
  have qb14 := HA1.out.2.q14
  have q15 := HA1.out.1.q15
  have qb15 := HA1.out.2.q15
  have q16 := HA1.out.1.q16
  have qb16 := HA1.out.2.q16
  have q17 := HA1.out.1.q17
  have qb17 := HA1.out.2.q17
  have q18 := HA1.out.1.q18
  have qb18 := HA1.out.2.q18
  have q19 := HA1.out.1.q19
  have qb19 := HA1.out.2.q19
  have q20 := HA1.out.1.q20
  have qb20 := HA1.out.2.q20
  have q21 := HA1.out.1.q21
  have qb21 := HA1.out.2.q21
  go_wp2_with fail
  all_goals (go_ret; exact ⟨by rw [HG.out]; first | (simp [*]; done) | (rw [← e9, ← e11]; simp [*]; done), HT1.out⟩)
end Go.Proofs.YtphcnjbiojdalaaGreatDoor

/- Same on both sides, as one function. -/
namespace Go.Proofs.YtphcnjbiojdalaaGreatDoor
open Go.RowKit
set_option linter.unusedVariables false
set_option maxRecDepth 100000

set_option maxHeartbeats 2000000 in
theorem sameO_like (a b : O) : ((refCmp a.v b.v == 0) && likeO a b) = sameO a b := by
  unfold sameO likeO
  rw [Bool.eq_iff_iff]
  simp only [Bool.and_eq_true, beq_iff_eq, decide_eq_true_eq, and_assoc]
  constructor
  · rintro ⟨h, h1, h2, h3, h4, h5, h6, h7, h8, h9, h10⟩
    exact ⟨h1, h2, h3, h4, h5, h6, h7, h8, h9, h, h10⟩
  · rintro ⟨h1, h2, h3, h4, h5, h6, h7, h8, h9, h, h10⟩
    exact ⟨h, h1, h2, h3, h4, h5, h6, h7, h8, h9, h10⟩
theorem ops_sameO (a b : O) (hfa : a.vf < 18446744073709551616) (hfb : b.vf < 18446744073709551616) (w : World) : Calls Tryz.prog 27 #[a.val, b.val] w fun e w' => e = .returned (.bool (sameO a b)) ∧ Touch (fun _ => False) w w' := by
  rw [← sameO_like]
  exact ops_same a b hfa hfb w
end Go.Proofs.YtphcnjbiojdalaaGreatDoor
