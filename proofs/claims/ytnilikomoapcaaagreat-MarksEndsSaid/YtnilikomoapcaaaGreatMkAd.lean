/- marks.All's drawn region: one more mark at a place. -/
import Derived.Test.YtnilikomoapcaaaGreatMkAa
import Derived.Test.YtnilikomoapcaaaGreatPart27
import Derived.Test.YtnilikomoapcaaaGreatMkH
namespace Go.Proofs.YtnilikomoapcaaaGreat
open Go.RowKit Go.Maps
set_option linter.unusedVariables false
set_option linter.unusedSimpArgs false
set_option maxRecDepth 100000

abbrev al16 : Array Oper := #[{ dst := some 62, op := Go.Op.move (Go.Operand.tmp 7), type := 43, pos := "marks.go:83", after := #[], guard := none }, { dst := some 63, op := Go.Op.move (Go.Operand.tmp 12), type := 3, pos := "marks.go:83", after := #[], guard := none }, { dst := some 64, op := Go.Op.move (Go.Operand.tmp 7), type := 43, pos := "marks.go:83", after := #[], guard := none }, { dst := some 65, op := Go.Op.move (Go.Operand.tmp 12), type := 3, pos := "marks.go:83", after := #[], guard := none }, { dst := some 66, op := Go.Op.indexAddr 43 (Go.Operand.tmp 64) (Go.Operand.tmp 65), type := 0, pos := "marks.go:83", after := #[{ on := 2, ground := Go.Ground.data }, { on := 3, ground := Go.Ground.data }], guard := none }, { dst := some 67, op := Go.Op.load 45 (Go.Operand.tmp 66), type := 45, pos := "marks.go:83", after := #[{ on := 4, ground := Go.Ground.data }], guard := none }, { dst := some 68, op := Go.Op.fieldAddr 88 (Go.Operand.tmp 11) 2, type := 0, pos := "marks.go:83", after := #[], guard := none }, { dst := some 69, op := Go.Op.load 39 (Go.Operand.tmp 68), type := 39, pos := "marks.go:83", after := #[{ on := 6, ground := Go.Ground.data }], guard := none }, { dst := some 70, op := Go.Op.call { callee := Go.Callee.value (Go.Operand.func 34), args := #[Go.Operand.tmp 69], argTypes := #[39] }, type := 55, pos := "marks.go:83", after := #[{ on := 7, ground := Go.Ground.data }], guard := none }, { dst := some 71, op := Go.Op.buildSlice 45 1 #[(0, Go.Operand.tmp 70)], type := 45, pos := "marks.go:83", after := #[{ on := 8, ground := Go.Ground.data }], guard := none }, { dst := some 72, op := Go.Op.call { callee := Go.Callee.builtin Go.Builtin.append, args := #[Go.Operand.tmp 67, Go.Operand.tmp 71], argTypes := #[45, 45] }, type := 45, pos := "marks.go:83", after := #[{ on := 5, ground := Go.Ground.data }, { on := 9, ground := Go.Ground.data }, { on := 8, ground := Go.Ground.chain }], guard := none }, { dst := some 73, op := Go.Op.indexAddr 43 (Go.Operand.tmp 62) (Go.Operand.tmp 63), type := 0, pos := "marks.go:83", after := #[{ on := 0, ground := Go.Ground.data }, { on := 1, ground := Go.Ground.data }, { on := 0, ground := Go.Ground.phase }, { on := 1, ground := Go.Ground.phase }, { on := 2, ground := Go.Ground.phase }, { on := 3, ground := Go.Ground.phase }, { on := 4, ground := Go.Ground.phase }, { on := 5, ground := Go.Ground.phase }, { on := 6, ground := Go.Ground.phase }, { on := 7, ground := Go.Ground.phase }, { on := 8, ground := Go.Ground.phase }, { on := 9, ground := Go.Ground.phase }, { on := 10, ground := Go.Ground.phase }], guard := none }, { dst := none, op := Go.Op.store 45 (Go.Operand.tmp 73) (Go.Operand.tmp 72), type := 0, pos := "marks.go:83", after := #[{ on := 11, ground := Go.Ground.data }, { on := 10, ground := Go.Ground.data }, { on := 10, ground := Go.Ground.chain }, { on := 0, ground := Go.Ground.phase }, { on := 1, ground := Go.Ground.phase }, { on := 2, ground := Go.Ground.phase }, { on := 3, ground := Go.Ground.phase }, { on := 4, ground := Go.Ground.phase }, { on := 5, ground := Go.Ground.phase }, { on := 6, ground := Go.Ground.phase }, { on := 7, ground := Go.Ground.phase }, { on := 8, ground := Go.Ground.phase }, { on := 9, ground := Go.Ground.phase }, { on := 10, ground := Go.Ground.phase }], guard := none }]
set_option maxHeartbeats 8000000 in
theorem all_reg16 {Q : Exit → Act → World → Prop} {W : World} (g n i X : Nat) (o : O) (a0 : Option Addr) (l0 c0 : Nat) (df : List Deferred) (t0 t1 t2 t3 t4 t5 t6 t8 t9 t10 t13 t14 t15 t16 t17 t18 t19 t20 t21 t22 t23 t24 t25 t26 t27 t28 t29 t30 t31 t32 t33 t34 t35 t36 t37 t38 t39 t40 t41 t42 t43 t44 t45 t46 t47 t48 t49 t50 t51 t52 t53 t54 t55 t56 t57 t58 t59 t60 t61 t62 t63 t64 t65 t66 t67 t68 t69 t70 t71 t72 t73 t74 t75 t76 : Value) (hi0 : (0 : Int) ≤ (i : Int)) (hi1 : (i : Int) < (n : Int))
    (hx : ∀ V, Touch (fun _ => False) W V → V.rangeAt X 2 o.vals.toList) (hc : ∀ V, Touch (fun _ => False) W V → V.cell? ⟨g, i, none⟩ = some (.slice a0 l0 c0))
    (hA : ∀ V, Touch (fun _ => False) W V → ∃ a1 l1 c1 w2, (Builtin.append_ #[45, 45] 45 #[.slice a0 l0 c0, .slice (some ⟨V.heap.size, 0, none⟩) 1 1]).run Tryz.prog (V.alloc (myO (mk o))) = .ok (.slice a1 l1 c1) w2 ∧ w2.cell? ⟨g, i, none⟩ = some (.slice a0 l0 c0) ∧ w2.frozen? ⟨g, i, none⟩ = false ∧ w2.rangeAt X 2 o.vals.toList ∧ (w2.setCell ⟨g, i, none⟩ (.slice a1 l1 c1)).rangeAt X 2 o.vals.toList ∧
      Q .normal { tmps := #[t0, t1, t2, t3, t4, t5, t6, .slice (some ⟨g, 0, none⟩) n n, t8, t9, t10, .pointer (some ⟨X, 0, none⟩), .int .i64 (i : Int), t13, t14, t15, t16, t17, t18, t19, t20, t21, t22, t23, t24, t25, t26, t27, t28, t29, t30, t31, t32, t33, t34, t35, t36, t37, t38, t39, t40, t41, t42, t43, t44, t45, t46, t47, t48, t49, t50, t51, t52, t53, t54, t55, t56, t57, t58, t59, t60, t61, .slice (some ⟨g, 0, none⟩) n n, .int .i64 (i : Int), .slice (some ⟨g, 0, none⟩) n n, .int .i64 (i : Int), .pointer (some ⟨g, i, none⟩), .slice a0 l0 c0, .pointer (some ⟨X, 2, none⟩), o.val, mkO o, .slice (some ⟨V.heap.size, 0, none⟩) 1 1, .slice a1 l1 c1, .pointer (some ⟨g, i, none⟩), t74, t75, t76], defers := df } (w2.setCell ⟨g, i, none⟩ (.slice a1 l1 c1))) :
    (Code.region 16 al16 true).wp Tryz.prog Q { tmps := #[t0, t1, t2, t3, t4, t5, t6, .slice (some ⟨g, 0, none⟩) n n, t8, t9, t10, .pointer (some ⟨X, 0, none⟩), .int .i64 (i : Int), t13, t14, t15, t16, t17, t18, t19, t20, t21, t22, t23, t24, t25, t26, t27, t28, t29, t30, t31, t32, t33, t34, t35, t36, t37, t38, t39, t40, t41, t42, t43, t44, t45, t46, t47, t48, t49, t50, t51, t52, t53, t54, t55, t56, t57, t58, t59, t60, t61, t62, t63, t64, t65, t66, t67, t68, t69, t70, t71, t72, t73, t74, t75, t76], defers := df } W := by
  refine wp_region_noPanic (wp_region_held (S := fun V => V.rangeAt X 2 o.vals.toList) (by kernel_rfl) ?_)
  have t0' : Touch (fun _ => False) W W.drew := (Touch.refl _ W).drew
  have hd : ∀ V2, Touch (fun _ => False) W V2 → wpAnyH Tryz.prog .any al16 (NoPanic Q) (fun V => V.rangeAt X 2 o.vals.toList) 3 #[true, true, true, true, true, true, true, true, true, true, false, false, false] { tmps := #[t0, t1, t2, t3, t4, t5, t6, .slice (some ⟨g, 0, none⟩) n n, t8, t9, t10, .pointer (some ⟨X, 0, none⟩), .int .i64 (i : Int), t13, t14, t15, t16, t17, t18, t19, t20, t21, t22, t23, t24, t25, t26, t27, t28, t29, t30, t31, t32, t33, t34, t35, t36, t37, t38, t39, t40, t41, t42, t43, t44, t45, t46, t47, t48, t49, t50, t51, t52, t53, t54, t55, t56, t57, t58, t59, t60, t61, .slice (some ⟨g, 0, none⟩) n n, .int .i64 (i : Int), .slice (some ⟨g, 0, none⟩) n n, .int .i64 (i : Int), .pointer (some ⟨g, i, none⟩), .slice a0 l0 c0, .pointer (some ⟨X, 2, none⟩), o.val, mkO o, .slice (some ⟨V2.heap.size, 0, none⟩) 1 1, t72, t73, t74, t75, t76], defers := df } (V2.alloc (myO (mk o))) := by
    intro V2 tV
    obtain ⟨a1, l1, c1, w2, hrun, hc2, hz2, hr2, hr3, hQ⟩ := hA V2 tV
    refine wpAnyH_ready (rs := [10]) (by kernel_rfl) (by simp) ?_
    refine AllReadyH.cons (o := { dst := some 72, op := Go.Op.call { callee := Go.Callee.builtin Go.Builtin.append, args := #[Go.Operand.tmp 67, Go.Operand.tmp 71], argTypes := #[45, 45] }, type := 45, pos := "marks.go:83", after := #[{ on := 5, ground := Go.Ground.data }, { on := 9, ground := Go.Ground.data }, { on := 8, ground := Go.Ground.chain }], guard := none }) rfl (fun K hK => ?_) AllReadyH.nil
    rw [if_pos (by kernel_rfl)]
    refine wpO_of_run (v := .slice a1 l1 c1) (w' := w2) ?_ ?_
    · simp [execOp, resolve, invoke, builtin, Act.eval, hrun, Result.andThen]
    simp only [Act.put, List.setIfInBounds_toArray, List.set_cons_succ, List.set_cons_zero]
    refine hK.out _ _ hr2 (fun _ => ?_)
    clear hK K
    refine wpAnyH_ready (rs := [11]) (by kernel_rfl) (by simp) ?_
    refine AllReadyH.cons (o := { dst := some 73, op := Go.Op.indexAddr 43 (Go.Operand.tmp 62) (Go.Operand.tmp 63), type := 0, pos := "marks.go:83", after := #[{ on := 0, ground := Go.Ground.data }, { on := 1, ground := Go.Ground.data }, { on := 0, ground := Go.Ground.phase }, { on := 1, ground := Go.Ground.phase }, { on := 2, ground := Go.Ground.phase }, { on := 3, ground := Go.Ground.phase }, { on := 4, ground := Go.Ground.phase }, { on := 5, ground := Go.Ground.phase }, { on := 6, ground := Go.Ground.phase }, { on := 7, ground := Go.Ground.phase }, { on := 8, ground := Go.Ground.phase }, { on := 9, ground := Go.Ground.phase }, { on := 10, ground := Go.Ground.phase }], guard := none }) rfl (fun K hK => ?_) AllReadyH.nil
    rw [if_pos (by kernel_rfl)]
    refine wpO_of_run (v := .pointer (some ⟨g, i, none⟩)) (w' := w2) ?_ ?_
    · go_simp
    simp only [Act.put, List.setIfInBounds_toArray, List.set_cons_succ, List.set_cons_zero]
    refine hK.out _ _ hr2 (fun _ => ?_)
    clear hK K
    refine wpAnyH_ready (rs := [12]) (by kernel_rfl) (by simp) ?_
    refine AllReadyH.cons (o := { dst := none, op := Go.Op.store 45 (Go.Operand.tmp 73) (Go.Operand.tmp 72), type := 0, pos := "marks.go:83", after := #[{ on := 11, ground := Go.Ground.data }, { on := 10, ground := Go.Ground.data }, { on := 10, ground := Go.Ground.chain }, { on := 0, ground := Go.Ground.phase }, { on := 1, ground := Go.Ground.phase }, { on := 2, ground := Go.Ground.phase }, { on := 3, ground := Go.Ground.phase }, { on := 4, ground := Go.Ground.phase }, { on := 5, ground := Go.Ground.phase }, { on := 6, ground := Go.Ground.phase }, { on := 7, ground := Go.Ground.phase }, { on := 8, ground := Go.Ground.phase }, { on := 9, ground := Go.Ground.phase }, { on := 10, ground := Go.Ground.phase }], guard := none }) rfl (fun K hK => ?_) AllReadyH.nil
    rw [if_pos (by kernel_rfl)]
    refine wpO_of_skip (w' := w2.setCell ⟨g, i, none⟩ (.slice a1 l1 c1)) ?_ ?_
    · go_simp
    simp only [Act.put]
    refine hK.out _ _ hr3 (fun _ => ?_)
    refine wpAnyH_done (by kernel_rfl) ?_ _
    exact hQ
  have h89 : ∀ V2, Touch (fun _ => False) W V2 → wpAnyH Tryz.prog .any al16 (NoPanic Q) (fun V => V.rangeAt X 2 o.vals.toList) 4 #[true, true, true, true, true, false, true, true, true, true, false, false, false] { tmps := #[t0, t1, t2, t3, t4, t5, t6, .slice (some ⟨g, 0, none⟩) n n, t8, t9, t10, .pointer (some ⟨X, 0, none⟩), .int .i64 (i : Int), t13, t14, t15, t16, t17, t18, t19, t20, t21, t22, t23, t24, t25, t26, t27, t28, t29, t30, t31, t32, t33, t34, t35, t36, t37, t38, t39, t40, t41, t42, t43, t44, t45, t46, t47, t48, t49, t50, t51, t52, t53, t54, t55, t56, t57, t58, t59, t60, t61, .slice (some ⟨g, 0, none⟩) n n, .int .i64 (i : Int), .slice (some ⟨g, 0, none⟩) n n, .int .i64 (i : Int), .pointer (some ⟨g, i, none⟩), t67, .pointer (some ⟨X, 2, none⟩), o.val, mkO o, .slice (some ⟨V2.heap.size, 0, none⟩) 1 1, t72, t73, t74, t75, t76], defers := df } (V2.alloc (myO (mk o))) := fun V2 tV2 => by
    have tV : Touch (fun _ => False) W (V2.alloc (myO (mk o))) := tV2.alloc _
    refine wpAnyH_ready (rs := [5]) (by kernel_rfl) (by simp) ?_
    refine AllReadyH.cons (o := { dst := some 67, op := Go.Op.load 45 (Go.Operand.tmp 66), type := 45, pos := "marks.go:83", after := #[{ on := 4, ground := Go.Ground.data }], guard := none }) rfl (fun K hK => ?_) AllReadyH.nil
    rw [if_pos (by kernel_rfl)]
    refine wpO_of_run (v := .slice a0 l0 c0) (w' := V2.alloc (myO (mk o))) ?_ ?_
    · have := hc _ tV
      simp only [execOp, go_sem]
      simp [go_sem, this, Result.andThen]
    simp only [Act.put, List.setIfInBounds_toArray, List.set_cons_succ, List.set_cons_zero]
    exact hK.out _ _ (hx _ tV) (fun _ => hd V2 tV2)
  have h58 : ∀ V2, Touch (fun _ => False) W V2 → wpAnyH Tryz.prog .any al16 (NoPanic Q) (fun V => V.rangeAt X 2 o.vals.toList) 4 #[true, true, true, true, true, true, true, true, true, false, false, false, false] { tmps := #[t0, t1, t2, t3, t4, t5, t6, .slice (some ⟨g, 0, none⟩) n n, t8, t9, t10, .pointer (some ⟨X, 0, none⟩), .int .i64 (i : Int), t13, t14, t15, t16, t17, t18, t19, t20, t21, t22, t23, t24, t25, t26, t27, t28, t29, t30, t31, t32, t33, t34, t35, t36, t37, t38, t39, t40, t41, t42, t43, t44, t45, t46, t47, t48, t49, t50, t51, t52, t53, t54, t55, t56, t57, t58, t59, t60, t61, .slice (some ⟨g, 0, none⟩) n n, .int .i64 (i : Int), .slice (some ⟨g, 0, none⟩) n n, .int .i64 (i : Int), .pointer (some ⟨g, i, none⟩), .slice a0 l0 c0, .pointer (some ⟨X, 2, none⟩), o.val, mkO o, t71, t72, t73, t74, t75, t76], defers := df } V2 := fun V2 tV => by
    refine wpAnyH_ready (rs := [9]) (by kernel_rfl) (by simp) ?_
    refine AllReadyH.cons (o := { dst := some 71, op := Go.Op.buildSlice 45 1 #[(0, Go.Operand.tmp 70)], type := 45, pos := "marks.go:83", after := #[{ on := 8, ground := Go.Ground.data }], guard := none }) rfl (fun K hK => ?_) (AllReadyH.nil)
    · rw [if_pos (by kernel_rfl)]
      refine wpO_of_run (v := .slice (some ⟨V2.heap.size, 0, none⟩) 1 1) (w' := V2.alloc (myO (mk o))) ?_ ?_
      · simp only [execOp, go_sem]
        simp [go_sem, build_mark o V2, Result.andThen]
      simp only [Act.put, List.setIfInBounds_toArray, List.set_cons_succ, List.set_cons_zero]
      exact hK.out _ _ (hx _ (tV.alloc _)) (fun _ => hd V2 tV)
  have h8 : ∀ V2, Touch (fun _ => False) W V2 → wpAnyH Tryz.prog .any al16 (NoPanic Q) (fun V => V.rangeAt X 2 o.vals.toList) 5 #[true, true, true, true, true, false, true, true, true, false, false, false, false] { tmps := #[t0, t1, t2, t3, t4, t5, t6, .slice (some ⟨g, 0, none⟩) n n, t8, t9, t10, .pointer (some ⟨X, 0, none⟩), .int .i64 (i : Int), t13, t14, t15, t16, t17, t18, t19, t20, t21, t22, t23, t24, t25, t26, t27, t28, t29, t30, t31, t32, t33, t34, t35, t36, t37, t38, t39, t40, t41, t42, t43, t44, t45, t46, t47, t48, t49, t50, t51, t52, t53, t54, t55, t56, t57, t58, t59, t60, t61, .slice (some ⟨g, 0, none⟩) n n, .int .i64 (i : Int), .slice (some ⟨g, 0, none⟩) n n, .int .i64 (i : Int), .pointer (some ⟨g, i, none⟩), t67, .pointer (some ⟨X, 2, none⟩), o.val, mkO o, t71, t72, t73, t74, t75, t76], defers := df } V2 := fun V2 tV => by
    refine wpAnyH_ready (rs := [5, 9]) (by kernel_rfl) (by simp) ?_
    refine AllReadyH.cons (o := { dst := some 67, op := Go.Op.load 45 (Go.Operand.tmp 66), type := 45, pos := "marks.go:83", after := #[{ on := 4, ground := Go.Ground.data }], guard := none }) rfl (fun K hK => ?_) (AllReadyH.cons (o := { dst := some 71, op := Go.Op.buildSlice 45 1 #[(0, Go.Operand.tmp 70)], type := 45, pos := "marks.go:83", after := #[{ on := 8, ground := Go.Ground.data }], guard := none }) rfl (fun K hK => ?_) (AllReadyH.nil))
    · rw [if_pos (by kernel_rfl)]
      refine wpO_of_run (v := .slice a0 l0 c0) (w' := V2) ?_ ?_
      · have := hc V2 tV
        simp only [execOp, go_sem]
        simp [go_sem, this, Result.andThen]
      simp only [Act.put, List.setIfInBounds_toArray, List.set_cons_succ, List.set_cons_zero]
      exact hK.out _ _ (hx V2 tV) (fun _ => h58 V2 tV)
    · rw [if_pos (by kernel_rfl)]
      refine wpO_of_run (v := .slice (some ⟨V2.heap.size, 0, none⟩) 1 1) (w' := V2.alloc (myO (mk o))) ?_ ?_
      · simp only [execOp, go_sem]
        simp [go_sem, build_mark o V2, Result.andThen]
      simp only [Act.put, List.setIfInBounds_toArray, List.set_cons_succ, List.set_cons_zero]
      exact hK.out _ _ (hx _ (tV.alloc _)) (fun _ => h89 V2 tV)
  have h5 : ∀ V2, Touch (fun _ => False) W V2 → wpAnyH Tryz.prog .any al16 (NoPanic Q) (fun V => V.rangeAt X 2 o.vals.toList) 5 #[true, true, true, true, true, true, true, true, false, false, false, false, false] { tmps := #[t0, t1, t2, t3, t4, t5, t6, .slice (some ⟨g, 0, none⟩) n n, t8, t9, t10, .pointer (some ⟨X, 0, none⟩), .int .i64 (i : Int), t13, t14, t15, t16, t17, t18, t19, t20, t21, t22, t23, t24, t25, t26, t27, t28, t29, t30, t31, t32, t33, t34, t35, t36, t37, t38, t39, t40, t41, t42, t43, t44, t45, t46, t47, t48, t49, t50, t51, t52, t53, t54, t55, t56, t57, t58, t59, t60, t61, .slice (some ⟨g, 0, none⟩) n n, .int .i64 (i : Int), .slice (some ⟨g, 0, none⟩) n n, .int .i64 (i : Int), .pointer (some ⟨g, i, none⟩), .slice a0 l0 c0, .pointer (some ⟨X, 2, none⟩), o.val, t70, t71, t72, t73, t74, t75, t76], defers := df } V2 := fun V2 tV => by
    refine wpAnyH_ready (rs := [8]) (by kernel_rfl) (by simp) ?_
    refine AllReadyH.cons (o := { dst := some 70, op := Go.Op.call { callee := Go.Callee.value (Go.Operand.func 34), args := #[Go.Operand.tmp 69], argTypes := #[39] }, type := 55, pos := "marks.go:83", after := #[{ on := 7, ground := Go.Ground.data }], guard := none }) rfl (fun K hK => ?_) (AllReadyH.nil)
    · go_simp
      refine (markOf_any o V2).mono ?_
      rintro e V3 ⟨rfl, t3⟩
      exact hK.out _ _ (hx V3 (tV.trans t3)) (fun _ => h58 V3 (tV.trans t3))
  have h0 : ∀ V2, Touch (fun _ => False) W V2 → wpAnyH Tryz.prog .any al16 (NoPanic Q) (fun V => V.rangeAt X 2 o.vals.toList) 6 #[true, true, true, true, true, false, true, true, false, false, false, false, false] { tmps := #[t0, t1, t2, t3, t4, t5, t6, .slice (some ⟨g, 0, none⟩) n n, t8, t9, t10, .pointer (some ⟨X, 0, none⟩), .int .i64 (i : Int), t13, t14, t15, t16, t17, t18, t19, t20, t21, t22, t23, t24, t25, t26, t27, t28, t29, t30, t31, t32, t33, t34, t35, t36, t37, t38, t39, t40, t41, t42, t43, t44, t45, t46, t47, t48, t49, t50, t51, t52, t53, t54, t55, t56, t57, t58, t59, t60, t61, .slice (some ⟨g, 0, none⟩) n n, .int .i64 (i : Int), .slice (some ⟨g, 0, none⟩) n n, .int .i64 (i : Int), .pointer (some ⟨g, i, none⟩), t67, .pointer (some ⟨X, 2, none⟩), o.val, t70, t71, t72, t73, t74, t75, t76], defers := df } V2 := fun V2 tV => by
    refine wpAnyH_ready (rs := [5, 8]) (by kernel_rfl) (by simp) ?_
    refine AllReadyH.cons (o := { dst := some 67, op := Go.Op.load 45 (Go.Operand.tmp 66), type := 45, pos := "marks.go:83", after := #[{ on := 4, ground := Go.Ground.data }], guard := none }) rfl (fun K hK => ?_) (AllReadyH.cons (o := { dst := some 70, op := Go.Op.call { callee := Go.Callee.value (Go.Operand.func 34), args := #[Go.Operand.tmp 69], argTypes := #[39] }, type := 55, pos := "marks.go:83", after := #[{ on := 7, ground := Go.Ground.data }], guard := none }) rfl (fun K hK => ?_) (AllReadyH.nil))
    · rw [if_pos (by kernel_rfl)]
      refine wpO_of_run (v := .slice a0 l0 c0) (w' := V2) ?_ ?_
      · have := hc V2 tV
        simp only [execOp, go_sem]
        simp [go_sem, this, Result.andThen]
      simp only [Act.put, List.setIfInBounds_toArray, List.set_cons_succ, List.set_cons_zero]
      exact hK.out _ _ (hx V2 tV) (fun _ => h5 V2 tV)
    · go_simp
      refine (markOf_any o V2).mono ?_
      rintro e V3 ⟨rfl, t3⟩
      exact hK.out _ _ (hx V3 (tV.trans t3)) (fun _ => h8 V3 (tV.trans t3))
  have hHeld := hx _ t0'
  refine wpAnyH_take (i := 0) (oi := { dst := some 62, op := Go.Op.move (Go.Operand.tmp 7), type := 43, pos := "marks.go:83", after := #[], guard := none }) (v := .slice (some ⟨g, 0, none⟩) n n) rfl (by kernel_rfl) (by kernel_rfl) (by kernel_rfl) (fun _ _ _ h => h) (Or.inl ⟨by kernel_rfl, ?_⟩) hHeld ?_
  · intro V1 hV1; go_simp
  simp only [Act.put, List.setIfInBounds_toArray, List.set_cons_succ, List.set_cons_zero]
  refine wpAnyH_take (i := 1) (oi := { dst := some 63, op := Go.Op.move (Go.Operand.tmp 12), type := 3, pos := "marks.go:83", after := #[], guard := none }) (v := .int .i64 (i : Int)) rfl (by kernel_rfl) (by kernel_rfl) (by kernel_rfl) (fun _ _ _ h => h) (Or.inl ⟨by kernel_rfl, ?_⟩) hHeld ?_
  · intro V1 hV1; go_simp
  simp only [Act.put, List.setIfInBounds_toArray, List.set_cons_succ, List.set_cons_zero]
  refine wpAnyH_take (i := 2) (oi := { dst := some 64, op := Go.Op.move (Go.Operand.tmp 7), type := 43, pos := "marks.go:83", after := #[], guard := none }) (v := .slice (some ⟨g, 0, none⟩) n n) rfl (by kernel_rfl) (by kernel_rfl) (by kernel_rfl) (fun _ _ _ h => h) (Or.inl ⟨by kernel_rfl, ?_⟩) hHeld ?_
  · intro V1 hV1; go_simp
  simp only [Act.put, List.setIfInBounds_toArray, List.set_cons_succ, List.set_cons_zero]
  refine wpAnyH_take (i := 3) (oi := { dst := some 65, op := Go.Op.move (Go.Operand.tmp 12), type := 3, pos := "marks.go:83", after := #[], guard := none }) (v := .int .i64 (i : Int)) rfl (by kernel_rfl) (by kernel_rfl) (by kernel_rfl) (fun _ _ _ h => h) (Or.inl ⟨by kernel_rfl, ?_⟩) hHeld ?_
  · intro V1 hV1; go_simp
  simp only [Act.put, List.setIfInBounds_toArray, List.set_cons_succ, List.set_cons_zero]
  refine wpAnyH_take (i := 4) (oi := { dst := some 66, op := Go.Op.indexAddr 43 (Go.Operand.tmp 64) (Go.Operand.tmp 65), type := 0, pos := "marks.go:83", after := #[{ on := 2, ground := Go.Ground.data }, { on := 3, ground := Go.Ground.data }], guard := none }) (v := .pointer (some ⟨g, i, none⟩)) rfl (by kernel_rfl) (by kernel_rfl) (by kernel_rfl) (fun _ _ _ h => h) (Or.inl ⟨by kernel_rfl, ?_⟩) hHeld ?_
  · intro V1 hV1; go_simp
  simp only [Act.put, List.setIfInBounds_toArray, List.set_cons_succ, List.set_cons_zero]
  refine wpAnyH_take (i := 6) (oi := { dst := some 68, op := Go.Op.fieldAddr 88 (Go.Operand.tmp 11) 2, type := 0, pos := "marks.go:83", after := #[], guard := none }) (v := .pointer (some ⟨X, 2, none⟩)) rfl (by kernel_rfl) (by kernel_rfl) (by kernel_rfl) (fun _ _ _ h => h) (Or.inl ⟨by kernel_rfl, ?_⟩) hHeld ?_
  · intro V1 hV1; go_simp
  simp only [Act.put, List.setIfInBounds_toArray, List.set_cons_succ, List.set_cons_zero]
  refine wpAnyH_take (i := 7) (oi := { dst := some 69, op := Go.Op.load 39 (Go.Operand.tmp 68), type := 39, pos := "marks.go:83", after := #[{ on := 6, ground := Go.Ground.data }], guard := none }) (v := o.val) rfl (by kernel_rfl) (by kernel_rfl) (by kernel_rfl) (fun _ _ _ h => h) (yieldsIf_load_mid (by kernel_rfl) 39 (.tmp 68) rfl X 2 rfl o.vals.toList _ (fun V1 hV1 => hV1) Tryz.underlying39 rfl (by kernel_rfl)) hHeld ?_
  simp only [Act.put, List.setIfInBounds_toArray, List.set_cons_succ, List.set_cons_zero]
  exact h0 _ t0'
end Go.Proofs.YtnilikomoapcaaaGreat
