/- marks.All's drawn region: a span is laid behind those of its key; within a round. -/
import Derived.Test.YtnilikomoapcaaaGreatRgR
import Derived.Test.YtnilikomoapcaaaGreatPart23
import Derived.Test.YtnilikomoapcaaaGreatPart24
import Derived.Test.YtnilikomoapcaaaGreatMkG
import Derived.Deep.MidRow
namespace Go.Proofs.YtnilikomoapcaaaGreat
open Go.RowKit Go.Maps
set_option linter.unusedVariables false
set_option linter.unusedSimpArgs false
set_option maxRecDepth 100000

theorem wpO_of_run {P : Program} {o : Oper} {a : Act} {w w' : World} {K : Act → World → Prop} {Q : Exit → Act → World → Prop} {v : Value} (h : (execOp a.eval o).run P w = .ok (.value v) w') (hk : K (a.put o.dst v) w') : o.wp P a w K Q := by
  unfold Oper.wp
  rw [h]
  exact hk
theorem wpO_of_skip {P : Program} {o : Oper} {a : Act} {w w' : World} {K : Act → World → Prop} {Q : Exit → Act → World → Prop} (h : (execOp a.eval o).run P w = .ok .skip w') (hk : K (a.put o.dst undef) w') : o.wp P a w K Q := by
  unfold Oper.wp
  rw [h]
  exact hk
theorem lookV1_run {w : World} {m n : Nat} {es : List (Key × Value)} (h : w.ownsMap Tryz.prog 9 heldO m n (toV es)) (s : ByteArray) (hs : s.size ≤ maxLen) :
    (Instr.lookup 83 (.map (some m)) (.string s) false).run Tryz.prog w = .ok (getV s.data.toList es) w := by
  obtain ⟨v, ps, hrun, hv⟩ := h.lookup lawS Tryz.underlying83 (zeroVRun w) (R := heldO) rfl (keyStrO s hs)
  rw [toV_at] at hv
  simp only [heldO, Option.some.injEq, Prod.mk.injEq, DataW.held.injEq] at hv
  rw [hrun, hv.1]
theorem rangeAt_spnAll {W : World} {m : Nat} {x : Spn} (h : W.heap[m]? = some (spnO x)) : W.rangeAt m 0 x.vals.toList := by
  intro j v hv
  rw [cell_of_block h, Nat.zero_add]
  simpa using hv
theorem build_span (x : Spn) (W : World) : (Instr.buildSlice 89 1 #[(0, .agg x.vals)]).run Tryz.prog W = .ok (.slice (some ⟨W.heap.size, 0, none⟩) 1 1) (W.alloc (spnO x)) := by kernel_rfl
abbrev al4 : Array Oper := #[{ dst := some 18, op := Go.Op.load 83 (Go.Operand.tmp 5), type := 83, pos := "marks.go:74", after := #[], guard := none }, { dst := some 19, op := Go.Op.fieldAddr 88 (Go.Operand.tmp 6) 2, type := 0, pos := "marks.go:74", after := #[], guard := none }, { dst := some 20, op := Go.Op.fieldAddr 39 (Go.Operand.tmp 19) 7, type := 0, pos := "marks.go:74", after := #[{ on := 1, ground := Go.Ground.data }], guard := none }, { dst := some 21, op := Go.Op.load 9 (Go.Operand.tmp 20), type := 9, pos := "marks.go:74", after := #[{ on := 2, ground := Go.Ground.data }], guard := none }, { dst := some 22, op := Go.Op.load 83 (Go.Operand.tmp 5), type := 83, pos := "marks.go:74", after := #[], guard := none }, { dst := some 23, op := Go.Op.fieldAddr 88 (Go.Operand.tmp 6) 2, type := 0, pos := "marks.go:74", after := #[], guard := none }, { dst := some 24, op := Go.Op.fieldAddr 39 (Go.Operand.tmp 23) 7, type := 0, pos := "marks.go:74", after := #[{ on := 5, ground := Go.Ground.data }], guard := none }, { dst := some 25, op := Go.Op.load 9 (Go.Operand.tmp 24), type := 9, pos := "marks.go:74", after := #[{ on := 6, ground := Go.Ground.data }], guard := none }, { dst := some 26, op := Go.Op.lookup 83 (Go.Operand.tmp 22) (Go.Operand.tmp 25) false, type := 89, pos := "marks.go:74", after := #[{ on := 4, ground := Go.Ground.data }, { on := 7, ground := Go.Ground.data }], guard := none }, { dst := some 27, op := Go.Op.load 88 (Go.Operand.tmp 6), type := 88, pos := "marks.go:74", after := #[], guard := none }, { dst := some 28, op := Go.Op.buildSlice 89 1 #[(0, Go.Operand.tmp 27)], type := 89, pos := "marks.go:74", after := #[{ on := 9, ground := Go.Ground.data }], guard := none }, { dst := some 29, op := Go.Op.call { callee := Go.Callee.builtin Go.Builtin.append, args := #[Go.Operand.tmp 26, Go.Operand.tmp 28], argTypes := #[89, 89] }, type := 89, pos := "marks.go:74", after := #[{ on := 8, ground := Go.Ground.data }, { on := 10, ground := Go.Ground.data }], guard := none }, { dst := none, op := Go.Op.mapUpdate 83 (Go.Operand.tmp 18) (Go.Operand.tmp 21) (Go.Operand.tmp 29), type := 0, pos := "marks.go:74", after := #[{ on := 0, ground := Go.Ground.data }, { on := 3, ground := Go.Ground.data }, { on := 11, ground := Go.Ground.data }, { on := 11, ground := Go.Ground.chain }, { on := 0, ground := Go.Ground.phase }, { on := 1, ground := Go.Ground.phase }, { on := 2, ground := Go.Ground.phase }, { on := 3, ground := Go.Ground.phase }, { on := 4, ground := Go.Ground.phase }, { on := 5, ground := Go.Ground.phase }, { on := 6, ground := Go.Ground.phase }, { on := 7, ground := Go.Ground.phase }, { on := 8, ground := Go.Ground.phase }, { on := 9, ground := Go.Ground.phase }, { on := 10, ground := Go.Ground.phase }, { on := 11, ground := Go.Ground.phase }], guard := none }]
set_option maxHeartbeats 8000000 in
theorem all_reg4 {qq nn : Nat} {Q : Exit → Act → World → Prop} {W : World} (hL : ¬ LetsOut (NoPanic Q)) (Bk X m n : Nat) (x : Spn) (es : List (Key × Value)) (t0 t1 t4 t13 t14 t15 t16 t17 : Value)
    (hb : W.heap[Bk]? = some (.cells #[.map (some m)] 83 (0, 0))) (hx : W.heap[X]? = some (spnO x)) (nb : Bk ≠ m) (nx : X ≠ m) (hown : W.ownsMap Tryz.prog 9 heldO m n (toV es)) (hn : n < maxLen) (hky : x.o.ky.size ≤ maxLen)
    (hA : ∀ V, Touch (fun _ => False) W V → ∃ v' w2, (Builtin.append_ #[89, 89] 89 #[getV x.o.ky.data.toList es, .slice (some ⟨V.heap.size, 0, none⟩) 1 1]).run Tryz.prog (V.alloc (spnO x)) = .ok v' w2 ∧ w2.ownsMap Tryz.prog 9 heldO m n (toV es) ∧ w2.heap[Bk]? = W.heap[Bk]? ∧ w2.heap[X]? = W.heap[X]? ∧
      ∀ W5, W5.ownsMap Tryz.prog 9 heldO m (n + 1) (toV (aput x.o.ky.data.toList v' es)) → w2.mapTurned W5 m → Q .normal { tmps := #[t0, t1, undef, undef, t4, .pointer (some ⟨Bk, 0, none⟩), .pointer (some ⟨X, 0, none⟩), undef, undef, undef, undef, undef, undef, t13, t14, t15, t16, t17, .map (some m), .pointer (some ⟨X, 2, none⟩), .pointer (some ⟨X, 15, none⟩), .string x.o.ky, .map (some m), .pointer (some ⟨X, 2, none⟩), .pointer (some ⟨X, 15, none⟩), .string x.o.ky, getV x.o.ky.data.toList es, .agg x.vals, .slice (some ⟨V.heap.size, 0, none⟩) 1 1, v', undef, undef, undef, undef, undef, undef, undef, undef, undef, undef, undef, undef, undef, undef, undef, undef, undef, undef, undef, undef, undef, undef, undef, undef, undef, undef, undef, undef, undef, undef, undef, undef, undef, undef, undef, undef, undef, undef, undef, undef, undef, undef, undef, undef, undef, undef, undef], defers := [] } W5) :
    (Code.region 4 al4 true).wpIn (Fence.wide.inRound qq) nn Tryz.prog Q { tmps := #[t0, t1, undef, undef, t4, .pointer (some ⟨Bk, 0, none⟩), .pointer (some ⟨X, 0, none⟩), undef, undef, undef, undef, undef, undef, t13, t14, t15, t16, t17, undef, undef, undef, undef, undef, undef, undef, undef, undef, undef, undef, undef, undef, undef, undef, undef, undef, undef, undef, undef, undef, undef, undef, undef, undef, undef, undef, undef, undef, undef, undef, undef, undef, undef, undef, undef, undef, undef, undef, undef, undef, undef, undef, undef, undef, undef, undef, undef, undef, undef, undef, undef, undef, undef, undef, undef, undef, undef, undef], defers := [] } W := by
  have hSof : ∀ V : World, V.heap[Bk]? = some (.cells #[.map (some m)] 83 (0, 0)) → V.heap[X]? = some (spnO x) → (V.cell? ⟨Bk, 0, none⟩ = some (.map (some m)) ∧ V.cell? ⟨X, 15, none⟩ = some (.string x.o.ky) ∧ V.rangeAt X 0 x.vals.toList) := fun V h1 h2 => ⟨by rw [cell_of_block h1]; rfl, by rw [cell_of_block h2]; rfl, rangeAt_spnAll h2⟩
  refine region_round (S := fun V => V.cell? ⟨Bk, 0, none⟩ = some (.map (some m)) ∧ V.cell? ⟨X, 15, none⟩ = some (.string x.o.ky) ∧ V.rangeAt X 0 x.vals.toList) hL (by kernel_rfl) (by kernel_rfl) ?_
  have tV : Touch (fun _ => False) W W.drew := (Touch.refl _ W).drew
  obtain ⟨V, hV⟩ : ∃ V, V = W.drew := ⟨_, rfl⟩
  rw [← hV] at tV ⊢
  clear hV
  have hbV := heap_keep tV hb
  have hxV := heap_keep tV hx
  have hoV := ownsO_touch hown tV id
  have hHeld := hSof V hbV hxV
  obtain ⟨v', w2, hrun, ho2, hb2, hx2, hQ⟩ := hA V tV
  have hend : wpAnyH Tryz.prog .any al4 (NoPanic Q) (fun V => V.cell? ⟨Bk, 0, none⟩ = some (.map (some m)) ∧ V.cell? ⟨X, 15, none⟩ = some (.string x.o.ky) ∧ V.rangeAt X 0 x.vals.toList) 2 #[true, true, true, true, true, true, true, true, true, true, true, false, false] { tmps := #[t0, t1, undef, undef, t4, .pointer (some ⟨Bk, 0, none⟩), .pointer (some ⟨X, 0, none⟩), undef, undef, undef, undef, undef, undef, t13, t14, t15, t16, t17, .map (some m), .pointer (some ⟨X, 2, none⟩), .pointer (some ⟨X, 15, none⟩), .string x.o.ky, .map (some m), .pointer (some ⟨X, 2, none⟩), .pointer (some ⟨X, 15, none⟩), .string x.o.ky, getV x.o.ky.data.toList es, .agg x.vals, .slice (some ⟨V.heap.size, 0, none⟩) 1 1, undef, undef, undef, undef, undef, undef, undef, undef, undef, undef, undef, undef, undef, undef, undef, undef, undef, undef, undef, undef, undef, undef, undef, undef, undef, undef, undef, undef, undef, undef, undef, undef, undef, undef, undef, undef, undef, undef, undef, undef, undef, undef, undef, undef, undef, undef, undef, undef], defers := [] } (V.alloc (spnO x)) := by
    refine wpAnyH_ready (rs := [11]) (by kernel_rfl) (by simp) ?_
    refine AllReadyH.cons (o := { dst := some 29, op := Go.Op.call { callee := Go.Callee.builtin Go.Builtin.append, args := #[Go.Operand.tmp 26, Go.Operand.tmp 28], argTypes := #[89, 89] }, type := 89, pos := "marks.go:74", after := #[{ on := 8, ground := Go.Ground.data }, { on := 10, ground := Go.Ground.data }], guard := none }) rfl (fun K hK => ?_) AllReadyH.nil
    rw [if_pos (by kernel_rfl)]
    refine wpO_of_run (v := v') (w' := w2) ?_ ?_
    · simp [execOp, resolve, invoke, builtin, Act.eval, hrun, Result.andThen]
    simp only [Act.put, List.setIfInBounds_toArray, List.set_cons_succ, List.set_cons_zero]
    refine hK.out _ _ (hSof w2 (hb2.trans hb) (hx2.trans hx)) (fun hH2 => ?_)
    clear hK K
    obtain ⟨W5, hr5, o5, t5⟩ := ho2.store lawS Tryz.underlying83 hn (keyStrO x.o.ky hky) (R := heldO) (d := .held v') (ps := []) (val := v') rfl
    rw [toV_put] at o5
    have q5 : Touch (fun k => k = m) w2 W5 := (Touch.refl (fun k => k = m) w2).grown t5.grown fun i e _ => by simpa using e.symm
    refine wpAnyH_ready (rs := [12]) (by kernel_rfl) (by simp) ?_
    refine AllReadyH.cons (o := { dst := none, op := Go.Op.mapUpdate 83 (Go.Operand.tmp 18) (Go.Operand.tmp 21) (Go.Operand.tmp 29), type := 0, pos := "marks.go:74", after := #[{ on := 0, ground := Go.Ground.data }, { on := 3, ground := Go.Ground.data }, { on := 11, ground := Go.Ground.data }, { on := 11, ground := Go.Ground.chain }, { on := 0, ground := Go.Ground.phase }, { on := 1, ground := Go.Ground.phase }, { on := 2, ground := Go.Ground.phase }, { on := 3, ground := Go.Ground.phase }, { on := 4, ground := Go.Ground.phase }, { on := 5, ground := Go.Ground.phase }, { on := 6, ground := Go.Ground.phase }, { on := 7, ground := Go.Ground.phase }, { on := 8, ground := Go.Ground.phase }, { on := 9, ground := Go.Ground.phase }, { on := 10, ground := Go.Ground.phase }, { on := 11, ground := Go.Ground.phase }], guard := none }) rfl (fun K hK => ?_) AllReadyH.nil
    rw [if_pos (by kernel_rfl)]
    refine wpO_of_skip (w' := W5) ?_ ?_
    · simp only [execOp, go_sem]
      simp [go_sem, hr5, Result.andThen]
    simp only [Act.put]
    refine hK.out _ _ (hSof W5 ((q5.block _ (lt_of_heap (hb2.trans hb)) nb).trans (hb2.trans hb)) ((q5.block _ (lt_of_heap (hx2.trans hx)) nx).trans (hx2.trans hx))) (fun hH3 => ?_)
    refine wpAnyH_done (by kernel_rfl) ?_ _
    exact hQ W5 o5 t5
  refine wpAnyH_take (i := 0) (oi := { dst := some 18, op := Go.Op.load 83 (Go.Operand.tmp 5), type := 83, pos := "marks.go:74", after := #[], guard := none }) (v := .map (some m)) rfl (by kernel_rfl) (by kernel_rfl) (by kernel_rfl) (fun _ _ _ h => h) (Or.inl ⟨by kernel_rfl, ?_⟩) hHeld ?_
  · intro V1 hV1; obtain ⟨c0, c1, c2⟩ := hV1; go_simp
  simp only [Act.put, List.setIfInBounds_toArray, List.set_cons_succ, List.set_cons_zero]
  refine wpAnyH_take (i := 1) (oi := { dst := some 19, op := Go.Op.fieldAddr 88 (Go.Operand.tmp 6) 2, type := 0, pos := "marks.go:74", after := #[], guard := none }) (v := .pointer (some ⟨X, 2, none⟩)) rfl (by kernel_rfl) (by kernel_rfl) (by kernel_rfl) (fun _ _ _ h => h) (Or.inl ⟨by kernel_rfl, ?_⟩) hHeld ?_
  · intro V1 hV1; go_simp
  simp only [Act.put, List.setIfInBounds_toArray, List.set_cons_succ, List.set_cons_zero]
  refine wpAnyH_take (i := 2) (oi := { dst := some 20, op := Go.Op.fieldAddr 39 (Go.Operand.tmp 19) 7, type := 0, pos := "marks.go:74", after := #[{ on := 1, ground := Go.Ground.data }], guard := none }) (v := .pointer (some ⟨X, 15, none⟩)) rfl (by kernel_rfl) (by kernel_rfl) (by kernel_rfl) (fun _ _ _ h => h) (Or.inl ⟨by kernel_rfl, ?_⟩) hHeld ?_
  · intro V1 hV1; go_simp
  simp only [Act.put, List.setIfInBounds_toArray, List.set_cons_succ, List.set_cons_zero]
  refine wpAnyH_take (i := 3) (oi := { dst := some 21, op := Go.Op.load 9 (Go.Operand.tmp 20), type := 9, pos := "marks.go:74", after := #[{ on := 2, ground := Go.Ground.data }], guard := none }) (v := .string x.o.ky) rfl (by kernel_rfl) (by kernel_rfl) (by kernel_rfl) (fun _ _ _ h => h) (Or.inl ⟨by kernel_rfl, ?_⟩) hHeld ?_
  · intro V1 hV1; obtain ⟨c0, c1, c2⟩ := hV1; go_simp
  simp only [Act.put, List.setIfInBounds_toArray, List.set_cons_succ, List.set_cons_zero]
  refine wpAnyH_take (i := 4) (oi := { dst := some 22, op := Go.Op.load 83 (Go.Operand.tmp 5), type := 83, pos := "marks.go:74", after := #[], guard := none }) (v := .map (some m)) rfl (by kernel_rfl) (by kernel_rfl) (by kernel_rfl) (fun _ _ _ h => h) (Or.inl ⟨by kernel_rfl, ?_⟩) hHeld ?_
  · intro V1 hV1; obtain ⟨c0, c1, c2⟩ := hV1; go_simp
  simp only [Act.put, List.setIfInBounds_toArray, List.set_cons_succ, List.set_cons_zero]
  refine wpAnyH_take (i := 5) (oi := { dst := some 23, op := Go.Op.fieldAddr 88 (Go.Operand.tmp 6) 2, type := 0, pos := "marks.go:74", after := #[], guard := none }) (v := .pointer (some ⟨X, 2, none⟩)) rfl (by kernel_rfl) (by kernel_rfl) (by kernel_rfl) (fun _ _ _ h => h) (Or.inl ⟨by kernel_rfl, ?_⟩) hHeld ?_
  · intro V1 hV1; go_simp
  simp only [Act.put, List.setIfInBounds_toArray, List.set_cons_succ, List.set_cons_zero]
  refine wpAnyH_take (i := 6) (oi := { dst := some 24, op := Go.Op.fieldAddr 39 (Go.Operand.tmp 23) 7, type := 0, pos := "marks.go:74", after := #[{ on := 5, ground := Go.Ground.data }], guard := none }) (v := .pointer (some ⟨X, 15, none⟩)) rfl (by kernel_rfl) (by kernel_rfl) (by kernel_rfl) (fun _ _ _ h => h) (Or.inl ⟨by kernel_rfl, ?_⟩) hHeld ?_
  · intro V1 hV1; go_simp
  simp only [Act.put, List.setIfInBounds_toArray, List.set_cons_succ, List.set_cons_zero]
  refine wpAnyH_take (i := 7) (oi := { dst := some 25, op := Go.Op.load 9 (Go.Operand.tmp 24), type := 9, pos := "marks.go:74", after := #[{ on := 6, ground := Go.Ground.data }], guard := none }) (v := .string x.o.ky) rfl (by kernel_rfl) (by kernel_rfl) (by kernel_rfl) (fun _ _ _ h => h) (Or.inl ⟨by kernel_rfl, ?_⟩) hHeld ?_
  · intro V1 hV1; obtain ⟨c0, c1, c2⟩ := hV1; go_simp
  simp only [Act.put, List.setIfInBounds_toArray, List.set_cons_succ, List.set_cons_zero]
  refine wpAnyH_take (i := 9) (oi := { dst := some 27, op := Go.Op.load 88 (Go.Operand.tmp 6), type := 88, pos := "marks.go:74", after := #[], guard := none }) (v := .agg x.vals) rfl (by kernel_rfl) (by kernel_rfl) (by kernel_rfl) (fun _ _ _ h => h) (yieldsIf_load_mid (by kernel_rfl) 88 (.tmp 6) rfl X 0 rfl x.vals.toList _ (fun V1 hV1 => hV1.2.2) Tryz.underlying88 rfl (by kernel_rfl)) hHeld ?_
  simp only [Act.put, List.setIfInBounds_toArray, List.set_cons_succ, List.set_cons_zero]
  refine wpAnyH_ready (rs := [8, 10]) (by kernel_rfl) (by simp) ?_
  refine AllReadyH.cons (o := { dst := some 26, op := Go.Op.lookup 83 (Go.Operand.tmp 22) (Go.Operand.tmp 25) false, type := 89, pos := "marks.go:74", after := #[{ on := 4, ground := Go.Ground.data }, { on := 7, ground := Go.Ground.data }], guard := none }) rfl (fun K hK => ?_) (AllReadyH.cons (o := { dst := some 28, op := Go.Op.buildSlice 89 1 #[(0, Go.Operand.tmp 27)], type := 89, pos := "marks.go:74", after := #[{ on := 9, ground := Go.Ground.data }], guard := none }) rfl (fun K hK => ?_) AllReadyH.nil)
  · rw [if_pos (by kernel_rfl)]
    refine wpO_of_run (v := getV x.o.ky.data.toList es) (w' := V) ?_ ?_
    · simp only [execOp, go_sem]
      simp [go_sem, lookV1_run hoV x.o.ky hky, Result.andThen]
    simp only [Act.put, List.setIfInBounds_toArray, List.set_cons_succ, List.set_cons_zero]
    refine hK.out _ _ hHeld (fun _ => ?_)
    clear hK K
    refine wpAnyH_ready (rs := [10]) (by kernel_rfl) (by simp) ?_
    refine AllReadyH.cons (o := { dst := some 28, op := Go.Op.buildSlice 89 1 #[(0, Go.Operand.tmp 27)], type := 89, pos := "marks.go:74", after := #[{ on := 9, ground := Go.Ground.data }], guard := none }) rfl (fun K hK => ?_) AllReadyH.nil
    rw [if_pos (by kernel_rfl)]
    refine wpO_of_run (v := .slice (some ⟨V.heap.size, 0, none⟩) 1 1) (w' := V.alloc (spnO x)) ?_ ?_
    · simp only [execOp, go_sem]
      simp [go_sem, build_span x V, Result.andThen]
    simp only [Act.put, List.setIfInBounds_toArray, List.set_cons_succ, List.set_cons_zero]
    exact hK.out _ _ (hSof _ (heap_keep ((Touch.refl _ V).alloc _) hbV) (heap_keep ((Touch.refl _ V).alloc _) hxV)) (fun _ => hend)
  · rw [if_pos (by kernel_rfl)]
    refine wpO_of_run (v := .slice (some ⟨V.heap.size, 0, none⟩) 1 1) (w' := V.alloc (spnO x)) ?_ ?_
    · simp only [execOp, go_sem]
      simp [go_sem, build_span x V, Result.andThen]
    simp only [Act.put, List.setIfInBounds_toArray, List.set_cons_succ, List.set_cons_zero]
    refine hK.out _ _ (hSof _ (heap_keep ((Touch.refl _ V).alloc _) hbV) (heap_keep ((Touch.refl _ V).alloc _) hxV)) (fun _ => ?_)
    clear hK K
    refine wpAnyH_ready (rs := [8]) (by kernel_rfl) (by simp) ?_
    refine AllReadyH.cons (o := { dst := some 26, op := Go.Op.lookup 83 (Go.Operand.tmp 22) (Go.Operand.tmp 25) false, type := 89, pos := "marks.go:74", after := #[{ on := 4, ground := Go.Ground.data }, { on := 7, ground := Go.Ground.data }], guard := none }) rfl (fun K hK => ?_) AllReadyH.nil
    rw [if_pos (by kernel_rfl)]
    refine wpO_of_run (v := getV x.o.ky.data.toList es) (w' := V.alloc (spnO x)) ?_ ?_
    · simp only [execOp, go_sem]
      simp [go_sem, lookV1_run (ownsO_touch (S := fun _ => False) hoV ((Touch.refl _ V).alloc _) id) x.o.ky hky, Result.andThen]
    simp only [Act.put, List.setIfInBounds_toArray, List.set_cons_succ, List.set_cons_zero]
    exact hK.out _ _ (hSof _ (heap_keep ((Touch.refl _ V).alloc _) hbV) (heap_keep ((Touch.refl _ V).alloc _) hxV)) (fun _ => hend)
end Go.Proofs.YtnilikomoapcaaaGreat
