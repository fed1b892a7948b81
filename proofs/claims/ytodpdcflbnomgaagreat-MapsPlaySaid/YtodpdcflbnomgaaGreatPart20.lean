/- The document's Maps in memory: Copy. -/
import Derived.Test.YtodpdcflbnomgaaGreatPlG
import Derived.Test.YtodpdcflbnomgaaGreatPart13
import Derived.Lib.AppendZeros
namespace Go.Proofs.YtodpdcflbnomgaaGreat
open Go.RowKit Go.Maps
set_option linter.unusedVariables false
set_option linter.unusedSimpArgs false
set_option maxRecDepth 100000

set_option maxHeartbeats 16000000 in
theorem rcopy_any {w : World} {b : Nat} {lv hv : Value} {L : List O} {H : List Rg} (h : RfC w b lv hv L H) (hl : L.length ≤ 1000000) (hh : H.length ≤ 1000000) :
    Calls Tryz.prog 8 #[.pointer (some ⟨b, 0, none⟩)] w fun e w' => ∃ b' lv' hv', e = .returned (.pointer (some ⟨b', 0, none⟩)) ∧ RfC w' b' lv' hv' L H ∧ w.heap.size ≤ b' ∧ (∀ k, lv'.ownBlock = some k → w.heap.size ≤ k) ∧ (∀ k, hv'.ownBlock = some k → w.heap.size ≤ k) ∧ Touch (fun _ => False) w w' := by
  have HR : Hid (∀ W, Touch (fun _ => False) w W → RfC W b lv hv L H) := fun W t => h.touch t
  obtain ⟨lo, lc, rfl, -, -, -⟩ := h.l.shape
  obtain ⟨ho, hc, rfl, -, -, -⟩ := h.h.shape
  have HAL : Hid (∀ V, Touch (fun _ => False) w V → ∃ po pn pc W, (Builtin.append_ #[28, 28] 28 #[.slice none 0 0, .slice lo L.length lc]).run Tryz.prog V = .ok (.slice po pn pc) W ∧ (SlP W (.slice po pn pc) L ∧ ∀ k, (Value.slice po pn pc).ownBlock = some k → V.heap.size ≤ k) ∧ Touch (fun _ => False) V W) := fun V t => by
    obtain ⟨ao, cap, e, h1, h2, h3, h4⟩ := (HR.out V t).l
    simp only [Value.slice.injEq] at e
    obtain ⟨rfl, -, rfl⟩ := e
    obtain ⟨v', W, hr, hN, -⟩ := (NewP.nil V V (Touch.refl _ _)).appO lo L.length lc L rfl h1 h4 (by simp; omega)
    rw [List.nil_append] at hN
    have hs := hN.sl
    obtain ⟨po, pc, rfl, -⟩ := hs.shape
    exact ⟨po, _, pc, W, hr, ⟨hs, hN.fresh⟩, hN.touch⟩
  have HAH : Hid (∀ V, Touch (fun _ => False) w V → ∃ po pn pc W, (Builtin.append_ #[29, 29] 29 #[.slice none 0 0, .slice ho H.length hc]).run Tryz.prog V = .ok (.slice po pn pc) W ∧ (SlR W (.slice po pn pc) H ∧ ∀ k, (Value.slice po pn pc).ownBlock = some k → V.heap.size ≤ k) ∧ Touch (fun _ => False) V W) := fun V t => by
    obtain ⟨ao, cap, e, h1, h2, h3, h4⟩ := (HR.out V t).h
    simp only [Value.slice.injEq] at e
    obtain ⟨rfl, -, rfl⟩ := e
    obtain ⟨v', W, hr, hN, -⟩ := (NewR.nil V V (Touch.refl _ _)).app ho H.length hc H rfl h1 h4 (by simp; omega)
    rw [List.nil_append] at hN
    have hs := hN.sl
    obtain ⟨po, pc, rfl, -⟩ := hs.shape
    exact ⟨po, _, pc, W, hr, ⟨hs, hN.fresh⟩, hN.touch⟩
  generalize hnn : L.length = n at *
  generalize hmm : H.length = m at *
  have HS : Hid (∀ V, Touch (fun _ => False) w V → V.cell? ⟨b, 0, none⟩ = some (.slice lo n lc) ∧ V.cell? ⟨b, 1, none⟩ = some (.slice ho m hc)) := fun V t => ⟨(HR.out V t).c0, (HR.out V t).c1⟩
  clear h HR hnn hmm hl hh
  go_enter Tryz.func8, Tryz.ntmps8
  go_upto_region 1 with fail
  refine wp_region_held_drew (S := fun V => V.cell? ⟨b, 0, none⟩ = some (.slice lo n lc) ∧ V.cell? ⟨b, 1, none⟩ = some (.slice ho m hc)) (by kernel_rfl) (HS.out _ (Touch.refl _ w).drew) (fun hHeld => ?_)
  obtain ⟨V, hV⟩ : ∃ V, Hid (V = w.drew) := ⟨_, Eq.refl _⟩
  have HTV : Hid (Touch (fun _ => False) w V) := by rw [hV.out]; exact (Touch.refl _ _).drew
  rw [← hV.out] at hHeld ⊢
  clear hV
  refine wpAnyH_take (i := 0) (oi := { dst := some 3, op := Op.move (Operand.tmp 0), type := 27, pos := "quireref12.go:108", after := #[], guard := none }) (v := (.pointer (some ⟨b, 0, none⟩))) rfl (by kernel_rfl) (by kernel_rfl) (by kernel_rfl) (fun _ _ _ h => h) (Or.inl ⟨by kernel_rfl, ?_⟩) hHeld ?_
  · intro V1 hV1; clear hV1; go_simp
  simp only [Act.put, List.setIfInBounds_toArray, List.set_cons_succ, List.set_cons_zero]
  refine wpAnyH_take (i := 1) (oi := { dst := some 4, op := Op.nilCheck (Operand.tmp 3), type := 0, pos := "quireref12.go:108", after := #[{ on := 0, ground := Ground.data }], guard := none }) (v := (.pointer (some ⟨b, 0, none⟩))) rfl (by kernel_rfl) (by kernel_rfl) (by kernel_rfl) (fun _ _ _ h => h) (Or.inl ⟨by kernel_rfl, ?_⟩) hHeld ?_
  · intro V1 hV1; clear hV1; go_simp
  simp only [Act.put, List.setIfInBounds_toArray, List.set_cons_succ, List.set_cons_zero]
  refine wpAnyH_take (i := 2) (oi := { dst := some 5, op := Op.fieldAddr 31 (Operand.tmp 4) 0, type := 0, pos := "quireref12.go:108", after := #[{ on := 1, ground := Ground.data }], guard := none }) (v := (.pointer (some ⟨b, 0, none⟩))) rfl (by kernel_rfl) (by kernel_rfl) (by kernel_rfl) (fun _ _ _ h => h) (Or.inl ⟨by kernel_rfl, ?_⟩) hHeld ?_
  · intro V1 hV1; clear hV1; go_simp
  simp only [Act.put, List.setIfInBounds_toArray, List.set_cons_succ, List.set_cons_zero]
  refine wpAnyH_take (i := 3) (oi := { dst := some 6, op := Op.load 28 (Operand.tmp 5), type := 28, pos := "quireref12.go:108", after := #[{ on := 2, ground := Ground.data }], guard := none }) (v := (.slice lo n lc)) rfl (by kernel_rfl) (by kernel_rfl) (by kernel_rfl) (fun _ _ _ h => h) (Or.inl ⟨by kernel_rfl, ?_⟩) hHeld ?_
  · intro V1 hV1; obtain ⟨s0, -⟩ := hV1; go_simp
  simp only [Act.put, List.setIfInBounds_toArray, List.set_cons_succ, List.set_cons_zero]
  refine wpAnyH_take (i := 5) (oi := { dst := some 8, op := Op.move (Operand.tmp 0), type := 27, pos := "quireref12.go:108", after := #[], guard := none }) (v := (.pointer (some ⟨b, 0, none⟩))) rfl (by kernel_rfl) (by kernel_rfl) (by kernel_rfl) (fun _ _ _ h => h) (Or.inl ⟨by kernel_rfl, ?_⟩) hHeld ?_
  · intro V1 hV1; clear hV1; go_simp
  simp only [Act.put, List.setIfInBounds_toArray, List.set_cons_succ, List.set_cons_zero]
  refine wpAnyH_take (i := 6) (oi := { dst := some 9, op := Op.nilCheck (Operand.tmp 8), type := 0, pos := "quireref12.go:108", after := #[{ on := 5, ground := Ground.data }], guard := none }) (v := (.pointer (some ⟨b, 0, none⟩))) rfl (by kernel_rfl) (by kernel_rfl) (by kernel_rfl) (fun _ _ _ h => h) (Or.inl ⟨by kernel_rfl, ?_⟩) hHeld ?_
  · intro V1 hV1; clear hV1; go_simp
  simp only [Act.put, List.setIfInBounds_toArray, List.set_cons_succ, List.set_cons_zero]
  refine wpAnyH_take (i := 7) (oi := { dst := some 10, op := Op.fieldAddr 31 (Operand.tmp 9) 1, type := 0, pos := "quireref12.go:108", after := #[{ on := 6, ground := Ground.data }], guard := none }) (v := (.pointer (some ⟨b, 1, none⟩))) rfl (by kernel_rfl) (by kernel_rfl) (by kernel_rfl) (fun _ _ _ h => h) (Or.inl ⟨by kernel_rfl, ?_⟩) hHeld ?_
  · intro V1 hV1; clear hV1; go_simp
  simp only [Act.put, List.setIfInBounds_toArray, List.set_cons_succ, List.set_cons_zero]
  refine wpAnyH_take (i := 8) (oi := { dst := some 11, op := Op.load 29 (Operand.tmp 10), type := 29, pos := "quireref12.go:108", after := #[{ on := 7, ground := Ground.data }], guard := none }) (v := (.slice ho m hc)) rfl (by kernel_rfl) (by kernel_rfl) (by kernel_rfl) (fun _ _ _ h => h) (Or.inl ⟨by kernel_rfl, ?_⟩) hHeld ?_
  · intro V1 hV1; obtain ⟨-, s1⟩ := hV1; go_simp
  simp only [Act.put, List.setIfInBounds_toArray, List.set_cons_succ, List.set_cons_zero]
  refine wpAnyH_ready (rs := [4]) (by kernel_rfl) (by simp) ?_
  refine AllReadyH.cons (o := { dst := some 7, op := Op.call { callee := Callee.builtin Builtin.append, args := #[Operand.const (Value.slice none 0 0), Operand.tmp 6], argTypes := #[28, 28] }, type := 28, pos := "quireref12.go:108", after := #[{ on := 3, ground := Ground.data }], guard := none }) rfl (fun K hK => ?_) AllReadyH.nil
  · rw [if_pos (by kernel_rfl)]
    obtain ⟨po, pn, pc, W1, hrp, hnp, ttp⟩ := HAL.out V HTV.out
    refine wpO_of_run (v := .slice po pn pc) (w' := W1) ?_ ?_
    · simp [execOp, resolve, invoke, builtin, Act.eval, hrp, Result.andThen]
    simp only [Act.put, List.setIfInBounds_toArray, List.set_cons_succ, List.set_cons_zero]
    have HT1 : Hid (Touch (fun _ => False) w W1 ∧ SlP W1 (.slice po pn pc) L ∧ ∀ k, (Value.slice po pn pc).ownBlock = some k → w.heap.size ≤ k) := ⟨HTV.out.trans ttp, hnp.1, fun k hk => Nat.le_trans HTV.out.size (hnp.2 k hk)⟩
    clear hrp hnp ttp HTV
    refine hK.out _ _ (HS.out _ HT1.out.1) (fun hHeld => ?_)
    clear hK K
    refine wpAnyH_ready (rs := [9]) (by kernel_rfl) (by simp) ?_
    refine AllReadyH.cons (o := { dst := some 12, op := Op.call { callee := Callee.builtin Builtin.append, args := #[Operand.const (Value.slice none 0 0), Operand.tmp 11], argTypes := #[29, 29] }, type := 29, pos := "quireref12.go:108", after := #[{ on := 8, ground := Ground.data }, { on := 4, ground := Ground.chain }], guard := none }) rfl (fun K hK => ?_) AllReadyH.nil
    rw [if_pos (by kernel_rfl)]
    obtain ⟨qo, qn, qc, W2, hrq, hnq, ttq⟩ := HAH.out W1 HT1.out.1
    refine wpO_of_run (v := .slice qo qn qc) (w' := W2) ?_ ?_
    · simp [execOp, resolve, invoke, builtin, Act.eval, hrq, Result.andThen]
    simp only [Act.put, List.setIfInBounds_toArray, List.set_cons_succ, List.set_cons_zero]
    have HT2 : Hid (Touch (fun _ => False) w W2 ∧ SlP W2 (.slice po pn pc) L ∧ SlR W2 (.slice qo qn qc) H ∧ (∀ k, (Value.slice po pn pc).ownBlock = some k → w.heap.size ≤ k) ∧ (∀ k, (Value.slice qo qn qc).ownBlock = some k → w.heap.size ≤ k)) := ⟨HT1.out.1.trans ttq, HT1.out.2.1.touch ttq, hnq.1, HT1.out.2.2, fun k hk => Nat.le_trans HT1.out.1.size (hnq.2 k hk)⟩
    clear hrq hnq ttq HT1
    refine hK.out _ _ (HS.out _ HT2.out.1) (fun hHeld => ?_)
    clear hK K
    refine wpAnyH_take (i := 10) (oi := { dst := some 13, op := Op.build 31 #[(0, Operand.tmp 7), (1, Operand.tmp 12)], type := 31, pos := "quireref12.go:108", after := #[{ on := 4, ground := Ground.data }, { on := 9, ground := Ground.data }], guard := none }) (v := (.agg #[.slice po pn pc, .slice qo qn qc])) rfl (by kernel_rfl) (by kernel_rfl) (by kernel_rfl) (fun _ _ _ h => h) (Or.inl ⟨by kernel_rfl, ?_⟩) hHeld ?_
    · intro V1 hV1; clear hV1; go_simp
    simp only [Act.put, List.setIfInBounds_toArray, List.set_cons_succ, List.set_cons_zero]
    refine wpAnyH_ready (rs := [11]) (by kernel_rfl) (by simp) ?_
    refine AllReadyH.cons (o := { dst := some 14, op := Op.box 31 (Operand.tmp 13), type := 27, pos := "quireref12.go:108", after := #[{ on := 10, ground := Ground.data }], guard := none }) rfl (fun K hK => ?_) AllReadyH.nil
    rw [if_pos (by kernel_rfl)]
    refine wpO_of_run (v := .pointer (some ⟨W2.heap.size, 0, none⟩)) (w' := W2.alloc (.cells #[.slice po pn pc, .slice qo qn qc] 31)) ?_ ?_
    · go_simp
    simp only [Act.put, List.setIfInBounds_toArray, List.set_cons_succ, List.set_cons_zero]
    obtain ⟨W3, hW3⟩ : ∃ W, Hid (W = W2.alloc (.cells #[.slice po pn pc, .slice qo qn qc] 31)) := ⟨_, Eq.refl _⟩
    obtain ⟨X, hX⟩ : ∃ X, Hid (X = W2.heap.size) := ⟨_, Eq.refl _⟩
    have HT3 : Hid (Touch (fun _ => False) W2 W3 ∧ W3.heap[X]? = some (.cells #[.slice po pn pc, .slice qo qn qc] 31 (0, 0)) ∧ W2.heap.size ≤ X) := by rw [hX.out, hW3.out]; exact ⟨(Touch.refl _ _).alloc _, heap_alloc_new _ _, Nat.le_refl _⟩
    rw [← hW3.out, ← hX.out]
    clear hW3 hX
    refine hK.out _ _ (HS.out _ (HT2.out.1.trans HT3.out.1)) (fun hHeld => ?_)
    clear hK K
    refine wpAnyH_take (i := 12) (oi := { dst := some 2, op := Op.assign (Operand.tmp 14), type := 27, pos := "quireref12.go:108", after := #[{ on := 11, ground := Ground.data }, { on := 9, ground := Ground.chain }, { on := 0, ground := Ground.phase }, { on := 1, ground := Ground.phase }, { on := 2, ground := Ground.phase }, { on := 3, ground := Ground.phase }, { on := 4, ground := Ground.phase }, { on := 5, ground := Ground.phase }, { on := 6, ground := Ground.phase }, { on := 7, ground := Ground.phase }, { on := 8, ground := Ground.phase }, { on := 9, ground := Ground.phase }, { on := 10, ground := Ground.phase }, { on := 11, ground := Ground.phase }], guard := none }) (v := (.pointer (some ⟨X, 0, none⟩))) rfl (by kernel_rfl) (by kernel_rfl) (by kernel_rfl) (fun _ _ _ h => h) (Or.inl ⟨by kernel_rfl, ?_⟩) hHeld ?_
    · intro V1 hV1; clear hV1; go_simp
    simp only [Act.put, List.setIfInBounds_toArray, List.set_cons_succ, List.set_cons_zero]
    refine wpAnyH_done (by kernel_rfl) ?_ _
    try simp only [List.getElem_toArray, List.getElem_cons_succ, List.getElem_cons_zero, List.setIfInBounds_toArray, List.set_cons_succ, List.set_cons_zero]
    clear hHeld HS HAL HAH
    have HQ : Hid (RfC W3 X (.slice po pn pc) (.slice qo qn qc) L H ∧ w.heap.size ≤ X ∧ (∀ k, (Value.slice po pn pc).ownBlock = some k → w.heap.size ≤ k) ∧ (∀ k, (Value.slice qo qn qc).ownBlock = some k → w.heap.size ≤ k) ∧ Touch (fun _ => False) w W3) := ⟨⟨HT3.out.2.1, HT2.out.2.1.touch HT3.out.1, HT2.out.2.2.1.touch HT3.out.1⟩, Nat.le_trans HT2.out.1.size HT3.out.2.2, HT2.out.2.2.2.1, HT2.out.2.2.2.2, HT2.out.1.trans HT3.out.1⟩
    clear HT2 HT3
    go_wp2_with fail
    go_ret
    exact ⟨_, _, _, rfl, HQ.out⟩
end Go.Proofs.YtodpdcflbnomgaaGreat

/- Package maps: a map's keys are ids; slices.Clone of a rank. -/
namespace Go.Proofs.YtodpdcflbnomgaaGreat
open Go.RowKit Go.Maps
set_option linter.unusedVariables false
set_option linter.unusedSimpArgs false
set_option maxRecDepth 100000

theorem u64_of_wf {x : Int} (h : (Lit.int .u64 x).wf = true) : U64 x := by
  have e1 : IntKind.u64.min = 0 := by decide
  have e2 : IntKind.u64.max = 18446744073709551615 := by decide
  simp [Lit.wf, e1, e2] at h
  exact ⟨by omega, by omega⟩
theorem keyLits_u64_inv {d : Nat} {x : Value} {ls : List Lit} (h : Tryz.prog.keyLits (d + 1) 32 [x] = some ls) : ∃ n, x = .int .u64 n ∧ U64 n := by
  unfold Program.keyLits at h
  rw [Tryz.underlying32] at h
  cases x with
  | int q n =>
    simp only at h
    split at h
    · rename_i hc
      obtain ⟨rfl, hw⟩ := hc
      exact ⟨n, rfl, u64_of_wf hw⟩
    · cases h
  | _ => simp at h
/-- A key of a map by ids is an id. -/
theorem keyI_inv {v : Value} {kl : Lit} (h : keyOf Tryz.prog 34 v = some kl) : ∃ c k, v = idV c k ∧ U64 c ∧ U64 k ∧ kl = .string (kI c k) := by
  have h0 := h
  have hu := Tryz.underlying34
  have hc2 : Tryz.prog.cellsOf 34 = 2 := by kernel_rfl
  have hc1 : Tryz.prog.cellsOf 32 = 1 := by kernel_rfl
  have hp : 1 < Tryz.prog.types.size := of_decide_eq_true (by kernel_rfl)
  obtain ⟨n, hs⟩ : ∃ n, Tryz.prog.types.size = (n + 1) + 1 := ⟨Tryz.prog.types.size - 2, by omega⟩
  clear hp
  unfold keyOf at h
  rw [hu] at h
  simp only at h
  split at h
  · rename_i hq
    rw [Bool.and_eq_true] at hq
    have hf := hq.2
    cases v with
    | agg cs =>
      unfold Value.formed at hf
      rw [hu] at hf
      simp only [hc2, beq_iff_eq] at hf
      obtain ⟨cs⟩ := cs
      match cs, hf with
      | [a, b], _ =>
        rw [Option.map_eq_some_iff] at h
        obtain ⟨ls, hl, _⟩ := h
        rw [hs] at hl
        unfold Program.keyLits at hl
        rw [hu] at hl
        have hv : (Value.agg #[a, b]).cells.toList = [a, b] := rfl
        rw [hv] at hl
        simp only [hc2, List.length_cons, List.length_nil] at hl
        rw [if_pos ⟨trivial, by kernel_rfl⟩] at hl
        rw [Option.map_eq_some_iff] at hl
        obtain ⟨lss, hl, _⟩ := hl
        simp only [List.mapM_cons, List.mapM_nil, hc1, List.drop_zero, List.drop_succ_cons, List.take_succ_cons, List.take_zero] at hl
        cases e1 : Tryz.prog.keyLits (n + 1 + 1) 32 [a] with
        | none => rw [e1] at hl; simp at hl
        | some l1 =>
          cases e2 : Tryz.prog.keyLits (n + 1 + 1) 32 [b] with
          | none => rw [e1, e2] at hl; simp at hl
          | some l2 =>
            obtain ⟨c, rfl, hc⟩ := keyLits_u64_inv e1
            obtain ⟨k, rfl, hk⟩ := keyLits_u64_inv e2
            refine ⟨c, k, rfl, hc, hk, ?_⟩
            rw [show (Value.agg #[.int .u64 c, .int .u64 k]) = idV c k from rfl, keyI hc hk] at h0
            exact (Option.some.inj h0).symm
    | _ => unfold Value.formed at hf; rw [hu] at hf; simp at hf
  · cases h
set_option maxHeartbeats 8000000 in
/-- A rank of one's own. -/
theorem cloneP_any {w : World} {v : Value} {l : List O} (h : SlP w v l) (hl : l.length ≤ 1000000) :
    Calls Tryz.prog 30 #[v] w fun e w' => ∃ v', e = .returned v' ∧ NewP w w' v' l := by
  have heq := Lib.run_eql_slice_nil (P := Tryz.prog)
  obtain ⟨ao, cap, rfl, h1, h2, h3, h4⟩ := h
  cases ao with
  | none =>
    have hL : l = [] := by
      rcases h4 with h | ⟨_, _, e, _⟩
      · exact h
      · cases e
    subst hL
    have hc := h1 rfl
    subst hc
    clear h1 h2 h3 h4 hl
    go_enter Tryz.func30, Tryz.ntmps30
    go_wp2_with fail
    go_ret
    exact ⟨_, rfl, NewP.nil w w (Touch.refl _ _)⟩
  | some ad =>
    have bz : ∀ W : World, (Instr.buildSlice 68 0 #[]).run Tryz.prog W = .ok (.slice (some ⟨W.heap.size, 0, none⟩) 0 0) (W.alloc (.cells #[] 41)) := fun W => by kernel_rfl
    have hT : Touch (fun _ => False) w (w.alloc (.cells #[] 41)) := (Touch.refl _ _).alloc _
    have hown : NewP w (w.alloc (.cells #[] 41)) (.slice (some ⟨w.heap.size, 0, none⟩) 0 0) [] := ⟨⟨rfl, .inr ⟨w.heap.size, 0, #[], rfl, Nat.zero_le _, heap_alloc_new w _, Nat.le_refl _, by unfold maxLen; omega, rfl, rfl⟩⟩, hT, fun k hk => by simp only [Value.ownBlock, Option.some.injEq] at hk; omega⟩
    have hs2 : LiesP (w.alloc (.cells #[] 41)) (some ad) l := by
      have hs : SlP w (.slice (some ad) l.length cap) l := ⟨_, cap, rfl, h1, h2, h3, h4⟩
      obtain ⟨ao', cap', e, -, -, -, h5⟩ := hs.touch hT
      simp only [Value.slice.injEq] at e
      obtain ⟨rfl, -, -⟩ := e
      exact h5
    obtain ⟨v', w', hrun, hN, -⟩ := hown.app (some ad) l.length cap l rfl (fun h => by cases h) hs2 (by simp; omega)
    rw [List.nil_append] at hN
    have HR : Hid ((Builtin.append_ #[68, 68] 68 #[.slice (some ⟨w.heap.size, 0, none⟩) 0 0, .slice (some ad) l.length cap]).run Tryz.prog (w.alloc (.cells #[] 41)) = .ok v' w') := hrun
    have HF : Hid (NewP w w' v' l) := hN
    clear hown hrun hN hT hs2 h1 h2 h3 h4 hl
    go_enter Tryz.func30, Tryz.ntmps30
    go_upto_region 3 with fail
    refine wp_region_lit ?_
    iterate 2 (refine wpList_plain rfl fun K hK => ?_; go_simp; refine hK _ _ ?_; clear hK K)
    refine wpList_append_runP rfl (.tmp 5) (.tmp 6) rfl _ _ _ rfl rfl HR.out ?_
    simp only [Act.put, List.setIfInBounds_toArray, List.set_cons_succ, List.set_cons_zero]
    clear HR
    obtain ⟨ao9, cap9, rfl, -⟩ := HF.out.sl.shape
    go_wp2_with fail
    go_ret
    exact ⟨_, rfl, HF.out⟩
end Go.Proofs.YtodpdcflbnomgaaGreat
