/- The document's Maps in memory: Find. -/
import Derived.Test.YtodpdcflbnomgaaGreatPlD
import Derived.Test.YtodpdcflbnomgaaGreatPart15
namespace Go.Proofs.YtodpdcflbnomgaaGreat
open Go.RowKit
set_option linter.unusedVariables false
set_option linter.unusedSimpArgs false
set_option maxRecDepth 100000

set_option maxHeartbeats 16000000 in
theorem rfind_any {w : World} {b : Nat} {lv hv : Value} {L : List O} {HH : List Rg} (h : RfC w b lv hv L HH) (hHl : HH.length ≤ 1073741824) (v : Value) (ks : List Key) (hv : StrsAt w v ks) (hkl : ks.length ≤ 1000000) :
    Calls Tryz.prog 13 #[.pointer (some ⟨b, 0, none⟩), v] w fun e w' => e = .returned (.tuple #[idV (findR HH L 0 0 ks).1 (findR HH L 0 0 ks).2.1, .bool (findR HH L 0 0 ks).2.2]) ∧ Touch (fun _ => False) w w' := by
  have HG : Hid (∀ c k ky W, Touch (fun _ => False) w W → Calls Tryz.prog 10 #[.pointer (some ⟨b, 0, none⟩), idV c k, .string ky] W fun e w' => e = .returned (.tuple #[(getR HH L c k ky).1.val, .bool (getR HH L c k ky).2]) ∧ Touch (fun _ => False) W w') := fun c k ky W t => rget_any (h.touch t) hHl c k ky
  obtain ⟨so, scap, rfl, hst0⟩ := hv
  have HSt : Hid (∀ i (h : i < ks.length), ∃ b o, so = some ⟨b, o, none⟩ ∧ ∀ W, Touch (fun _ => False) w W → W.cell? ⟨b, o + i, none⟩ = some (.string (strK ks[i]))) := hst0
  obtain ⟨B, hB⟩ : ∃ B, Hid (B = w.heap.size) := ⟨_, Eq.refl _⟩
  obtain ⟨E, hE⟩ : ∃ E, Hid (E = w.alloc zeroId) := ⟨_, Eq.refl _⟩
  have HTE : Hid (Touch (fun _ => False) w E ∧ E.heap[B]? = some (idO 0 0)) := by rw [hE.out, hB.out]; exact ⟨(Touch.refl _ _).alloc _, heap_alloc_new _ _⟩
  obtain ⟨R, hR⟩ : ∃ R, Hid (R = findR HH L 0 0 ks) := ⟨_, Eq.refl _⟩
  rw [← hR.out]
  clear h hst0
  go_enter Tryz.func13, Tryz.ntmps13
  go_upto_region 1 with fail
  rw [← hE.out, ← hB.out]
  clear hE
  refine wp_region_lit ?_
  iterate 2 (refine wpList_plain rfl fun K hK => ?_; go_simp; refine hK _ _ ?_; clear hK K)
  obtain ⟨A0, hA0⟩ : ∃ A, Hid (A = E.heap.size) := ⟨_, Eq.refl _⟩
  refine wpList_store_mid rfl 34 (.tmp 6) (.tmp 10) rfl E.heap.size 0 #[.int .u64 0, .int .u64 0] rfl rfl (there_ofS (heap_alloc_new E zeroId) 0 2 (by decide)) (by kernel_rfl) (by kernel_rfl) ?_
  simp only [Act.put]
  obtain ⟨W1, hW1⟩ : ∃ W, Hid (W = (E.alloc zeroId).setCells E.heap.size 0 [.int .u64 0, .int .u64 0]) := ⟨_, Eq.refl _⟩
  have HT1 : Hid (Touch (fun _ => False) w W1 ∧ W1.heap[B]? = some (idO 0 0) ∧ W1.heap[A0]? = some (idO 0 0) ∧ B < A0 ∧ w.heap.size ≤ B) := by
    have t1 : Touch (fun _ => False) E W1 := by rw [hW1.out]; exact ((Touch.refl _ _).alloc _).stores (Nat.le_refl _) 0 _
    refine ⟨HTE.out.1.trans t1, (t1.block B (lt_of_heap HTE.out.2) id).trans HTE.out.2, ?_, by rw [hA0.out]; exact lt_of_heap HTE.out.2, by rw [hB.out]; exact Nat.le_refl _⟩
    rw [hW1.out, hA0.out]
    exact id_stored (heap_alloc_new E zeroId) 0 0
  rw [← hW1.out, ← hA0.out]
  clear hW1 hA0 HTE
  go_wp2_with fail
  go_loopg [7] ks.length (fun gk s14 wr => ∃ (i : Nat) (c k : Int), i + gk = ks.length ∧ s14 = .int .i64 (i : Int) ∧ Hid (Touch (fun _ => False) w wr ∧ wr.heap[B]? = some (idO 0 0) ∧ wr.heap[A0]? = some (idO c k) ∧ R = findR HH L c k (ks.drop i)))
  case atStart => exact ⟨0, 0, 0, by omega, rfl, HT1.out.1, HT1.out.2.1, HT1.out.2.2.1, hR.out⟩
  case round =>
    obtain ⟨i, c, k, hig, rfl, HI⟩ := hrel
    have hk1 : ks.length ≤ 9223372036854775807 := by omega
    by_cases hil : i < ks.length
    · obtain ⟨sb, sof, rfl, hst⟩ := HSt.out i hil
      have HStr : Hid (∀ W, Touch (fun _ => False) w W → W.cell? ⟨sb, sof + i, none⟩ = some (.string (strK ks[i]))) := hst
      have hi1 : (0 : Int) ≤ (i : Int) := by omega
      have hi2 : (i : Int) < (ks.length : Int) := by omega
      have hdr : ks.drop i = ks[i] :: ks.drop (i + 1) := List.drop_eq_getElem_cons hil
      have HRi : Hid (R = if (getR HH L c k (strK ks[i])).2 = true ∧ isMapB (getR HH L c k (strK ks[i])).1 = true then findR HH L (getR HH L c k (strK ks[i])).1.c (getR HH L c k (strK ks[i])).1.k (ks.drop (i + 1)) else (0, 0, false)) := by
        have := HI.out.2.2.2
        rw [hdr] at this
        exact this
      have HIl : Hid (i < ks.length) := hil
      have HT : Hid (Touch (fun _ => False) w wr ∧ wr.heap[B]? = some (idO 0 0) ∧ wr.heap[A0]? = some (idO c k)) := ⟨HI.out.1, HI.out.2.1, HI.out.2.2.1⟩
      have HGet : Hid (∀ W, Touch (fun _ => False) wr W → Calls Tryz.prog 10 #[.pointer (some ⟨b, 0, none⟩), idV c k, .string (strK ks[i])] W fun e w' => e = .returned (.tuple #[(getR HH L c k (strK ks[i])).1.val, .bool (getR HH L c k (strK ks[i])).2]) ∧ Touch (fun _ => False) W w') := fun W t => HG.out c k (strK ks[i]) W (HT.out.1.trans t)
      generalize hgs : getR HH L c k (strK ks[i]) = GH at HRi HGet
      generalize hky : strK ks[i] = ky at HStr HGet
      have HS : Hid (∀ V, Touch (fun _ => False) wr V → V.cell? ⟨A0, 0, none⟩ = some (.int .u64 c) ∧ V.cell? ⟨A0, 1, none⟩ = some (.int .u64 k) ∧ V.cell? ⟨sb, sof + i, none⟩ = some (.string ky)) := fun V t => by
        have p := (t.block A0 (lt_of_heap HT.out.2.2) id).trans HT.out.2.2
        exact ⟨by rw [cell_of_block p]; rfl, by rw [cell_of_block p]; rfl, HStr.out V (HT.out.1.trans t)⟩
      obtain ⟨G, Hb⟩ := GH
      simp only at HGet HRi
      clear hgs hky hil hdr HI hst HStr
      go_upto_region 5 with fail
      refine wp_region_held_drew (S := fun V => V.cell? ⟨A0, 0, none⟩ = some (.int .u64 c) ∧ V.cell? ⟨A0, 1, none⟩ = some (.int .u64 k) ∧ V.cell? ⟨sb, sof + i, none⟩ = some (.string ky)) (by kernel_rfl) (HS.out _ (Touch.refl _ wr).drew) (fun hHeld => ?_)
      have HTV : Hid (Touch (fun _ => False) wr wr.drew) := (Touch.refl _ _).drew
      obtain ⟨V, hV⟩ : ∃ V, Hid (V = wr.drew) := ⟨_, Eq.refl _⟩
      rw [← hV.out] at hHeld HTV ⊢
      clear hV
      refine wpAnyH_take (i := 0) (oi := { dst := some 18, op := Op.move (Operand.tmp 0), type := 27, pos := "quireref12.go:60", after := #[], guard := none }) (v := (.pointer (some ⟨b, 0, none⟩))) rfl (by kernel_rfl) (by kernel_rfl) (by kernel_rfl) (fun _ _ _ h => h) (Or.inl ⟨by kernel_rfl, ?_⟩) hHeld ?_
      · intro V1 hV1; clear hV1; go_simp
      simp only [Act.put, List.setIfInBounds_toArray, List.set_cons_succ, List.set_cons_zero]
      refine wpAnyH_take (i := 1) (oi := { dst := some 19, op := Op.load 34 (Operand.tmp 6), type := 34, pos := "quireref12.go:60", after := #[], guard := none }) (v := (.agg #[.int .u64 c, .int .u64 k])) rfl (by kernel_rfl) (by kernel_rfl) (by kernel_rfl) (fun _ _ _ h => h) (Or.inl ⟨by kernel_rfl, ?_⟩) hHeld ?_
      · intro V1 hV1; obtain ⟨a0, a1, s0⟩ := hV1; go_simp
      simp only [Act.put, List.setIfInBounds_toArray, List.set_cons_succ, List.set_cons_zero]
      refine wpAnyH_take (i := 2) (oi := { dst := some 20, op := Op.move (Operand.tmp 1), type := 42, pos := "quireref12.go:60", after := #[], guard := none }) (v := (.slice (some ⟨sb, sof, none⟩) ks.length scap)) rfl (by kernel_rfl) (by kernel_rfl) (by kernel_rfl) (fun _ _ _ h => h) (Or.inl ⟨by kernel_rfl, ?_⟩) hHeld ?_
      · intro V1 hV1; clear hV1; go_simp
      simp only [Act.put, List.setIfInBounds_toArray, List.set_cons_succ, List.set_cons_zero]
      refine wpAnyH_take (i := 3) (oi := { dst := some 21, op := Op.move (Operand.tmp 7), type := 3, pos := "quireref12.go:60", after := #[], guard := none }) (v := (.int .i64 (i : Int))) rfl (by kernel_rfl) (by kernel_rfl) (by kernel_rfl) (fun _ _ _ h => h) (Or.inl ⟨by kernel_rfl, ?_⟩) hHeld ?_
      · intro V1 hV1; clear hV1; go_simp
      simp only [Act.put, List.setIfInBounds_toArray, List.set_cons_succ, List.set_cons_zero]
      refine wpAnyH_take (i := 4) (oi := { dst := some 22, op := Op.indexAddr 42 (Operand.tmp 20) (Operand.tmp 21), type := 0, pos := "quireref12.go:60", after := #[{ on := 2, ground := Ground.data }, { on := 3, ground := Ground.data }], guard := none }) (v := (.pointer (some ⟨sb, sof + i, none⟩))) rfl (by kernel_rfl) (by kernel_rfl) (by kernel_rfl) (fun _ _ _ h => h) (Or.inl ⟨by kernel_rfl, ?_⟩) hHeld ?_
      · intro V1 hV1; clear hV1; go_simp
      simp only [Act.put, List.setIfInBounds_toArray, List.set_cons_succ, List.set_cons_zero]
      refine wpAnyH_take (i := 5) (oi := { dst := some 23, op := Op.load 9 (Operand.tmp 22), type := 9, pos := "quireref12.go:60", after := #[{ on := 4, ground := Ground.data }], guard := none }) (v := (.string ky)) rfl (by kernel_rfl) (by kernel_rfl) (by kernel_rfl) (fun _ _ _ h => h) (Or.inl ⟨by kernel_rfl, ?_⟩) hHeld ?_
      · intro V1 hV1; obtain ⟨a0, a1, s0⟩ := hV1; go_simp
      simp only [Act.put, List.setIfInBounds_toArray, List.set_cons_succ, List.set_cons_zero]
      refine wpAnyH_ready (rs := [6, 10]) (by kernel_rfl) (by simp) ?_
      refine AllReadyH.cons (o := { dst := some 24, op := Op.call { callee := Callee.value (Operand.func 10), args := #[Operand.tmp 18, Operand.tmp 19, Operand.tmp 23], argTypes := #[27, 34, 9] }, type := 49, pos := "quireref12.go:60", after := #[{ on := 0, ground := Ground.data }, { on := 1, ground := Ground.data }, { on := 5, ground := Ground.data }], guard := none }) rfl (fun K hK => ?_) (AllReadyH.cons (o := { dst := some 8, op := Op.alloc 41, type := 0, pos := "quireref12.go:60", after := #[], guard := none }) rfl (fun K hK => ?_) AllReadyH.nil)
      · rw [if_pos (by kernel_rfl)]
        go_simp
        refine (HGet.out V HTV.out).mono ?_
        rintro e w2 ⟨rfl, t2⟩
        have HT2 : Hid (Touch (fun _ => False) wr w2) := HTV.out.trans t2
        clear t2 HTV
        refine hK.out _ _ (HS.out _ HT2.out) (fun hHeld => ?_)
        clear hK K
        refine wpAnyH_take (i := 7) (oi := { dst := some 17, op := Op.move (Operand.tmp 24), type := 49, pos := "quireref12.go:60", after := #[{ on := 6, ground := Ground.data }], guard := none }) (v := (.tuple #[.agg G.vals, .bool Hb])) rfl (by kernel_rfl) (by kernel_rfl) (by kernel_rfl) (fun _ _ _ h => h) (Or.inl ⟨by kernel_rfl, ?_⟩) hHeld ?_
        · intro V1 hV1; clear hV1; go_simp
        simp only [Act.put, List.setIfInBounds_toArray, List.set_cons_succ, List.set_cons_zero]
        refine wpAnyH_take (i := 8) (oi := { dst := some 25, op := Op.extract (Operand.tmp 17) 0, type := 41, pos := "quireref12.go:60", after := #[{ on := 7, ground := Ground.data }], guard := none }) (v := (.agg G.vals)) rfl (by kernel_rfl) (by kernel_rfl) (by kernel_rfl) (fun _ _ _ h => h) (Or.inl ⟨by kernel_rfl, ?_⟩) hHeld ?_
        · intro V1 hV1; clear hV1; go_simp
        simp only [Act.put, List.setIfInBounds_toArray, List.set_cons_succ, List.set_cons_zero]
        refine wpAnyH_take (i := 9) (oi := { dst := some 26, op := Op.extract (Operand.tmp 17) 1, type := 4, pos := "quireref12.go:60", after := #[{ on := 7, ground := Ground.data }, { on := 11, ground := Ground.gcOnly Departure.lateStores }], guard := none }) (v := (.bool Hb)) rfl (by kernel_rfl) (by kernel_rfl) (by kernel_rfl) (fun _ _ _ h => h) (Or.inl ⟨by kernel_rfl, ?_⟩) hHeld ?_
        · intro V1 hV1; clear hV1; go_simp
        simp only [Act.put, List.setIfInBounds_toArray, List.set_cons_succ, List.set_cons_zero]
        refine wpAnyH_ready (rs := [10]) (by kernel_rfl) (by simp) ?_
        refine AllReadyH.cons (o := { dst := some 8, op := Op.alloc 41, type := 0, pos := "quireref12.go:60", after := #[], guard := none }) rfl (fun K hK => ?_) AllReadyH.nil
        rw [if_pos (by kernel_rfl)]
        refine wpO_of_run (v := .pointer (some ⟨w2.heap.size, 0, none⟩)) (w' := w2.alloc zeroOp) ?_ ?_
        · go_simp
        simp only [Act.put, List.setIfInBounds_toArray, List.set_cons_succ, List.set_cons_zero]
        have HT3 : Hid (Touch (fun _ => False) wr (w2.alloc zeroOp)) := HT2.out.alloc _
        refine hK.out _ _ (HS.out _ HT3.out) (fun hHeld => ?_)
        clear hK K
        obtain ⟨X, hX⟩ : ∃ X, Hid (X = w2.heap.size) := ⟨_, Eq.refl _⟩
        obtain ⟨W3, hW3⟩ : ∃ W3, Hid (W3 = w2.alloc zeroOp) := ⟨_, Eq.refl _⟩
        have HBX : Hid (OpAt X zeroO W3 ∧ wr.heap.size ≤ X) := by rw [hX.out, hW3.out]; exact ⟨heap_alloc_new _ _, HT2.out.size⟩
        rw [← hX.out, ← hW3.out]
        rw [← hW3.out] at HT3 hHeld
        clear hX hW3 HT2
        refine wpAnyH_ready (rs := [11]) (by kernel_rfl) (by simp) ?_
        refine AllReadyH.cons (o := { dst := none, op := Op.store 41 (Operand.tmp 8) (Operand.tmp 25), type := 0, pos := "quireref12.go:60", after := #[{ on := 10, ground := Ground.data }, { on := 8, ground := Ground.data }, { on := 6, ground := Ground.chain }, { on := 0, ground := Ground.phase }, { on := 1, ground := Ground.phase }, { on := 2, ground := Ground.phase }, { on := 3, ground := Ground.phase }, { on := 4, ground := Ground.phase }, { on := 5, ground := Ground.phase }, { on := 6, ground := Ground.phase }, { on := 7, ground := Ground.phase }, { on := 8, ground := Ground.phase }, { on := 9, ground := Ground.textOnly Departure.lateStores }, { on := 10, ground := Ground.phase }], guard := none }) rfl (fun K hK => ?_) AllReadyH.nil
        rw [if_pos (by kernel_rfl)]
        refine wp_store_mid 41 (.tmp 8) (.tmp 25) rfl X 0 G.vals rfl rfl (HBX.out.1.there 0 22 (by decide)) (by kernel_rfl) (by kernel_rfl) ?_
        simp only [Act.put]
        obtain ⟨W4, hW4⟩ : ∃ W4, Hid (W4 = W3.setCells X 0 G.vals.toList) := ⟨_, Eq.refl _⟩
        have HT4 : Hid (Touch (fun _ => False) wr W4 ∧ OpAt X G W4 ∧ wr.heap.size ≤ X) := by rw [hW4.out]; exact ⟨HT3.out.stores HBX.out.2 0 _, HBX.out.1.store0, HBX.out.2⟩
        rw [← hW4.out]
        clear hW4 HT3 HBX
        refine hK.out _ _ (HS.out _ HT4.out.1) (fun hHeld => ?_)
        clear hK K
        refine wpAnyH_take (i := 12) (oi := { dst := some 9, op := Op.assign (Operand.tmp 26), type := 4, pos := "quireref12.go:60", after := #[{ on := 9, ground := Ground.data }, { on := 11, ground := Ground.chain }, { on := 0, ground := Ground.phase }, { on := 1, ground := Ground.phase }, { on := 2, ground := Ground.phase }, { on := 3, ground := Ground.phase }, { on := 4, ground := Ground.phase }, { on := 5, ground := Ground.phase }, { on := 6, ground := Ground.phase }, { on := 7, ground := Ground.phase }, { on := 8, ground := Ground.phase }, { on := 9, ground := Ground.phase }, { on := 10, ground := Ground.phase }, { on := 11, ground := Ground.phase }], guard := none }) (v := (.bool Hb)) rfl (by kernel_rfl) (by kernel_rfl) (by kernel_rfl) (fun _ _ _ h => h) (Or.inl ⟨by kernel_rfl, ?_⟩) hHeld ?_
        · intro V1 hV1; clear hV1; go_simp
        simp only [Act.put, List.setIfInBounds_toArray, List.set_cons_succ, List.set_cons_zero]
        refine wpAnyH_done (by kernel_rfl) ?_ _
        try simp only [List.getElem_toArray, List.getElem_cons_succ, List.getElem_cons_zero, List.setIfInBounds_toArray, List.set_cons_succ, List.set_cons_zero]
        clear hHeld HS HGet
        have HT5 : Hid (Touch (fun _ => False) w W4 ∧ W4.heap[B]? = some (idO 0 0) ∧ W4.heap[A0]? = some (idO c k) ∧ OpAt X G W4) := ⟨HT.out.1.trans HT4.out.1, (HT4.out.1.block B (lt_of_heap HT.out.2.1) id).trans HT.out.2.1, (HT4.out.1.block A0 (lt_of_heap HT.out.2.2) id).trans HT.out.2.2, HT4.out.2.1⟩
        clear HT4 HT
        have v9 := HT5.out.2.2.2.q9
        generalize Value.agg G.vals = gv
        cases Hb with
        | false =>
          have HR0 : Hid (R = (0, 0, false)) := by have := HRi.out; rw [if_neg (by simp)] at this; exact this
          clear HRi v9
          go_upto_region 7 with fail
          refine wp_region_lit ?_
          iterate 1 (refine wpList_plain rfl fun K hK => ?_; go_simp; refine hK _ _ ?_; clear hK K)
          refine wpList_store_mid rfl 34 (.tmp 4) (.tmp 35) rfl B 0 #[.int .u64 0, .int .u64 0] rfl rfl (there_ofS HT5.out.2.1 0 2 (Nat.le_refl 2)) (by kernel_rfl) (by kernel_rfl) ?_
          simp only [Act.put]
          obtain ⟨W6, hW6⟩ : ∃ W, Hid (W = W4.setCells B 0 [.int .u64 0, .int .u64 0]) := ⟨_, Eq.refl _⟩
          have HT6 : Hid (Touch (fun _ => False) w W6 ∧ W6.heap[B]? = some (idO 0 0)) := by rw [hW6.out]; exact ⟨HT5.out.1.stores HT1.out.2.2.2.2 0 _, id_stored HT5.out.2.1 _ _⟩
          rw [← hW6.out]
          clear hW6 HT5
          go_wp2_with fail
          have hLd := run_loadVar_mid (P := Tryz.prog) W6 B 0 34 [.int .u64 0, .int .u64 0] _ (rangeAt_id HT6.out.2) Tryz.underlying34 rfl (by kernel_rfl)
          refine bodyPost_ret (v := .tuple #[idV 0 0, .bool false]) ?_ rfl ⟨by rw [HR0.out], HT6.out.1⟩
          simp [results, Tryz.results13, asAddr, hLd]
        | true =>
          cases e1 : (G.vk == 5) with
          | false =>
            have HR0 : Hid (R = (0, 0, false)) := by have := HRi.out; rw [if_neg (by unfold isMapB; simpa using e1)] at this; exact this
            clear HRi
            go_upto_region 7 with fail
            refine wp_region_lit ?_
            iterate 1 (refine wpList_plain rfl fun K hK => ?_; go_simp; refine hK _ _ ?_; clear hK K)
            refine wpList_store_mid rfl 34 (.tmp 4) (.tmp 35) rfl B 0 #[.int .u64 0, .int .u64 0] rfl rfl (there_ofS HT5.out.2.1 0 2 (Nat.le_refl 2)) (by kernel_rfl) (by kernel_rfl) ?_
            simp only [Act.put]
            obtain ⟨W6, hW6⟩ : ∃ W, Hid (W = W4.setCells B 0 [.int .u64 0, .int .u64 0]) := ⟨_, Eq.refl _⟩
            have HT6 : Hid (Touch (fun _ => False) w W6 ∧ W6.heap[B]? = some (idO 0 0)) := by rw [hW6.out]; exact ⟨HT5.out.1.stores HT1.out.2.2.2.2 0 _, id_stored HT5.out.2.1 _ _⟩
            rw [← hW6.out]
            clear hW6 HT5
            go_wp2_with fail
            have hLd := run_loadVar_mid (P := Tryz.prog) W6 B 0 34 [.int .u64 0, .int .u64 0] _ (rangeAt_id HT6.out.2) Tryz.underlying34 rfl (by kernel_rfl)
            refine bodyPost_ret (v := .tuple #[idV 0 0, .bool false]) ?_ rfl ⟨by rw [HR0.out], HT6.out.1⟩
            simp [results, Tryz.results13, asAddr, hLd]
          | true =>
            have HR0 : Hid (R = findR HH L G.c G.k (ks.drop (i + 1))) := by have := HRi.out; rw [if_pos ⟨rfl, by unfold isMapB; simpa using e1⟩] at this; exact this
            clear HRi
            have h0 := HT5.out.2.2.2.idAt
            go_upto_region 8 with fail
            refine wp_region_lit ?_
            iterate 1 (refine wpList_plain rfl fun K hK => ?_; go_simp; refine hK _ _ ?_; clear hK K)
            refine wpList_load_mid rfl 34 (.tmp 36) rfl X 0 rfl [.int .u64 G.c, .int .u64 G.k] _ h0 Tryz.underlying34 rfl (by kernel_rfl) ?_
            simp only [Act.put, List.setIfInBounds_toArray, List.set_cons_succ, List.set_cons_zero]
            refine wpList_store_mid rfl 34 (.tmp 6) (.tmp 37) rfl A0 0 #[.int .u64 G.c, .int .u64 G.k] rfl rfl (there_ofS HT5.out.2.2.1 0 2 (Nat.le_refl 2)) (by kernel_rfl) (by kernel_rfl) ?_
            simp only [Act.put]
            obtain ⟨W6, hW6⟩ : ∃ W, Hid (W = W4.setCells A0 0 [.int .u64 G.c, .int .u64 G.k]) := ⟨_, Eq.refl _⟩
            have HT6 : Hid (Touch (fun _ => False) w W6 ∧ W6.heap[B]? = some (idO 0 0) ∧ W6.heap[A0]? = some (idO G.c G.k) ∧ R = findR HH L G.c G.k (ks.drop (i + 1))) := by
              rw [hW6.out]
              have tc := Touch.cells A0 [.int .u64 G.c, .int .u64 G.k] 0 W4
              exact ⟨HT5.out.1.stores (by have := HT1.out.2.2.2; omega) 0 _, (tc.block B (lt_of_heap HT5.out.2.1) (by have := HT1.out.2.2.2.1; omega)).trans HT5.out.2.1, id_stored HT5.out.2.2.1 _ _, HR0.out⟩
            rw [← hW6.out]
            clear hW6 HT5 h0 HR0 v9
            go_wp2_with fail
            go_roundg (ks.length - (i + 1))
            case measure => have := HIl.out; omega
            case rel => exact ⟨i + 1, _, _, by have := HIl.out; omega, by go_num, HT6.out⟩
      · rw [if_pos (by kernel_rfl)]
        refine wpO_of_run (v := .pointer (some ⟨V.heap.size, 0, none⟩)) (w' := V.alloc zeroOp) ?_ ?_
        · go_simp
        simp only [Act.put, List.setIfInBounds_toArray, List.set_cons_succ, List.set_cons_zero]
        have HT2 : Hid (Touch (fun _ => False) wr (V.alloc zeroOp)) := HTV.out.alloc _
        refine hK.out _ _ (HS.out _ HT2.out) (fun hHeld => ?_)
        clear hK K
        obtain ⟨X, hX⟩ : ∃ X, Hid (X = V.heap.size) := ⟨_, Eq.refl _⟩
        obtain ⟨w2, hw2⟩ : ∃ W3, Hid (W3 = V.alloc zeroOp) := ⟨_, Eq.refl _⟩
        have HBX2 : Hid (OpAt X zeroO w2 ∧ wr.heap.size ≤ X) := by rw [hX.out, hw2.out]; exact ⟨heap_alloc_new _ _, HTV.out.size⟩
        rw [← hX.out, ← hw2.out]
        rw [← hw2.out] at HT2 hHeld
        clear hX hw2 HTV
        refine wpAnyH_ready (rs := [6]) (by kernel_rfl) (by simp) ?_
        refine AllReadyH.cons (o := { dst := some 24, op := Op.call { callee := Callee.value (Operand.func 10), args := #[Operand.tmp 18, Operand.tmp 19, Operand.tmp 23], argTypes := #[27, 34, 9] }, type := 49, pos := "quireref12.go:60", after := #[{ on := 0, ground := Ground.data }, { on := 1, ground := Ground.data }, { on := 5, ground := Ground.data }], guard := none }) rfl (fun K hK => ?_) AllReadyH.nil
        rw [if_pos (by kernel_rfl)]
        go_simp
        refine (HGet.out w2 HT2.out).mono ?_
        rintro e W3 ⟨rfl, t2⟩
        have HT3 : Hid (Touch (fun _ => False) wr W3) := HT2.out.trans t2
        have HBX : Hid (OpAt X zeroO W3 ∧ wr.heap.size ≤ X) := ⟨HBX2.out.1.keep t2, HBX2.out.2⟩
        clear t2 HBX2 HT2
        refine hK.out _ _ (HS.out _ HT3.out) (fun hHeld => ?_)
        clear hK K
        refine wpAnyH_take (i := 7) (oi := { dst := some 17, op := Op.move (Operand.tmp 24), type := 49, pos := "quireref12.go:60", after := #[{ on := 6, ground := Ground.data }], guard := none }) (v := (.tuple #[.agg G.vals, .bool Hb])) rfl (by kernel_rfl) (by kernel_rfl) (by kernel_rfl) (fun _ _ _ h => h) (Or.inl ⟨by kernel_rfl, ?_⟩) hHeld ?_
        · intro V1 hV1; clear hV1; go_simp
        simp only [Act.put, List.setIfInBounds_toArray, List.set_cons_succ, List.set_cons_zero]
        refine wpAnyH_take (i := 8) (oi := { dst := some 25, op := Op.extract (Operand.tmp 17) 0, type := 41, pos := "quireref12.go:60", after := #[{ on := 7, ground := Ground.data }], guard := none }) (v := (.agg G.vals)) rfl (by kernel_rfl) (by kernel_rfl) (by kernel_rfl) (fun _ _ _ h => h) (Or.inl ⟨by kernel_rfl, ?_⟩) hHeld ?_
        · intro V1 hV1; clear hV1; go_simp
        simp only [Act.put, List.setIfInBounds_toArray, List.set_cons_succ, List.set_cons_zero]
        refine wpAnyH_take (i := 9) (oi := { dst := some 26, op := Op.extract (Operand.tmp 17) 1, type := 4, pos := "quireref12.go:60", after := #[{ on := 7, ground := Ground.data }, { on := 11, ground := Ground.gcOnly Departure.lateStores }], guard := none }) (v := (.bool Hb)) rfl (by kernel_rfl) (by kernel_rfl) (by kernel_rfl) (fun _ _ _ h => h) (Or.inl ⟨by kernel_rfl, ?_⟩) hHeld ?_
        · intro V1 hV1; clear hV1; go_simp
        simp only [Act.put, List.setIfInBounds_toArray, List.set_cons_succ, List.set_cons_zero]
        refine wpAnyH_ready (rs := [11]) (by kernel_rfl) (by simp) ?_
        refine AllReadyH.cons (o := { dst := none, op := Op.store 41 (Operand.tmp 8) (Operand.tmp 25), type := 0, pos := "quireref12.go:60", after := #[{ on := 10, ground := Ground.data }, { on := 8, ground := Ground.data }, { on := 6, ground := Ground.chain }, { on := 0, ground := Ground.phase }, { on := 1, ground := Ground.phase }, { on := 2, ground := Ground.phase }, { on := 3, ground := Ground.phase }, { on := 4, ground := Ground.phase }, { on := 5, ground := Ground.phase }, { on := 6, ground := Ground.phase }, { on := 7, ground := Ground.phase }, { on := 8, ground := Ground.phase }, { on := 9, ground := Ground.textOnly Departure.lateStores }, { on := 10, ground := Ground.phase }], guard := none }) rfl (fun K hK => ?_) AllReadyH.nil
        rw [if_pos (by kernel_rfl)]
        refine wp_store_mid 41 (.tmp 8) (.tmp 25) rfl X 0 G.vals rfl rfl (HBX.out.1.there 0 22 (by decide)) (by kernel_rfl) (by kernel_rfl) ?_
        simp only [Act.put]
        obtain ⟨W4, hW4⟩ : ∃ W4, Hid (W4 = W3.setCells X 0 G.vals.toList) := ⟨_, Eq.refl _⟩
        have HT4 : Hid (Touch (fun _ => False) wr W4 ∧ OpAt X G W4 ∧ wr.heap.size ≤ X) := by rw [hW4.out]; exact ⟨HT3.out.stores HBX.out.2 0 _, HBX.out.1.store0, HBX.out.2⟩
        rw [← hW4.out]
        clear hW4 HT3 HBX
        refine hK.out _ _ (HS.out _ HT4.out.1) (fun hHeld => ?_)
        clear hK K
        refine wpAnyH_take (i := 12) (oi := { dst := some 9, op := Op.assign (Operand.tmp 26), type := 4, pos := "quireref12.go:60", after := #[{ on := 9, ground := Ground.data }, { on := 11, ground := Ground.chain }, { on := 0, ground := Ground.phase }, { on := 1, ground := Ground.phase }, { on := 2, ground := Ground.phase }, { on := 3, ground := Ground.phase }, { on := 4, ground := Ground.phase }, { on := 5, ground := Ground.phase }, { on := 6, ground := Ground.phase }, { on := 7, ground := Ground.phase }, { on := 8, ground := Ground.phase }, { on := 9, ground := Ground.phase }, { on := 10, ground := Ground.phase }, { on := 11, ground := Ground.phase }], guard := none }) (v := (.bool Hb)) rfl (by kernel_rfl) (by kernel_rfl) (by kernel_rfl) (fun _ _ _ h => h) (Or.inl ⟨by kernel_rfl, ?_⟩) hHeld ?_
        · intro V1 hV1; clear hV1; go_simp
        simp only [Act.put, List.setIfInBounds_toArray, List.set_cons_succ, List.set_cons_zero]
        refine wpAnyH_done (by kernel_rfl) ?_ _
        try simp only [List.getElem_toArray, List.getElem_cons_succ, List.getElem_cons_zero, List.setIfInBounds_toArray, List.set_cons_succ, List.set_cons_zero]
        clear hHeld HS HGet
        have HT5 : Hid (Touch (fun _ => False) w W4 ∧ W4.heap[B]? = some (idO 0 0) ∧ W4.heap[A0]? = some (idO c k) ∧ OpAt X G W4) := ⟨HT.out.1.trans HT4.out.1, (HT4.out.1.block B (lt_of_heap HT.out.2.1) id).trans HT.out.2.1, (HT4.out.1.block A0 (lt_of_heap HT.out.2.2) id).trans HT.out.2.2, HT4.out.2.1⟩
        clear HT4 HT
        have v9 := HT5.out.2.2.2.q9
        generalize Value.agg G.vals = gv
        cases Hb with
        | false =>
          have HR0 : Hid (R = (0, 0, false)) := by have := HRi.out; rw [if_neg (by simp)] at this; exact this
          clear HRi v9
          go_upto_region 7 with fail
          refine wp_region_lit ?_
          iterate 1 (refine wpList_plain rfl fun K hK => ?_; go_simp; refine hK _ _ ?_; clear hK K)
          refine wpList_store_mid rfl 34 (.tmp 4) (.tmp 35) rfl B 0 #[.int .u64 0, .int .u64 0] rfl rfl (there_ofS HT5.out.2.1 0 2 (Nat.le_refl 2)) (by kernel_rfl) (by kernel_rfl) ?_
          simp only [Act.put]
          obtain ⟨W6, hW6⟩ : ∃ W, Hid (W = W4.setCells B 0 [.int .u64 0, .int .u64 0]) := ⟨_, Eq.refl _⟩
          have HT6 : Hid (Touch (fun _ => False) w W6 ∧ W6.heap[B]? = some (idO 0 0)) := by rw [hW6.out]; exact ⟨HT5.out.1.stores HT1.out.2.2.2.2 0 _, id_stored HT5.out.2.1 _ _⟩
          rw [← hW6.out]
          clear hW6 HT5
          go_wp2_with fail
          have hLd := run_loadVar_mid (P := Tryz.prog) W6 B 0 34 [.int .u64 0, .int .u64 0] _ (rangeAt_id HT6.out.2) Tryz.underlying34 rfl (by kernel_rfl)
          refine bodyPost_ret (v := .tuple #[idV 0 0, .bool false]) ?_ rfl ⟨by rw [HR0.out], HT6.out.1⟩
          simp [results, Tryz.results13, asAddr, hLd]
        | true =>
          cases e1 : (G.vk == 5) with
          | false =>
            have HR0 : Hid (R = (0, 0, false)) := by have := HRi.out; rw [if_neg (by unfold isMapB; simpa using e1)] at this; exact this
            clear HRi
            go_upto_region 7 with fail
            refine wp_region_lit ?_
            iterate 1 (refine wpList_plain rfl fun K hK => ?_; go_simp; refine hK _ _ ?_; clear hK K)
            refine wpList_store_mid rfl 34 (.tmp 4) (.tmp 35) rfl B 0 #[.int .u64 0, .int .u64 0] rfl rfl (there_ofS HT5.out.2.1 0 2 (Nat.le_refl 2)) (by kernel_rfl) (by kernel_rfl) ?_
            simp only [Act.put]
            obtain ⟨W6, hW6⟩ : ∃ W, Hid (W = W4.setCells B 0 [.int .u64 0, .int .u64 0]) := ⟨_, Eq.refl _⟩
            have HT6 : Hid (Touch (fun _ => False) w W6 ∧ W6.heap[B]? = some (idO 0 0)) := by rw [hW6.out]; exact ⟨HT5.out.1.stores HT1.out.2.2.2.2 0 _, id_stored HT5.out.2.1 _ _⟩
            rw [← hW6.out]
            clear hW6 HT5
            go_wp2_with fail
            have hLd := run_loadVar_mid (P := Tryz.prog) W6 B 0 34 [.int .u64 0, .int .u64 0] _ (rangeAt_id HT6.out.2) Tryz.underlying34 rfl (by kernel_rfl)
            refine bodyPost_ret (v := .tuple #[idV 0 0, .bool false]) ?_ rfl ⟨by rw [HR0.out], HT6.out.1⟩
            simp [results, Tryz.results13, asAddr, hLd]
          | true =>
            have HR0 : Hid (R = findR HH L G.c G.k (ks.drop (i + 1))) := by have := HRi.out; rw [if_pos ⟨rfl, by unfold isMapB; simpa using e1⟩] at this; exact this
            clear HRi
            have h0 := HT5.out.2.2.2.idAt
            go_upto_region 8 with fail
            refine wp_region_lit ?_
            iterate 1 (refine wpList_plain rfl fun K hK => ?_; go_simp; refine hK _ _ ?_; clear hK K)
            refine wpList_load_mid rfl 34 (.tmp 36) rfl X 0 rfl [.int .u64 G.c, .int .u64 G.k] _ h0 Tryz.underlying34 rfl (by kernel_rfl) ?_
            simp only [Act.put, List.setIfInBounds_toArray, List.set_cons_succ, List.set_cons_zero]
            refine wpList_store_mid rfl 34 (.tmp 6) (.tmp 37) rfl A0 0 #[.int .u64 G.c, .int .u64 G.k] rfl rfl (there_ofS HT5.out.2.2.1 0 2 (Nat.le_refl 2)) (by kernel_rfl) (by kernel_rfl) ?_
            simp only [Act.put]
            obtain ⟨W6, hW6⟩ : ∃ W, Hid (W = W4.setCells A0 0 [.int .u64 G.c, .int .u64 G.k]) := ⟨_, Eq.refl _⟩
            have HT6 : Hid (Touch (fun _ => False) w W6 ∧ W6.heap[B]? = some (idO 0 0) ∧ W6.heap[A0]? = some (idO G.c G.k) ∧ R = findR HH L G.c G.k (ks.drop (i + 1))) := by
              rw [hW6.out]
              have tc := Touch.cells A0 [.int .u64 G.c, .int .u64 G.k] 0 W4
              exact ⟨HT5.out.1.stores (by have := HT1.out.2.2.2; omega) 0 _, (tc.block B (lt_of_heap HT5.out.2.1) (by have := HT1.out.2.2.2.1; omega)).trans HT5.out.2.1, id_stored HT5.out.2.2.1 _ _, HR0.out⟩
            rw [← hW6.out]
            clear hW6 HT5 h0 HR0 v9
            go_wp2_with fail
            go_roundg (ks.length - (i + 1))
            case measure => have := HIl.out; omega
            case rel => exact ⟨i + 1, _, _, by have := HIl.out; omega, by go_num, HT6.out⟩
    · have : i = ks.length := by omega
      subst this
      have HR0 : Hid (R = (c, k, true)) := by
        have := HI.out.2.2.2
        rw [List.drop_length] at this
        exact this
      have HT : Hid (Touch (fun _ => False) w wr ∧ wr.heap[B]? = some (idO 0 0) ∧ wr.heap[A0]? = some (idO c k)) := ⟨HI.out.1, HI.out.2.1, HI.out.2.2.1⟩
      clear HI HSt HG
      go_upto_region 9 with fail
      refine wp_region_lit ?_
      refine wpList_load_mid rfl 34 (.tmp 6) rfl A0 0 rfl [.int .u64 c, .int .u64 k] _ (rangeAt_id HT.out.2.2) Tryz.underlying34 rfl (by kernel_rfl) ?_
      simp only [Act.put, List.setIfInBounds_toArray, List.set_cons_succ, List.set_cons_zero]
      refine wpList_store_mid rfl 34 (.tmp 4) (.tmp 38) rfl B 0 #[.int .u64 c, .int .u64 k] rfl rfl (there_ofS HT.out.2.1 0 2 (Nat.le_refl 2)) (by kernel_rfl) (by kernel_rfl) ?_
      simp only [Act.put]
      obtain ⟨W6, hW6⟩ : ∃ W, Hid (W = wr.setCells B 0 [.int .u64 c, .int .u64 k]) := ⟨_, Eq.refl _⟩
      have HT6 : Hid (Touch (fun _ => False) w W6 ∧ W6.heap[B]? = some (idO c k)) := by rw [hW6.out]; exact ⟨HT.out.1.stores HT1.out.2.2.2.2 0 _, id_stored HT.out.2.1 _ _⟩
      rw [← hW6.out]
      clear hW6 HT
      go_wp2_with fail
      have hLd := run_loadVar_mid (P := Tryz.prog) W6 B 0 34 [.int .u64 c, .int .u64 k] _ (rangeAt_id HT6.out.2) Tryz.underlying34 rfl (by kernel_rfl)
      refine bodyPost_ret (v := .tuple #[idV c k, .bool true]) ?_ rfl ⟨by rw [HR0.out], HT6.out.1⟩
      simp [results, Tryz.results13, asAddr, hLd]
end Go.Proofs.YtodpdcflbnomgaaGreat
