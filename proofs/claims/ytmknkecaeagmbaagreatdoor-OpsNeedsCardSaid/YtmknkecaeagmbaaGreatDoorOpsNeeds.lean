/- For every two operations quirelaw8.OpsNeeds answers true: the walk. -/
import Derived.Test.YtmknkecaeagmbaaGreatDoorPart20
import Derived.Test.YtmknkecaeagmbaaGreatDoorKnown8
import Derived.Test.YtmknkecaeagmbaaGreatDoorPart19
import Derived.Test.YtmknkecaeagmbaaGreatDoorNeedB
import Derived.Test.YtmknkecaeagmbaaGreatDoorNeedC
import Derived.Test.YtmknkecaeagmbaaGreatDoorPart13
import Derived.Test.YtmknkecaeagmbaaGreatDoorPart11
import Derived.Deep.RegionHeld3
import Derived.Deep.MidRow
namespace Go.Proofs.YtmknkecaeagmbaaGreatDoor
open Go.RowKit
set_option linter.unusedVariables false
set_option linter.unusedSimpArgs false
set_option maxRecDepth 100000

theorem cmp_self (v : V) : refCmp v v = 0 := by
  have h1 : ∀ x : Int, refInts x x = 0 := fun x => by unfold refInts; simp
  have h2 : refText v.s v.s = 0 := by
    unfold refText
    have h := lexI_spec v.s.toList v.s.toList
    have e : (v.s.toList == v.s.toList) = true := beq_self_eq_true _
    rw [e] at h
    have h0 : lexI v.s.toList v.s.toList = 0 := of_decide_eq_true h.2.1.symm
    have hl : Op.bytesLess v.s.toList v.s.toList = false := by rw [h.1, h0]; rfl
    rw [hl, e]
    rfl
  unfold refCmp
  simp only [h1, ne_eq, not_true_eq_false, if_false, h2]
theorem same_self (o : O) : sameO o o = true := by
  unfold sameO
  rw [cmp_self]
  simp
/-- Of operations that Check takes both say the same of Fits. -/
theorem fits_eq (a b : O) (hf : a.fits) (hs : a.tx.size ≤ 17592186044416) (h : rchk a = true) : goesB a b = fitsB a b := by
  by_cases k1 : a.kind = 1
  · refine goesB_fits ?_
    rw [← chk_eq a hf hs] at h
    unfold checkB at h
    rw [Bool.and_eq_true] at h
    have hn : numOk a.c = true ∧ numOk a.k = true ∧ endO a ≤ 9007199254740992 := by
      have := h.2
      unfold idsB at this
      simp only [Bool.and_eq_true, decide_eq_true_eq] at this
      exact ⟨this.1.1.1, this.1.1.2, this.1.2⟩
    have hk := (num_iff _).1 hn.2.1
    have ht : textOk a.tx = true := by
      have := h.1
      unfold formB at this
      rw [if_pos k1] at this
      simp only [Bool.and_eq_true] at this
      exact this.1.1.1
    unfold textOk at ht
    simp only [Bool.and_eq_true, decide_eq_true_eq] at ht
    have hl := lenO_text k1
    have hE := end_small a hk (by omega)
    omega
  · have e : (a.kind == 1) = false := by simpa using k1
    unfold goesB fitsB
    rw [e]
    rfl
set_option maxHeartbeats 8000000 in
theorem opsNeeds_any (a : O) (hfa : a.fits) (b : O) (hfb : b.fits) (w : World) (hU : TabsU w) : Calls Tryz.prog 5 #[a.val, b.val] w fun e w' => e = .returned (.bool true) ∧ Touch (fun _ => False) w w' := by
  have HKn : Hid (∀ W, Touch (fun _ => False) w W → Calls Tryz.prog 9 #[] W fun e w' => e = .returned (.bool true) ∧ Touch (fun _ => False) W w') := fun W t => known_any W (hU.keep t)
  have HLa : Hid (∀ W, Touch (fun _ => False) w W → Calls Tryz.prog 10 #[a.val] W fun e w' => e = .returned (.bool (lightB a)) ∧ Touch (fun _ => False) W w') := fun W t => light_any a W
  have HLb : Hid (∀ W, Touch (fun _ => False) w W → Calls Tryz.prog 10 #[b.val] W fun e w' => e = .returned (.bool (lightB b)) ∧ Touch (fun _ => False) W w') := fun W t => light_any b W
  have HTa : Hid (lightB a = true → a.tx.size ≤ 20000 ∧ a.ky.size ≤ 200 ∧ a.vs.size ≤ 6000) := fun h => (light_iff a).1 h
  have HTb : Hid (lightB b = true → b.tx.size ≤ 20000 ∧ b.ky.size ≤ 200 ∧ b.vs.size ≤ 6000) := fun h => (light_iff b).1 h
  have HFu : Hid (a.fits ∧ b.fits ∧ TabsU w) := ⟨hfa, hfb, hU⟩
  clear hfa hfb hU
  generalize lightB a = la at *
  generalize lightB b = lb at *
  go_enter Tryz.func5, Tryz.ntmps5
  go_upto_region 1 with fail
  obtain ⟨W0, hW0⟩ : ∃ W0, Hid (W0 = (w.alloc (opO a)).alloc (opO b)) := ⟨_, Eq.refl _⟩
  have HW0 : Hid (Touch (fun _ => False) w W0 ∧ OpAt w.heap.size a W0 ∧ OpAt (w.heap.size + 1) b W0) := by rw [hW0.out]; exact ⟨((Touch.refl _ _).alloc _).alloc _, (heap_two w _ _).1, (heap_two w _ _).2⟩
  rw [← hW0.out]
  clear hW0
  go_wp2_with fail
  refine (HKn.out _ HW0.out.1).mono ?_
  rintro e W1 ⟨rfl, t⟩
  have HW1 : Hid (Touch (fun _ => False) w W1 ∧ OpAt w.heap.size a W1 ∧ OpAt (w.heap.size + 1) b W1) := ⟨HW0.out.1.trans t, HW0.out.2.1.keep t, HW0.out.2.2.keep t⟩
  clear t HW0
  go_upto_region 3 with fail
  refine wp_region_lit ?_
  refine wpList_load_mid rfl 31 (.tmp 2) rfl w.heap.size 0 rfl a.vals.toList _ (rangeAt_of HW1.out.2.1) Tryz.underlying31 rfl (by kernel_rfl) ?_
  simp only [Act.put, List.setIfInBounds_toArray, List.set_cons_succ, List.set_cons_zero]
  refine wpList_plain rfl fun K hK => ?_
  go_simp
  refine (HLa.out _ HW1.out.1).mono ?_
  rintro e W2 ⟨rfl, t⟩
  have HW2 : Hid (Touch (fun _ => False) w W2 ∧ OpAt w.heap.size a W2 ∧ OpAt (w.heap.size + 1) b W2) := ⟨HW1.out.1.trans t, HW1.out.2.1.keep t, HW1.out.2.2.keep t⟩
  clear t HW1
  refine hK _ _ ?_
  clear hK K
  refine wpList_plain rfl fun K hK => ?_
  go_simp
  refine hK _ _ ?_
  clear hK K
  refine wpList_plain rfl fun K hK => ?_
  go_simp
  refine hK _ _ ?_
  clear hK K
  cases la
  · go_wp2_with fail
    go_ret
    exact ⟨rfl, HW2.out.1⟩
  refine wpList_step fun K hK => ?_
  rw [if_pos (by kernel_rfl)]
  refine wp_load_mid 31 (.tmp 3) rfl (w.heap.size + 1) 0 rfl b.vals.toList _ (rangeAt_of HW2.out.2.2) Tryz.underlying31 rfl (by kernel_rfl) (hK _ _ ?_)
  clear hK K
  simp only [Act.put, List.setIfInBounds_toArray, List.set_cons_succ, List.set_cons_zero]
  refine wpList_step fun K hK => ?_
  rw [if_pos (by kernel_rfl)]
  go_simp
  refine (HLb.out _ HW2.out.1).mono ?_
  rintro e W3 ⟨rfl, t⟩
  have HW3 : Hid (Touch (fun _ => False) w W3 ∧ OpAt w.heap.size a W3 ∧ OpAt (w.heap.size + 1) b W3) := ⟨HW2.out.1.trans t, HW2.out.2.1.keep t, HW2.out.2.2.keep t⟩
  clear t HW2
  refine hK _ _ ?_
  clear hK K
  refine wpList_step fun K hK => ?_
  rw [if_pos (by kernel_rfl)]
  go_simp
  refine hK _ _ ?_
  clear hK K
  refine wpList_plain rfl fun K hK => ?_
  go_simp
  refine hK _ _ ?_
  clear hK K
  refine wpList_plain rfl fun K hK => ?_
  go_simp
  refine hK _ _ ?_
  clear hK K
  cases lb
  · go_wp2_with fail
    go_ret
    exact ⟨rfl, HW3.out.1⟩
  obtain ⟨s1, s2, s3⟩ := HTa.out rfl
  obtain ⟨z1, z2, z3⟩ := HTb.out rfl
  have HCa : Hid (∀ W, Touch (fun _ => False) w W → Calls Tryz.prog 12 #[a.val] W fun e w' => e = .returned (.int .i64 (opErr (rchk a))) ∧ Touch (fun _ => False) W w') := fun W t => ref_checkO a ⟨by omega, by omega, by omega⟩ W
  have HCb : Hid (∀ W, Touch (fun _ => False) w W → Calls Tryz.prog 12 #[b.val] W fun e w' => e = .returned (.int .i64 (opErr (rchk b))) ∧ Touch (fun _ => False) W w') := fun W t => ref_checkO b ⟨by omega, by omega, by omega⟩ W
  have HQ : Hid (rchk a = true → goesB a b = fitsB a b ∧ ¬ a.c = 0) := fun h => ⟨fits_eq a b HFu.out.1 (by omega) h, by
    unfold rchk at h
    simp only [Bool.and_eq_true, num_iff] at h
    omega⟩
  have HS1 : Hid (∀ W, Touch (fun _ => False) w W → Calls Tryz.prog 27 #[a.val, b.val] W fun e w' => e = .returned (.bool (sameO a b)) ∧ Touch (fun _ => False) W w') := fun W t => ops_sameO a b HFu.out.1.vf HFu.out.2.1.vf W
  have HS2 : Hid (∀ W, Touch (fun _ => False) w W → Calls Tryz.prog 16 #[a.val, b.val] W fun e w' => e = .returned (.bool (sameO a b)) ∧ Touch (fun _ => False) W w') := fun W t => ref_same a b HFu.out.1.vf HFu.out.2.1.vf W
  have HS3 : Hid (∀ W, Touch (fun _ => False) w W → Calls Tryz.prog 27 #[a.val, a.val] W fun e w' => e = .returned (.bool true) ∧ Touch (fun _ => False) W w') := fun W t => by
    have := ops_sameO a a HFu.out.1.vf HFu.out.1.vf W
    rw [same_self] at this
    exact this
  have HF1 : Hid (∀ W, Touch (fun _ => False) w W → Calls Tryz.prog 21 #[a.val, b.val] W fun e w' => e = .returned (.bool (goesB a b)) ∧ Touch (fun _ => False) W w') := fun W t => ops_fits a b (by omega) W (HFu.out.2.2.keep t)
  have HF2 : Hid (∀ W, Touch (fun _ => False) w W → Calls Tryz.prog 28 #[a.val, b.val] W fun e w' => e = .returned (.bool (fitsB a b)) ∧ Touch (fun _ => False) W w') := fun W t => ref_fits a b (by omega) W
  have HNd0 : Hid (¬ a.c = 0 → ∀ W, Touch (fun _ => False) w W → Calls Tryz.prog 25 #[a.val] W fun e w' => ∃ v, e = .returned v ∧ Touch (fun _ => False) W w' ∧ NewD W w' v (needsL a)) := fun hc W t => (needs_any a hc W).mono (by rintro e w2 ⟨v, rfl, h⟩; exact ⟨v, rfl, h.touch, h⟩)
  have HNr : Hid (∀ W, Touch (fun _ => False) w W → Calls Tryz.prog 26 #[a.val] W fun e w' => ∃ v, e = .returned v ∧ Touch (fun _ => False) W w' ∧ NewD W w' v (needsL a)) := fun W t => (rneeds_any a W).mono (by rintro e w2 ⟨v, rfl, h⟩; exact ⟨v, rfl, h.touch, h⟩)
  have HId : Hid (∀ (W : World) (v1 v2 : Value), SlD W v1 (needsL a) → SlD W v2 (needsL a) → Calls Tryz.prog 24 #[v1, v2] W fun e w' => e = .returned (.bool true) ∧ Touch (fun _ => False) W w') := fun W v1 v2 h1 h2 => ids_same (needsL a) v1 v2 W h1 h2 (Nat.le_trans (List.length_filter_le _ _) (by show 5 ≤ _; omega))
  clear s1 s2 s3 z1 z2 z3
  have o1 : opErr true = 0 := rfl
  have o2 : opErr false = 120 := rfl
  generalize rchk a = ca at *
  generalize rchk b = cb at *
  generalize sameO a b = sb at *
  refine wpList_step fun K hK => ?_
  rw [if_pos (by kernel_rfl)]
  refine wp_load_mid 31 (.tmp 2) rfl w.heap.size 0 rfl a.vals.toList _ (rangeAt_of HW3.out.2.1) Tryz.underlying31 rfl (by kernel_rfl) (hK _ _ ?_)
  clear hK K
  simp only [Act.put, List.setIfInBounds_toArray, List.set_cons_succ, List.set_cons_zero]
  refine wpList_step fun K hK => ?_
  rw [if_pos (by kernel_rfl)]
  go_simp
  refine (HCa.out _ HW3.out.1).mono ?_
  rintro e W4 ⟨rfl, t⟩
  have HW4 : Hid (Touch (fun _ => False) w W4 ∧ OpAt w.heap.size a W4 ∧ OpAt (w.heap.size + 1) b W4) := ⟨HW3.out.1.trans t, HW3.out.2.1.keep t, HW3.out.2.2.keep t⟩
  clear t HW3
  refine hK _ _ ?_
  clear hK K
  cases ca
  · go_wp2_with fail
    go_ret
    exact ⟨rfl, HW4.out.1⟩
  refine wpList_step fun K hK => ?_
  rw [if_pos (by kernel_rfl)]
  go_simp
  refine hK _ _ ?_
  clear hK K
  refine wpList_plain rfl fun K hK => ?_
  go_simp
  refine hK _ _ ?_
  clear hK K
  refine wpList_plain rfl fun K hK => ?_
  go_simp
  refine hK _ _ ?_
  clear hK K
  refine wpList_step fun K hK => ?_
  rw [if_pos (by kernel_rfl)]
  refine wp_load_mid 31 (.tmp 3) rfl (w.heap.size + 1) 0 rfl b.vals.toList _ (rangeAt_of HW4.out.2.2) Tryz.underlying31 rfl (by kernel_rfl) (hK _ _ ?_)
  clear hK K
  simp only [Act.put, List.setIfInBounds_toArray, List.set_cons_succ, List.set_cons_zero]
  refine wpList_step fun K hK => ?_
  rw [if_pos (by kernel_rfl)]
  go_simp
  refine (HCb.out _ HW4.out.1).mono ?_
  rintro e W5 ⟨rfl, t⟩
  have HW5 : Hid (Touch (fun _ => False) w W5 ∧ OpAt w.heap.size a W5 ∧ OpAt (w.heap.size + 1) b W5) := ⟨HW4.out.1.trans t, HW4.out.2.1.keep t, HW4.out.2.2.keep t⟩
  clear t HW4
  refine hK _ _ ?_
  clear hK K
  cases cb
  · go_wp2_with fail
    go_ret
    exact ⟨rfl, HW5.out.1⟩
  obtain ⟨hGF, hac⟩ := HQ.out rfl
  have HNd := HNd0.out hac
  have HNd : Hid _ := HNd
  rw [hGF] at HF1
  clear hGF hac HQ HNd0
  generalize fitsB a b = fb at *
  have sbb : (sb == sb) = true := by simp
  have fbb : (fb == fb) = true := by simp
  go_upto_region 5 with fail
  have HY0 : Hid (Touch (fun _ => False) w W5.drew ∧ OpAt w.heap.size a W5.drew ∧ OpAt (w.heap.size + 1) b W5.drew) := ⟨HW5.out.1.drew, HW5.out.2.1, HW5.out.2.2⟩
  refine wp_region_held_drew (S := fun W' => OpAt w.heap.size a W' ∧ OpAt (w.heap.size + 1) b W') (by kernel_rfl) HY0.out.2 (fun hHeld => ?_)
  refine wpAnyH_take (i := 0) (oi := { dst := some 25, op := Go.Op.load 31 (Go.Operand.tmp 2), type := 31, pos := "law.go:92", after := #[], guard := none }) (v := a.val) rfl (by kernel_rfl) (by kernel_rfl) (by kernel_rfl) (fun _ _ _ h => h) (yieldsIf_load_mid (by rfl) 31 (.tmp 2) rfl w.heap.size 0 rfl a.vals.toList _ (fun w hw => rangeAt_of hw.1) Tryz.underlying31 rfl (by kernel_rfl)) hHeld ?_
  simp only [Act.put, List.setIfInBounds_toArray]
  refine wpAnyH_take (i := 2) (oi := { dst := some 27, op := Go.Op.load 31 (Go.Operand.tmp 2), type := 31, pos := "law.go:92", after := #[], guard := none }) (v := a.val) rfl (by kernel_rfl) (by kernel_rfl) (by kernel_rfl) (fun _ _ _ h => h) (yieldsIf_load_mid (by rfl) 31 (.tmp 2) rfl w.heap.size 0 rfl a.vals.toList _ (fun w hw => rangeAt_of hw.1) Tryz.underlying31 rfl (by kernel_rfl)) hHeld ?_
  simp only [Act.put, List.setIfInBounds_toArray]
  refine wpAnyH_ready (rs := [1]) (by kernel_rfl) (by simp) ?_
  refine AllReadyH.cons (o := { dst := some 26, op := Go.Op.call { callee := Go.Callee.value (Go.Operand.func 25), args := #[Go.Operand.tmp 25], argTypes := #[31] }, type := 49, pos := "law.go:92", after := #[{ on := 0, ground := Go.Ground.data }], guard := none }) rfl (fun K hK => ?_) AllReadyH.nil
  go_simp
  refine (HNd.out _ HY0.out.1).mono ?_
  rintro e Y1 ⟨v1, rfl, t, hN1⟩
  have HY1 : Hid (Touch (fun _ => False) w Y1 ∧ OpAt w.heap.size a Y1 ∧ OpAt (w.heap.size + 1) b Y1) := ⟨HY0.out.1.trans t, HY0.out.2.1.keep t, HY0.out.2.2.keep t⟩
  obtain ⟨ao1, cp1, rfl, _⟩ := hN1.shape
  have HN1 : Hid (SlD Y1 (.slice ao1 (needsL a).length cp1) (needsL a)) := hN1.sl
  have hS2 : OpAt w.heap.size a Y1 ∧ OpAt (w.heap.size + 1) b Y1 := HY1.out.2
  clear t HY0
  refine hK.out _ _ hS2 (fun hHeld => ?_)
  clear hK K hS2
  refine wpAnyH_ready (rs := [3]) (by kernel_rfl) (by simp) ?_
  refine AllReadyH.cons (o := { dst := some 28, op := Go.Op.call { callee := Go.Callee.value (Go.Operand.func 26), args := #[Go.Operand.tmp 27], argTypes := #[31] }, type := 49, pos := "law.go:92", after := #[{ on := 2, ground := Go.Ground.data }, { on := 1, ground := Go.Ground.chain }], guard := none }) rfl (fun K hK => ?_) AllReadyH.nil
  go_simp
  refine (HNr.out _ HY1.out.1).mono ?_
  rintro e Y2 ⟨v2, rfl, t, hN2⟩
  have HY2 : Hid (Touch (fun _ => False) w Y2 ∧ OpAt w.heap.size a Y2 ∧ OpAt (w.heap.size + 1) b Y2) := ⟨HY1.out.1.trans t, HY1.out.2.1.keep t, HY1.out.2.2.keep t⟩
  obtain ⟨ao2, cp2, rfl, _⟩ := hN2.shape
  have HN2 : Hid (SlD Y2 (.slice ao1 (needsL a).length cp1) (needsL a) ∧ SlD Y2 (.slice ao2 (needsL a).length cp2) (needsL a)) := ⟨HN1.out.touch t, hN2.sl⟩
  clear HN1 hN1 hN2
  have hS2 : OpAt w.heap.size a Y2 ∧ OpAt (w.heap.size + 1) b Y2 := HY2.out.2
  clear t HY1
  refine hK.out _ _ hS2 (fun hHeld => ?_)
  clear hK K hS2
  refine wpAnyH_ready (rs := [4]) (by kernel_rfl) (by simp) ?_
  refine AllReadyH.cons (o := { dst := some 29, op := Go.Op.call { callee := Go.Callee.value (Go.Operand.func 24), args := #[Go.Operand.tmp 26, Go.Operand.tmp 28], argTypes := #[49, 49] }, type := 4, pos := "law.go:92", after := #[{ on := 1, ground := Go.Ground.data }, { on := 3, ground := Go.Ground.data }, { on := 3, ground := Go.Ground.chain }], guard := none }) rfl (fun K hK => ?_) AllReadyH.nil
  go_simp
  refine (HId.out _ _ _ HN2.out.1 HN2.out.2).mono ?_
  rintro e Y3 ⟨rfl, t⟩
  have HY3 : Hid (Touch (fun _ => False) w Y3 ∧ OpAt w.heap.size a Y3 ∧ OpAt (w.heap.size + 1) b Y3) := ⟨HY2.out.1.trans t, HY2.out.2.1.keep t, HY2.out.2.2.keep t⟩
  clear HN2
  have hS2 : OpAt w.heap.size a Y3 ∧ OpAt (w.heap.size + 1) b Y3 := HY3.out.2
  clear t HY2
  refine hK.out _ _ hS2 (fun hHeld => ?_)
  clear hK K hS2
  refine wpAnyH_take (i := 5) (oi := { dst := some 30, op := Go.Op.move (Go.Operand.tmp 29), type := 4, pos := "law.go:92", after := #[{ on := 4, ground := Go.Ground.data }, { on := 4, ground := Go.Ground.chain }], guard := none }) (v := .bool true) rfl (by kernel_rfl) (by kernel_rfl) (by kernel_rfl) (fun _ _ _ h => h) (Or.inl ⟨by rfl, ?_⟩) hHeld ?_
  · intro w hSw; clear hSw; go_simp
  simp only [Act.put, List.setIfInBounds_toArray]
  refine wpAnyH_take (i := 6) (oi := { dst := some 31, op := Go.Op.load 31 (Go.Operand.tmp 2), type := 31, pos := "law.go:92", after := #[{ on := 5, ground := Go.Ground.guard }], guard := some (5, true) }) (v := a.val) rfl (by kernel_rfl) (by kernel_rfl) (by kernel_rfl) (fun _ _ _ h => h) (yieldsIf_load_mid (by rfl) 31 (.tmp 2) rfl w.heap.size 0 rfl a.vals.toList _ (fun w hw => rangeAt_of hw.1) Tryz.underlying31 rfl (by kernel_rfl)) hHeld ?_
  simp only [Act.put, List.setIfInBounds_toArray]
  refine wpAnyH_take (i := 7) (oi := { dst := some 32, op := Go.Op.load 31 (Go.Operand.tmp 3), type := 31, pos := "law.go:92", after := #[{ on := 5, ground := Go.Ground.guard }], guard := some (5, true) }) (v := b.val) rfl (by kernel_rfl) (by kernel_rfl) (by kernel_rfl) (fun _ _ _ h => h) (yieldsIf_load_mid (by rfl) 31 (.tmp 3) rfl (w.heap.size + 1) 0 rfl b.vals.toList _ (fun w hw => rangeAt_of hw.2) Tryz.underlying31 rfl (by kernel_rfl)) hHeld ?_
  simp only [Act.put, List.setIfInBounds_toArray]
  refine wpAnyH_take (i := 9) (oi := { dst := some 34, op := Go.Op.load 31 (Go.Operand.tmp 2), type := 31, pos := "law.go:92", after := #[{ on := 5, ground := Go.Ground.guard }], guard := some (5, true) }) (v := a.val) rfl (by kernel_rfl) (by kernel_rfl) (by kernel_rfl) (fun _ _ _ h => h) (yieldsIf_load_mid (by rfl) 31 (.tmp 2) rfl w.heap.size 0 rfl a.vals.toList _ (fun w hw => rangeAt_of hw.1) Tryz.underlying31 rfl (by kernel_rfl)) hHeld ?_
  simp only [Act.put, List.setIfInBounds_toArray]
  refine wpAnyH_take (i := 10) (oi := { dst := some 35, op := Go.Op.load 31 (Go.Operand.tmp 3), type := 31, pos := "law.go:92", after := #[{ on := 5, ground := Go.Ground.guard }], guard := some (5, true) }) (v := b.val) rfl (by kernel_rfl) (by kernel_rfl) (by kernel_rfl) (fun _ _ _ h => h) (yieldsIf_load_mid (by rfl) 31 (.tmp 3) rfl (w.heap.size + 1) 0 rfl b.vals.toList _ (fun w hw => rangeAt_of hw.2) Tryz.underlying31 rfl (by kernel_rfl)) hHeld ?_
  simp only [Act.put, List.setIfInBounds_toArray]
  refine wpAnyH_ready (rs := [8]) (by kernel_rfl) (by simp) ?_
  refine AllReadyH.cons (o := { dst := some 33, op := Go.Op.call { callee := Go.Callee.value (Go.Operand.func 27), args := #[Go.Operand.tmp 31, Go.Operand.tmp 32], argTypes := #[31, 31] }, type := 4, pos := "law.go:92", after := #[{ on := 6, ground := Go.Ground.data }, { on := 7, ground := Go.Ground.data }, { on := 5, ground := Go.Ground.chain }, { on := 5, ground := Go.Ground.guard }], guard := some (5, true) }) rfl (fun K hK => ?_) AllReadyH.nil
  go_simp
  refine (HS1.out _ HY3.out.1).mono ?_
  rintro e Y4 ⟨rfl, t⟩
  have HY4 : Hid (Touch (fun _ => False) w Y4 ∧ OpAt w.heap.size a Y4 ∧ OpAt (w.heap.size + 1) b Y4) := ⟨HY3.out.1.trans t, HY3.out.2.1.keep t, HY3.out.2.2.keep t⟩
  have hS2 : OpAt w.heap.size a Y4 ∧ OpAt (w.heap.size + 1) b Y4 := HY4.out.2
  clear t HY3
  refine hK.out _ _ hS2 (fun hHeld => ?_)
  clear hK K hS2
  refine wpAnyH_ready (rs := [11]) (by kernel_rfl) (by simp) ?_
  refine AllReadyH.cons (o := { dst := some 36, op := Go.Op.call { callee := Go.Callee.value (Go.Operand.func 16), args := #[Go.Operand.tmp 34, Go.Operand.tmp 35], argTypes := #[31, 31] }, type := 4, pos := "law.go:92", after := #[{ on := 9, ground := Go.Ground.data }, { on := 10, ground := Go.Ground.data }, { on := 8, ground := Go.Ground.chain }, { on := 5, ground := Go.Ground.guard }], guard := some (5, true) }) rfl (fun K hK => ?_) AllReadyH.nil
  go_simp
  refine (HS2.out _ HY4.out.1).mono ?_
  rintro e Y5 ⟨rfl, t⟩
  have HY5 : Hid (Touch (fun _ => False) w Y5 ∧ OpAt w.heap.size a Y5 ∧ OpAt (w.heap.size + 1) b Y5) := ⟨HY4.out.1.trans t, HY4.out.2.1.keep t, HY4.out.2.2.keep t⟩
  have hS2 : OpAt w.heap.size a Y5 ∧ OpAt (w.heap.size + 1) b Y5 := HY5.out.2
  clear t HY4
  refine hK.out _ _ hS2 (fun hHeld => ?_)
  clear hK K hS2
  refine wpAnyH_take (i := 12) (oi := { dst := some 37, op := Go.Op.binOp Go.BinOp.eql 4 (Go.Operand.tmp 33) (Go.Operand.tmp 36) 4, type := 4, pos := "law.go:92", after := #[{ on := 8, ground := Go.Ground.data }, { on := 11, ground := Go.Ground.data }, { on := 5, ground := Go.Ground.guard }], guard := some (5, true) }) (v := .bool true) rfl (by kernel_rfl) (by kernel_rfl) (by kernel_rfl) (fun _ _ _ h => h) (Or.inl ⟨by rfl, ?_⟩) hHeld ?_
  · intro w hSw; clear hSw; go_simp
  simp only [Act.put, List.setIfInBounds_toArray]
  refine wpAnyH_take (i := 13) (oi := { dst := some 38, op := Go.Op.pick (Go.Operand.tmp 30) (Go.Operand.tmp 37) (Go.Operand.const (Go.Value.bool false)), type := 4, pos := "law.go:92", after := #[{ on := 5, ground := Go.Ground.data }, { on := 12, ground := Go.Ground.data }], guard := none }) (v := .bool true) rfl (by kernel_rfl) (by kernel_rfl) (by kernel_rfl) (fun _ _ _ h => h) (Or.inl ⟨by rfl, ?_⟩) hHeld ?_
  · intro w hSw; clear hSw; go_simp
  simp only [Act.put, List.setIfInBounds_toArray]
  refine wpAnyH_take (i := 14) (oi := { dst := some 39, op := Go.Op.move (Go.Operand.tmp 38), type := 4, pos := "law.go:92", after := #[{ on := 13, ground := Go.Ground.data }, { on := 11, ground := Go.Ground.chain }], guard := none }) (v := .bool true) rfl (by kernel_rfl) (by kernel_rfl) (by kernel_rfl) (fun _ _ _ h => h) (Or.inl ⟨by rfl, ?_⟩) hHeld ?_
  · intro w hSw; clear hSw; go_simp
  simp only [Act.put, List.setIfInBounds_toArray]
  refine wpAnyH_take (i := 15) (oi := { dst := some 40, op := Go.Op.load 31 (Go.Operand.tmp 2), type := 31, pos := "law.go:92", after := #[{ on := 14, ground := Go.Ground.guard }], guard := some (14, true) }) (v := a.val) rfl (by kernel_rfl) (by kernel_rfl) (by kernel_rfl) (fun _ _ _ h => h) (yieldsIf_load_mid (by rfl) 31 (.tmp 2) rfl w.heap.size 0 rfl a.vals.toList _ (fun w hw => rangeAt_of hw.1) Tryz.underlying31 rfl (by kernel_rfl)) hHeld ?_
  simp only [Act.put, List.setIfInBounds_toArray]
  refine wpAnyH_take (i := 16) (oi := { dst := some 41, op := Go.Op.load 31 (Go.Operand.tmp 2), type := 31, pos := "law.go:92", after := #[{ on := 14, ground := Go.Ground.guard }], guard := some (14, true) }) (v := a.val) rfl (by kernel_rfl) (by kernel_rfl) (by kernel_rfl) (fun _ _ _ h => h) (yieldsIf_load_mid (by rfl) 31 (.tmp 2) rfl w.heap.size 0 rfl a.vals.toList _ (fun w hw => rangeAt_of hw.1) Tryz.underlying31 rfl (by kernel_rfl)) hHeld ?_
  simp only [Act.put, List.setIfInBounds_toArray]
  refine wpAnyH_ready (rs := [17]) (by kernel_rfl) (by simp) ?_
  refine AllReadyH.cons (o := { dst := some 42, op := Go.Op.call { callee := Go.Callee.value (Go.Operand.func 27), args := #[Go.Operand.tmp 40, Go.Operand.tmp 41], argTypes := #[31, 31] }, type := 4, pos := "law.go:92", after := #[{ on := 15, ground := Go.Ground.data }, { on := 16, ground := Go.Ground.data }, { on := 14, ground := Go.Ground.chain }, { on := 14, ground := Go.Ground.guard }], guard := some (14, true) }) rfl (fun K hK => ?_) AllReadyH.nil
  go_simp
  refine (HS3.out _ HY5.out.1).mono ?_
  rintro e Y6 ⟨rfl, t⟩
  have HY6 : Hid (Touch (fun _ => False) w Y6 ∧ OpAt w.heap.size a Y6 ∧ OpAt (w.heap.size + 1) b Y6) := ⟨HY5.out.1.trans t, HY5.out.2.1.keep t, HY5.out.2.2.keep t⟩
  have hS2 : OpAt w.heap.size a Y6 ∧ OpAt (w.heap.size + 1) b Y6 := HY6.out.2
  clear t HY5
  refine hK.out _ _ hS2 (fun hHeld => ?_)
  clear hK K hS2
  refine wpAnyH_take (i := 18) (oi := { dst := some 43, op := Go.Op.pick (Go.Operand.tmp 39) (Go.Operand.tmp 42) (Go.Operand.const (Go.Value.bool false)), type := 4, pos := "law.go:92", after := #[{ on := 14, ground := Go.Ground.data }, { on := 17, ground := Go.Ground.data }], guard := none }) (v := .bool true) rfl (by kernel_rfl) (by kernel_rfl) (by kernel_rfl) (fun _ _ _ h => h) (Or.inl ⟨by rfl, ?_⟩) hHeld ?_
  · intro w hSw; clear hSw; go_simp
  simp only [Act.put, List.setIfInBounds_toArray]
  refine wpAnyH_take (i := 19) (oi := { dst := some 44, op := Go.Op.move (Go.Operand.tmp 43), type := 4, pos := "law.go:92", after := #[{ on := 18, ground := Go.Ground.data }, { on := 17, ground := Go.Ground.chain }], guard := none }) (v := .bool true) rfl (by kernel_rfl) (by kernel_rfl) (by kernel_rfl) (fun _ _ _ h => h) (Or.inl ⟨by rfl, ?_⟩) hHeld ?_
  · intro w hSw; clear hSw; go_simp
  simp only [Act.put, List.setIfInBounds_toArray]
  refine wpAnyH_take (i := 20) (oi := { dst := some 45, op := Go.Op.load 31 (Go.Operand.tmp 2), type := 31, pos := "law.go:92", after := #[{ on := 19, ground := Go.Ground.guard }], guard := some (19, true) }) (v := a.val) rfl (by kernel_rfl) (by kernel_rfl) (by kernel_rfl) (fun _ _ _ h => h) (yieldsIf_load_mid (by rfl) 31 (.tmp 2) rfl w.heap.size 0 rfl a.vals.toList _ (fun w hw => rangeAt_of hw.1) Tryz.underlying31 rfl (by kernel_rfl)) hHeld ?_
  simp only [Act.put, List.setIfInBounds_toArray]
  refine wpAnyH_take (i := 21) (oi := { dst := some 46, op := Go.Op.load 31 (Go.Operand.tmp 3), type := 31, pos := "law.go:92", after := #[{ on := 19, ground := Go.Ground.guard }], guard := some (19, true) }) (v := b.val) rfl (by kernel_rfl) (by kernel_rfl) (by kernel_rfl) (fun _ _ _ h => h) (yieldsIf_load_mid (by rfl) 31 (.tmp 3) rfl (w.heap.size + 1) 0 rfl b.vals.toList _ (fun w hw => rangeAt_of hw.2) Tryz.underlying31 rfl (by kernel_rfl)) hHeld ?_
  simp only [Act.put, List.setIfInBounds_toArray]
  refine wpAnyH_take (i := 23) (oi := { dst := some 48, op := Go.Op.load 31 (Go.Operand.tmp 2), type := 31, pos := "law.go:92", after := #[{ on := 19, ground := Go.Ground.guard }], guard := some (19, true) }) (v := a.val) rfl (by kernel_rfl) (by kernel_rfl) (by kernel_rfl) (fun _ _ _ h => h) (yieldsIf_load_mid (by rfl) 31 (.tmp 2) rfl w.heap.size 0 rfl a.vals.toList _ (fun w hw => rangeAt_of hw.1) Tryz.underlying31 rfl (by kernel_rfl)) hHeld ?_
  simp only [Act.put, List.setIfInBounds_toArray]
  refine wpAnyH_take (i := 24) (oi := { dst := some 49, op := Go.Op.load 31 (Go.Operand.tmp 3), type := 31, pos := "law.go:92", after := #[{ on := 19, ground := Go.Ground.guard }], guard := some (19, true) }) (v := b.val) rfl (by kernel_rfl) (by kernel_rfl) (by kernel_rfl) (fun _ _ _ h => h) (yieldsIf_load_mid (by rfl) 31 (.tmp 3) rfl (w.heap.size + 1) 0 rfl b.vals.toList _ (fun w hw => rangeAt_of hw.2) Tryz.underlying31 rfl (by kernel_rfl)) hHeld ?_
  simp only [Act.put, List.setIfInBounds_toArray]
  refine wpAnyH_ready (rs := [22]) (by kernel_rfl) (by simp) ?_
  refine AllReadyH.cons (o := { dst := some 47, op := Go.Op.call { callee := Go.Callee.value (Go.Operand.func 21), args := #[Go.Operand.tmp 45, Go.Operand.tmp 46], argTypes := #[31, 31] }, type := 4, pos := "law.go:92", after := #[{ on := 20, ground := Go.Ground.data }, { on := 21, ground := Go.Ground.data }, { on := 19, ground := Go.Ground.chain }, { on := 19, ground := Go.Ground.guard }], guard := some (19, true) }) rfl (fun K hK => ?_) AllReadyH.nil
  go_simp
  refine (HF1.out _ HY6.out.1).mono ?_
  rintro e Y7 ⟨rfl, t⟩
  have HY7 : Hid (Touch (fun _ => False) w Y7 ∧ OpAt w.heap.size a Y7 ∧ OpAt (w.heap.size + 1) b Y7) := ⟨HY6.out.1.trans t, HY6.out.2.1.keep t, HY6.out.2.2.keep t⟩
  have hS2 : OpAt w.heap.size a Y7 ∧ OpAt (w.heap.size + 1) b Y7 := HY7.out.2
  clear t HY6
  refine hK.out _ _ hS2 (fun hHeld => ?_)
  clear hK K hS2
  refine wpAnyH_ready (rs := [25]) (by kernel_rfl) (by simp) ?_
  refine AllReadyH.cons (o := { dst := some 50, op := Go.Op.call { callee := Go.Callee.value (Go.Operand.func 28), args := #[Go.Operand.tmp 48, Go.Operand.tmp 49], argTypes := #[31, 31] }, type := 4, pos := "law.go:92", after := #[{ on := 23, ground := Go.Ground.data }, { on := 24, ground := Go.Ground.data }, { on := 22, ground := Go.Ground.chain }, { on := 19, ground := Go.Ground.guard }], guard := some (19, true) }) rfl (fun K hK => ?_) AllReadyH.nil
  go_simp
  refine (HF2.out _ HY7.out.1).mono ?_
  rintro e Y8 ⟨rfl, t⟩
  have HY8 : Hid (Touch (fun _ => False) w Y8 ∧ OpAt w.heap.size a Y8 ∧ OpAt (w.heap.size + 1) b Y8) := ⟨HY7.out.1.trans t, HY7.out.2.1.keep t, HY7.out.2.2.keep t⟩
  have hS2 : OpAt w.heap.size a Y8 ∧ OpAt (w.heap.size + 1) b Y8 := HY8.out.2
  clear t HY7
  refine hK.out _ _ hS2 (fun hHeld => ?_)
  clear hK K hS2
  refine wpAnyH_take (i := 26) (oi := { dst := some 51, op := Go.Op.binOp Go.BinOp.eql 4 (Go.Operand.tmp 47) (Go.Operand.tmp 50) 4, type := 4, pos := "law.go:92", after := #[{ on := 22, ground := Go.Ground.data }, { on := 25, ground := Go.Ground.data }, { on := 19, ground := Go.Ground.guard }], guard := some (19, true) }) (v := .bool true) rfl (by kernel_rfl) (by kernel_rfl) (by kernel_rfl) (fun _ _ _ h => h) (Or.inl ⟨by rfl, ?_⟩) hHeld ?_
  · intro w hSw; clear hSw; go_simp
  simp only [Act.put, List.setIfInBounds_toArray]
  refine wpAnyH_take (i := 27) (oi := { dst := some 52, op := Go.Op.pick (Go.Operand.tmp 44) (Go.Operand.tmp 51) (Go.Operand.const (Go.Value.bool false)), type := 4, pos := "law.go:92", after := #[{ on := 19, ground := Go.Ground.data }, { on := 26, ground := Go.Ground.data }], guard := none }) (v := .bool true) rfl (by kernel_rfl) (by kernel_rfl) (by kernel_rfl) (fun _ _ _ h => h) (Or.inl ⟨by rfl, ?_⟩) hHeld ?_
  · intro w hSw; clear hSw; go_simp
  simp only [Act.put, List.setIfInBounds_toArray]
  refine wpAnyH_take (i := 28) (oi := { dst := some 4, op := Go.Op.assign (Go.Operand.tmp 52), type := 4, pos := "law.go:92", after := #[{ on := 27, ground := Go.Ground.data }, { on := 25, ground := Go.Ground.chain }, { on := 0, ground := Go.Ground.phase }, { on := 1, ground := Go.Ground.phase }, { on := 2, ground := Go.Ground.phase }, { on := 3, ground := Go.Ground.phase }, { on := 4, ground := Go.Ground.phase }, { on := 5, ground := Go.Ground.phase }, { on := 6, ground := Go.Ground.phase }, { on := 7, ground := Go.Ground.phase }, { on := 8, ground := Go.Ground.phase }, { on := 9, ground := Go.Ground.phase }, { on := 10, ground := Go.Ground.phase }, { on := 11, ground := Go.Ground.phase }, { on := 12, ground := Go.Ground.phase }, { on := 13, ground := Go.Ground.phase }, { on := 14, ground := Go.Ground.phase }, { on := 15, ground := Go.Ground.phase }, { on := 16, ground := Go.Ground.phase }, { on := 17, ground := Go.Ground.phase }, { on := 18, ground := Go.Ground.phase }, { on := 19, ground := Go.Ground.phase }, { on := 20, ground := Go.Ground.phase }, { on := 21, ground := Go.Ground.phase }, { on := 22, ground := Go.Ground.phase }, { on := 23, ground := Go.Ground.phase }, { on := 24, ground := Go.Ground.phase }, { on := 25, ground := Go.Ground.phase }, { on := 26, ground := Go.Ground.phase }, { on := 27, ground := Go.Ground.phase }], guard := none }) (v := .bool true) rfl (by kernel_rfl) (by kernel_rfl) (by kernel_rfl) (fun _ _ _ h => h) (Or.inl ⟨by rfl, ?_⟩) hHeld ?_
  · intro w hSw; clear hSw; go_simp
  simp only [Act.put, List.setIfInBounds_toArray]
  refine wpAnyH_done (by kernel_rfl) ?_ _
  try simp only [List.getElem_toArray, List.getElem_cons_succ, List.getElem_cons_zero, List.setIfInBounds_toArray, List.set_cons_succ, List.set_cons_zero]
  clear hHeld
  go_wp2_with fail
  go_ret
  exact ⟨rfl, HY8.out.1⟩
end Go.Proofs.YtmknkecaeagmbaaGreatDoor
