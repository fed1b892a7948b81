/- The document's Check, of kind 4. -/
import Derived.Test.YtegldlfbmaapiaaPart21
namespace Go.Proofs.Ytegldlfbmaapiaa
open Go.RowKit
set_option linter.unusedVariables false
set_option linter.unusedSimpArgs false
set_option maxRecDepth 100000

set_option maxHeartbeats 16000000 in
theorem rchk_k4 (o : O) (hk : o.kind = 4) (h : o.tx.size ≤ 17592186044416 ∧ o.ky.size ≤ 17592186044416 ∧ o.vs.size ≤ 17592186044416) (w : World) : Calls Try.prog 17 #[o.val] w fun e w' => e = .returned (.int .i64 (opErr (rchk o))) ∧ Touch (fun _ => False) w w' := by
  have hg := getD_set
  have hle := lenO_le o
  have hw1 : IntKind.u64.wrap (lenO o : Int) = (lenO o : Int) := wrap_u64_small _ (by omega) (by omega)
  have hrl : (rsOf o.tx.data.toList).length ≤ o.tx.size := by have := rsOf_len o.tx.data.toList; simpa using this
  have hw2 : IntKind.u64.wrap ((rsOf o.tx.data.toList).length : Int) = ((rsOf o.tx.data.toList).length : Int) := wrap_u64_small _ (by omega) (by omega)
  have HR : Hid (∀ W, Touch (fun _ => False) w W → Calls Try.prog 27 #[idV o.c o.k] W fun e w' => e = .returned (.bool (numOk o.c && numOk o.k)) ∧ Touch (fun _ => False) W w') := fun W _ => by
    have := rRight_any o.c o.k W
    exact this.mono (by rintro e w2 ⟨rfl, rfl⟩; exact ⟨rfl, (Touch.refl _ _).alloc _⟩)
  have HNL : Hid (∀ W, Touch (fun _ => False) w W → Calls Try.prog 28 #[idV o.lc o.lk] W fun e w' => e = .returned (.bool (namedB o.lc o.lk)) ∧ Touch (fun _ => False) W w') := fun W _ => named_any o.lc o.lk W
  have HOL : Hid (∀ W, Touch (fun _ => False) w W → Calls Try.prog 29 #[idV o.lc o.lk] W fun e w' => e = .returned (.bool ((o.lc == 0) && (o.lk == 0))) ∧ Touch (fun _ => False) W w') := fun W _ => none_any o.lc o.lk W
  have HNT : Hid (∀ W, Touch (fun _ => False) w W → Calls Try.prog 28 #[idV o.rc o.rk] W fun e w' => e = .returned (.bool (namedB o.rc o.rk)) ∧ Touch (fun _ => False) W w') := fun W _ => named_any o.rc o.rk W
  have HOT : Hid (∀ W, Touch (fun _ => False) w W → Calls Try.prog 29 #[idV o.rc o.rk] W fun e w' => e = .returned (.bool ((o.rc == 0) && (o.rk == 0))) ∧ Touch (fun _ => False) W w') := fun W _ => none_any o.rc o.rk W
  have HNF : Hid (∀ W, Touch (fun _ => False) w W → Calls Try.prog 28 #[idV o.fc o.fk] W fun e w' => e = .returned (.bool (namedB o.fc o.fk)) ∧ Touch (fun _ => False) W w') := fun W _ => named_any o.fc o.fk W
  have HNU : Hid (∀ W, Touch (fun _ => False) w W → Calls Try.prog 28 #[idV o.tc o.tk] W fun e w' => e = .returned (.bool (namedB o.tc o.tk)) ∧ Touch (fun _ => False) W w') := fun W _ => named_any o.tc o.tk W
  have HNP : Hid (∀ W, Touch (fun _ => False) w W → Calls Try.prog 28 #[idV o.pc o.pk] W fun e w' => e = .returned (.bool (namedB o.pc o.pk)) ∧ Touch (fun _ => False) W w') := fun W _ => named_any o.pc o.pk W
  have HOP : Hid (∀ W, Touch (fun _ => False) w W → Calls Try.prog 29 #[idV o.pc o.pk] W fun e w' => e = .returned (.bool ((o.pc == 0) && (o.pk == 0))) ∧ Touch (fun _ => False) W w') := fun W _ => none_any o.pc o.pk W
  have HV : Hid (∀ W, Touch (fun _ => False) w W → Calls Try.prog 30 #[o.v.val] W fun e w' => e = .returned (.int .i64 (refCheck o.v)) ∧ Touch (fun _ => False) W w') := fun W _ => ref_check o.v h.2.2 W
  have HLN : Hid (∀ W, Touch (fun _ => False) w W → Calls Try.prog 31 #[.string o.tx] W fun e w' => e = .returned (.int .i64 ((rsOf o.tx.data.toList).length : Int)) ∧ Touch (fun _ => False) W w') := fun W _ => ref_len o.tx h.1 W
  have HTK : Hid (∀ W, Touch (fun _ => False) w W → Calls Try.prog 32 #[.string o.tx] W fun e w' => e = .returned (.bool (runesOf o.tx.data.toList).isSome) ∧ Touch (fun _ => False) W w') := fun W _ => ref_check3 o.tx h.1 W
  have HKY : Hid (∀ W, Touch (fun _ => False) w W → Calls Try.prog 34 #[.string o.ky] W fun e w' => e = .returned (.bool (keyOk o.ky)) ∧ Touch (fun _ => False) W w') := fun W _ => rKey_any o.ky h.2.1 W
  have HZ : Hid (∀ W, Touch (fun _ => False) w W → Calls Try.prog 33 #[o.v.val] W fun e w' => e = .returned (.bool ((o.v.k == 0) && (refCheck o.v == 0))) ∧ Touch (fun _ => False) W w') := fun W _ => zero_any o.v h.2.2 W
  have HNM : Hid (∀ W, Calls Try.prog 35 #[o.val] W fun e w' => ∃ NB, e = .returned (.slice (some ⟨NB, 0, none⟩) 5 5) ∧ Touch (fun _ => False) W w' ∧ w'.heap[NB]? = some (.cells (namesA o) 34 (0, 0))) := fun W => (rnames_any o W).mono fun e w' h => ⟨_, h⟩
  have HLO : Hid (∀ W, Touch (fun _ => False) w W → Calls Try.prog 36 #[o.val] W fun e w' => e = .returned (.int .i64 (lenO o : Int)) ∧ Touch (fun _ => False) W w') := fun W _ => ref_lenO o h.1 W
  obtain ⟨pl, HPpl⟩ : ∃ b : Bool, Hid (b = (namedB o.lc o.lk && namedB o.rc o.rk)) := ⟨_, rfl⟩
  obtain ⟨nw, HPnw⟩ : ∃ b : Bool, Hid (b = (((o.lc == 0) && (o.lk == 0)) && ((o.rc == 0) && (o.rk == 0)))) := ⟨_, rfl⟩
  obtain ⟨sp, HPsp⟩ : ∃ b : Bool, Hid (b = (((o.fc == 0) && ((o.fk == 0) && !o.fa)) && ((o.tc == 0) && ((o.tk == 0) && !o.ta)))) := ⟨_, rfl⟩
  obtain ⟨sm, HPsm⟩ : ∃ b : Bool, Hid (b = (decide (1 ≤ o.st) && decide (o.st ≤ 9007199254740991))) := ⟨_, rfl⟩
  obtain ⟨vl, HPvl⟩ : ∃ b : Bool, Hid (b = (refCheck o.v == 0)) := ⟨_, rfl⟩
  obtain ⟨k2, HPk2⟩ : ∃ b : Bool, Hid (b = (nw && sp)) := ⟨_, rfl⟩
  obtain ⟨k3, HPk3⟩ : ∃ b : Bool, Hid (b = (k2 && namedB o.pc o.pk)) := ⟨_, rfl⟩
  obtain ⟨k4, HPk4⟩ : ∃ b : Bool, Hid (b = (k3 && keyOk o.ky)) := ⟨_, rfl⟩
  obtain ⟨k5, HPk5⟩ : ∃ b : Bool, Hid (b = (k4 && vl)) := ⟨_, rfl⟩
  obtain ⟨k6, HPk6⟩ : ∃ b : Bool, Hid (b = (k5 && sm)) := ⟨_, rfl⟩
  obtain ⟨k7, HPk7⟩ : ∃ b : Bool, Hid (b = (k6 && decide (o.tx.toList = []))) := ⟨_, rfl⟩
  have HG : Hid (rchk o = ((numOk o.c && numOk o.k) && (k7 && freeB o))) := by
    show _ = _
    unfold rchk kindB
    rw [if_neg (show ¬ o.kind = 1 by omega), if_neg (show ¬ o.kind = 2 by omega), if_neg (show ¬ o.kind = 3 by omega), if_pos hk, HPk7.out, HPk6.out, HPk5.out, HPk4.out, HPk3.out, HPk2.out, HPnw.out, HPsp.out, HPsm.out, HPvl.out]
  unfold freeB at HG
  have HKK : Hid (o.kind = 4) := hk
  clear hk
  generalize (numOk o.c && numOk o.k) = a1 at *
  generalize namedB o.lc o.lk = n1 at *
  generalize namedB o.rc o.rk = n2 at *
  generalize ((o.lc == 0) && (o.lk == 0)) = m1 at *
  generalize ((o.rc == 0) && (o.rk == 0)) = m2 at *
  go_enter Try.func17, Try.ntmps17
  go_upto_region 1 with fail
  obtain ⟨W0, hW0⟩ : ∃ W0, Hid (W0 = w.alloc (opO o)) := ⟨_, Eq.refl _⟩
  have HW0 : Hid (Touch (fun _ => False) w W0 ∧ OpAt w.heap.size o W0) := by rw [hW0.out]; exact ⟨(Touch.refl _ _).alloc _, heap_alloc_new _ _⟩
  rw [← hW0.out]
  clear hW0
  refine wp_abs (fun T => T.size = 257 ∧ T.getD 1 undef = .pointer (some ⟨w.heap.size, 0, none⟩)) ⟨by kernel_rfl, by kernel_rfl⟩ ?_
  intro T0 ⟨hsz0, h0_1⟩
  refine wp_region_lit ?_
  refine wpList_cutAt 4 (fun a' w' => ∃ T', a' = ⟨T', []⟩ ∧ T'.size = 257 ∧ T'.getD 1 undef = .pointer (some ⟨w.heap.size, 0, none⟩) ∧ T'.getD 15 undef = .bool (!a1) ∧ Hid (Touch (fun _ => False) w w' ∧ OpAt w.heap.size o w')) ?_ ?_
  · simp only [List.take_succ_cons, List.take_zero]
    have q0 := HW0.out.2.q0
    have q1 := HW0.out.2.q1
    refine wpTo_plain rfl fun K hK => ?_
    go_simp
    refine hK _ _ ?_
    clear hK K
    refine wpTo_plain rfl fun K hK => ?_
    go_simp
    refine hK _ _ ?_
    clear hK K
    clear q0 q1
    refine wpTo_plain rfl fun K hK => ?_
    go_simp
    refine (HR.out _ HW0.out.1).mono ?_
    rintro e V1 ⟨rfl, t⟩
    have HV1 : Hid (Touch (fun _ => False) w V1 ∧ OpAt w.heap.size o V1) := ⟨HW0.out.1.trans t, HW0.out.2.keep t⟩
    clear t
    refine hK _ _ ?_
    clear hK K
    refine wpTo_plain rfl fun K hK => ?_
    go_simp
    refine hK _ _ ?_
    clear hK K
    refine wpTo_nil ⟨_, rfl, ?_, ?_, ?_, HV1.out⟩
    · simp only [Array.size_setIfInBounds, hsz0]
    · go_simp
    · go_simp
  rintro _ W1 ⟨T1, rfl, hsz1, h1_1, h1_15, HW1⟩
  clear hsz0 h0_1 HW0
  simp only [List.drop_succ_cons, List.drop_zero]
  cases a1
  · go_upto_region 2 with fail
    refine wp_cond_true h1_15 ?_
    go_wp2_with fail
    go_ret
    exact ⟨by rw [HG.out, Bool.false_and, opErr_f]; go_simp, HW1.out.1⟩
  go_upto_region 4 with fail
  refine wp_cond_false h1_15 ?_
  go_upto_region 4 with fail
  refine wp_region_lit ?_
  refine wpList_cutAt 9 (fun a' w' => ∃ T', a' = ⟨T', []⟩ ∧ T'.size = 257 ∧ T'.getD 1 undef = .pointer (some ⟨w.heap.size, 0, none⟩) ∧ T'.getD 4 undef = .bool pl ∧ Hid (Touch (fun _ => False) w w' ∧ OpAt w.heap.size o w')) ?_ ?_
  · simp only [List.take_succ_cons, List.take_zero]
    have q4 := HW1.out.2.q4
    have q5 := HW1.out.2.q5
    refine wpTo_plain rfl fun K hK => ?_
    go_simp
    refine hK _ _ ?_
    clear hK K
    refine wpTo_plain rfl fun K hK => ?_
    go_simp
    refine hK _ _ ?_
    clear hK K
    clear q4 q5
    refine wpTo_plain rfl fun K hK => ?_
    go_simp
    refine (HNL.out _ HW1.out.1).mono ?_
    rintro e V2 ⟨rfl, t⟩
    have HV2 : Hid (Touch (fun _ => False) w V2 ∧ OpAt w.heap.size o V2) := ⟨HW1.out.1.trans t, HW1.out.2.keep t⟩
    clear t
    refine hK _ _ ?_
    clear hK K
    refine wpTo_plain rfl fun K hK => ?_
    go_simp
    refine hK _ _ ?_
    clear hK K
    cases n1
    · refine wpTo_skip 3 19 rfl rfl (by simp only [Array.size_setIfInBounds, hsz1]; decide) (by go_simp) ?_
      simp only [Act.put]
      refine wpTo_skip 3 19 rfl rfl (by simp only [Array.size_setIfInBounds, hsz1]; decide) (by go_simp) ?_
      simp only [Act.put]
      refine wpTo_skip 3 19 rfl rfl (by simp only [Array.size_setIfInBounds, hsz1]; decide) (by go_simp) ?_
      simp only [Act.put]
      refine wpTo_plain rfl fun K hK => ?_
      go_simp
      refine hK _ _ ?_
      clear hK K
      refine wpTo_plain rfl fun K hK => ?_
      go_simp
      refine hK _ _ ?_
      clear hK K
      have e9 := HPpl.out
      simp only [Bool.false_and] at e9
      refine wpTo_nil ⟨_, rfl, ?_, ?_, ?_, HV2.out⟩
      · simp only [Array.size_setIfInBounds, hsz1]
      · go_simp
      · go_simp
    · have q6 := HV2.out.2.q6
      have q7 := HV2.out.2.q7
      refine wpTo_go 3 19 rfl rfl (by simp only [Array.size_setIfInBounds, hsz1]; decide) (by go_simp) fun K hK => ?_
      go_simp
      refine hK _ _ ?_
      clear hK K
      refine wpTo_go 3 19 rfl rfl (by simp only [Array.size_setIfInBounds, hsz1]; decide) (by go_simp) fun K hK => ?_
      go_simp
      refine hK _ _ ?_
      clear hK K
      clear q6 q7
      refine wpTo_go 3 19 rfl rfl (by simp only [Array.size_setIfInBounds, hsz1]; decide) (by go_simp) fun K hK => ?_
      go_simp
      refine (HNT.out _ HV2.out.1).mono ?_
      rintro e V3 ⟨rfl, t⟩
      have HV3 : Hid (Touch (fun _ => False) w V3 ∧ OpAt w.heap.size o V3) := ⟨HV2.out.1.trans t, HV2.out.2.keep t⟩
      clear t
      refine hK _ _ ?_
      clear hK K
      refine wpTo_plain rfl fun K hK => ?_
      go_simp
      refine hK _ _ ?_
      clear hK K
      refine wpTo_plain rfl fun K hK => ?_
      go_simp
      refine hK _ _ ?_
      clear hK K
      have e9 := HPpl.out
      simp only [Bool.true_and] at e9
      refine wpTo_nil ⟨_, rfl, ?_, ?_, ?_, HV3.out⟩
      · simp only [Array.size_setIfInBounds, hsz1]
      · go_simp
      · go_simp
  rintro _ W2 ⟨T2, rfl, hsz2, h2_1, h2_4, HW2⟩
  clear hsz1 h1_1 h1_15 HW1
  simp only [List.drop_succ_cons, List.drop_zero]
  go_upto_region 5 with fail
  refine wp_region_lit ?_
  refine wpList_cutAt 9 (fun a' w' => ∃ T', a' = ⟨T', []⟩ ∧ T'.size = 257 ∧ T'.getD 1 undef = .pointer (some ⟨w.heap.size, 0, none⟩) ∧ T'.getD 4 undef = .bool pl ∧ T'.getD 5 undef = .bool nw ∧ Hid (Touch (fun _ => False) w w' ∧ OpAt w.heap.size o w')) ?_ ?_
  · simp only [List.take_succ_cons, List.take_zero]
    have q4 := HW2.out.2.q4
    have q5 := HW2.out.2.q5
    refine wpTo_plain rfl fun K hK => ?_
    go_simp
    refine hK _ _ ?_
    clear hK K
    refine wpTo_plain rfl fun K hK => ?_
    go_simp
    refine hK _ _ ?_
    clear hK K
    clear q4 q5
    refine wpTo_plain rfl fun K hK => ?_
    go_simp
    refine (HOL.out _ HW2.out.1).mono ?_
    rintro e V4 ⟨rfl, t⟩
    have HV4 : Hid (Touch (fun _ => False) w V4 ∧ OpAt w.heap.size o V4) := ⟨HW2.out.1.trans t, HW2.out.2.keep t⟩
    clear t
    refine hK _ _ ?_
    clear hK K
    refine wpTo_plain rfl fun K hK => ?_
    go_simp
    refine hK _ _ ?_
    clear hK K
    cases m1
    · refine wpTo_skip 3 27 rfl rfl (by simp only [Array.size_setIfInBounds, hsz2]; decide) (by go_simp) ?_
      simp only [Act.put]
      refine wpTo_skip 3 27 rfl rfl (by simp only [Array.size_setIfInBounds, hsz2]; decide) (by go_simp) ?_
      simp only [Act.put]
      refine wpTo_skip 3 27 rfl rfl (by simp only [Array.size_setIfInBounds, hsz2]; decide) (by go_simp) ?_
      simp only [Act.put]
      refine wpTo_plain rfl fun K hK => ?_
      go_simp
      refine hK _ _ ?_
      clear hK K
      refine wpTo_plain rfl fun K hK => ?_
      go_simp
      refine hK _ _ ?_
      clear hK K
      have e9 := HPnw.out
      simp only [Bool.false_and] at e9
      refine wpTo_nil ⟨_, rfl, ?_, ?_, ?_, ?_, HV4.out⟩
      · simp only [Array.size_setIfInBounds, hsz2]
      · go_simp
      · go_simp
      · go_simp
    · have q6 := HV4.out.2.q6
      have q7 := HV4.out.2.q7
      refine wpTo_go 3 27 rfl rfl (by simp only [Array.size_setIfInBounds, hsz2]; decide) (by go_simp) fun K hK => ?_
      go_simp
      refine hK _ _ ?_
      clear hK K
      refine wpTo_go 3 27 rfl rfl (by simp only [Array.size_setIfInBounds, hsz2]; decide) (by go_simp) fun K hK => ?_
      go_simp
      refine hK _ _ ?_
      clear hK K
      clear q6 q7
      refine wpTo_go 3 27 rfl rfl (by simp only [Array.size_setIfInBounds, hsz2]; decide) (by go_simp) fun K hK => ?_
      go_simp
      refine (HOT.out _ HV4.out.1).mono ?_
      rintro e V5 ⟨rfl, t⟩
      have HV5 : Hid (Touch (fun _ => False) w V5 ∧ OpAt w.heap.size o V5) := ⟨HV4.out.1.trans t, HV4.out.2.keep t⟩
      clear t
      refine hK _ _ ?_
      clear hK K
      refine wpTo_plain rfl fun K hK => ?_
      go_simp
      refine hK _ _ ?_
      clear hK K
      refine wpTo_plain rfl fun K hK => ?_
      go_simp
      refine hK _ _ ?_
      clear hK K
      have e9 := HPnw.out
      simp only [Bool.true_and] at e9
      refine wpTo_nil ⟨_, rfl, ?_, ?_, ?_, ?_, HV5.out⟩
      · simp only [Array.size_setIfInBounds, hsz2]
      · go_simp
      · go_simp
      · go_simp
  rintro _ W3 ⟨T3, rfl, hsz3, h3_1, h3_4, h3_5, HW3⟩
  clear hsz2 h2_1 h2_4 HW2
  simp only [List.drop_succ_cons, List.drop_zero]
  go_upto_region 6 with fail
  refine wp_region_lit ?_
  refine wpList_cutAt 11 (fun a' w' => ∃ T', a' = ⟨T', []⟩ ∧ T'.size = 257 ∧ T'.getD 1 undef = .pointer (some ⟨w.heap.size, 0, none⟩) ∧ T'.getD 4 undef = .bool pl ∧ T'.getD 5 undef = .bool nw ∧ T'.getD 6 undef = .bool sp ∧ Hid (Touch (fun _ => False) w w' ∧ OpAt w.heap.size o w')) ?_ ?_
  · simp only [List.take_succ_cons, List.take_zero]
    by_cases hx1 : o.fc = 0
    rotate_left
    · have q16 := HW3.out.2.q16
      have q17 := HW3.out.2.q17
      have q18 := HW3.out.2.q18
      have hb1 : (o.fc == 0) = false := by simpa using hx1
      refine wpTo_plain rfl fun K hK => ?_
      go_simp
      refine hK _ _ ?_
      clear hK K
      refine wpTo_plain rfl fun K hK => ?_
      go_simp
      refine hK _ _ ?_
      clear hK K
      refine wpTo_plain rfl fun K hK => ?_
      go_simp
      refine hK _ _ ?_
      clear hK K
      refine wpTo_plain rfl fun K hK => ?_
      go_simp
      refine hK _ _ ?_
      clear hK K
      clear q16 q17 q18
      refine wpTo_plain rfl fun K hK => ?_
      go_simp
      refine hK _ _ ?_
      clear hK K
      refine wpTo_skip 4 36 rfl rfl (by simp only [Array.size_setIfInBounds, hsz3]; decide) (by go_simp) ?_
      simp only [Act.put]
      refine wpTo_skip 4 36 rfl rfl (by simp only [Array.size_setIfInBounds, hsz3]; decide) (by go_simp) ?_
      simp only [Act.put]
      refine wpTo_skip 4 36 rfl rfl (by simp only [Array.size_setIfInBounds, hsz3]; decide) (by go_simp) ?_
      simp only [Act.put]
      refine wpTo_skip 4 36 rfl rfl (by simp only [Array.size_setIfInBounds, hsz3]; decide) (by go_simp) ?_
      simp only [Act.put]
      refine wpTo_plain rfl fun K hK => ?_
      go_simp
      refine hK _ _ ?_
      clear hK K
      refine wpTo_plain rfl fun K hK => ?_
      go_simp
      refine hK _ _ ?_
      clear hK K
      have e9 : sp = false := by rw [HPsp.out]; simp [*]
      refine wpTo_nil ⟨_, rfl, ?_, ?_, ?_, ?_, ?_, HW3.out⟩
      · simp only [Array.size_setIfInBounds, hsz3]
      · go_simp
      · go_simp
      · go_simp
      · go_simp
    by_cases hx2 : o.fk = 0
    rotate_left
    · have q16 := HW3.out.2.q16
      have q17 := HW3.out.2.q17
      have q18 := HW3.out.2.q18
      have hb1 : (o.fk == 0) = false := by simpa using hx2
      rw [hx1] at q16
      refine wpTo_plain rfl fun K hK => ?_
      go_simp
      refine hK _ _ ?_
      clear hK K
      refine wpTo_plain rfl fun K hK => ?_
      go_simp
      refine hK _ _ ?_
      clear hK K
      refine wpTo_plain rfl fun K hK => ?_
      go_simp
      refine hK _ _ ?_
      clear hK K
      refine wpTo_plain rfl fun K hK => ?_
      go_simp
      refine hK _ _ ?_
      clear hK K
      clear q16 q17 q18
      refine wpTo_plain rfl fun K hK => ?_
      go_simp
      refine hK _ _ ?_
      clear hK K
      refine wpTo_skip 4 36 rfl rfl (by simp only [Array.size_setIfInBounds, hsz3]; decide) (by go_simp) ?_
      simp only [Act.put]
      refine wpTo_skip 4 36 rfl rfl (by simp only [Array.size_setIfInBounds, hsz3]; decide) (by go_simp) ?_
      simp only [Act.put]
      refine wpTo_skip 4 36 rfl rfl (by simp only [Array.size_setIfInBounds, hsz3]; decide) (by go_simp) ?_
      simp only [Act.put]
      refine wpTo_skip 4 36 rfl rfl (by simp only [Array.size_setIfInBounds, hsz3]; decide) (by go_simp) ?_
      simp only [Act.put]
      refine wpTo_plain rfl fun K hK => ?_
      go_simp
      refine hK _ _ ?_
      clear hK K
      refine wpTo_plain rfl fun K hK => ?_
      go_simp
      refine hK _ _ ?_
      clear hK K
      have e9 : sp = false := by rw [HPsp.out]; simp [*]
      refine wpTo_nil ⟨_, rfl, ?_, ?_, ?_, ?_, ?_, HW3.out⟩
      · simp only [Array.size_setIfInBounds, hsz3]
      · go_simp
      · go_simp
      · go_simp
      · go_simp
    cases hx3 : o.fa
    rotate_left
    · have q16 := HW3.out.2.q16
      have q17 := HW3.out.2.q17
      have q18 := HW3.out.2.q18
      rw [hx1] at q16
      rw [hx2] at q17
      rw [hx3] at q18
      refine wpTo_plain rfl fun K hK => ?_
      go_simp
      refine hK _ _ ?_
      clear hK K
      refine wpTo_plain rfl fun K hK => ?_
      go_simp
      refine hK _ _ ?_
      clear hK K
      refine wpTo_plain rfl fun K hK => ?_
      go_simp
      refine hK _ _ ?_
      clear hK K
      refine wpTo_plain rfl fun K hK => ?_
      go_simp
      refine hK _ _ ?_
      clear hK K
      clear q16 q17 q18
      refine wpTo_plain rfl fun K hK => ?_
      go_simp
      refine hK _ _ ?_
      clear hK K
      refine wpTo_skip 4 36 rfl rfl (by simp only [Array.size_setIfInBounds, hsz3]; decide) (by go_simp) ?_
      simp only [Act.put]
      refine wpTo_skip 4 36 rfl rfl (by simp only [Array.size_setIfInBounds, hsz3]; decide) (by go_simp) ?_
      simp only [Act.put]
      refine wpTo_skip 4 36 rfl rfl (by simp only [Array.size_setIfInBounds, hsz3]; decide) (by go_simp) ?_
      simp only [Act.put]
      refine wpTo_skip 4 36 rfl rfl (by simp only [Array.size_setIfInBounds, hsz3]; decide) (by go_simp) ?_
      simp only [Act.put]
      refine wpTo_plain rfl fun K hK => ?_
      go_simp
      refine hK _ _ ?_
      clear hK K
      refine wpTo_plain rfl fun K hK => ?_
      go_simp
      refine hK _ _ ?_
      clear hK K
      have e9 : sp = false := by rw [HPsp.out]; simp [*]
      refine wpTo_nil ⟨_, rfl, ?_, ?_, ?_, ?_, ?_, HW3.out⟩
      · simp only [Array.size_setIfInBounds, hsz3]
      · go_simp
      · go_simp
      · go_simp
      · go_simp
    · have q16 := HW3.out.2.q16
      have q17 := HW3.out.2.q17
      have q18 := HW3.out.2.q18
      rw [hx1] at q16
      rw [hx2] at q17
      rw [hx3] at q18
      refine wpTo_plain rfl fun K hK => ?_
      go_simp
      refine hK _ _ ?_
      clear hK K
      refine wpTo_plain rfl fun K hK => ?_
      go_simp
      refine hK _ _ ?_
      clear hK K
      refine wpTo_plain rfl fun K hK => ?_
      go_simp
      refine hK _ _ ?_
      clear hK K
      refine wpTo_plain rfl fun K hK => ?_
      go_simp
      refine hK _ _ ?_
      clear hK K
      clear q16 q17 q18
      refine wpTo_plain rfl fun K hK => ?_
      go_simp
      refine hK _ _ ?_
      clear hK K
      have hf1 := hx1
      have hf2 := hx2
      have hf3 := hx3
      clear hx1 hx2 hx3
      by_cases hx1 : o.tc = 0
      rotate_left
      · have q19 := HW3.out.2.q19
        have q20 := HW3.out.2.q20
        have q21 := HW3.out.2.q21
        have hb1 : (o.tc == 0) = false := by simpa using hx1
        refine wpTo_go 4 36 rfl rfl (by simp only [Array.size_setIfInBounds, hsz3]; decide) (by go_simp) fun K hK => ?_
        go_simp
        refine hK _ _ ?_
        clear hK K
        refine wpTo_go 4 36 rfl rfl (by simp only [Array.size_setIfInBounds, hsz3]; decide) (by go_simp) fun K hK => ?_
        go_simp
        refine hK _ _ ?_
        clear hK K
        refine wpTo_go 4 36 rfl rfl (by simp only [Array.size_setIfInBounds, hsz3]; decide) (by go_simp) fun K hK => ?_
        go_simp
        refine hK _ _ ?_
        clear hK K
        refine wpTo_go 4 36 rfl rfl (by simp only [Array.size_setIfInBounds, hsz3]; decide) (by go_simp) fun K hK => ?_
        go_simp
        refine hK _ _ ?_
        clear hK K
        clear q19 q20 q21
        refine wpTo_plain rfl fun K hK => ?_
        go_simp
        refine hK _ _ ?_
        clear hK K
        refine wpTo_plain rfl fun K hK => ?_
        go_simp
        refine hK _ _ ?_
        clear hK K
        have e9 : sp = false := by rw [HPsp.out]; simp [*]
        refine wpTo_nil ⟨_, rfl, ?_, ?_, ?_, ?_, ?_, HW3.out⟩
        · simp only [Array.size_setIfInBounds, hsz3]
        · go_simp
        · go_simp
        · go_simp
        · go_simp
      by_cases hx2 : o.tk = 0
      rotate_left
      · have q19 := HW3.out.2.q19
        have q20 := HW3.out.2.q20
        have q21 := HW3.out.2.q21
        have hb1 : (o.tk == 0) = false := by simpa using hx2
        rw [hx1] at q19
        refine wpTo_go 4 36 rfl rfl (by simp only [Array.size_setIfInBounds, hsz3]; decide) (by go_simp) fun K hK => ?_
        go_simp
        refine hK _ _ ?_
        clear hK K
        refine wpTo_go 4 36 rfl rfl (by simp only [Array.size_setIfInBounds, hsz3]; decide) (by go_simp) fun K hK => ?_
        go_simp
        refine hK _ _ ?_
        clear hK K
        refine wpTo_go 4 36 rfl rfl (by simp only [Array.size_setIfInBounds, hsz3]; decide) (by go_simp) fun K hK => ?_
        go_simp
        refine hK _ _ ?_
        clear hK K
        refine wpTo_go 4 36 rfl rfl (by simp only [Array.size_setIfInBounds, hsz3]; decide) (by go_simp) fun K hK => ?_
        go_simp
        refine hK _ _ ?_
        clear hK K
        clear q19 q20 q21
        refine wpTo_plain rfl fun K hK => ?_
        go_simp
        refine hK _ _ ?_
        clear hK K
        refine wpTo_plain rfl fun K hK => ?_
        go_simp
        refine hK _ _ ?_
        clear hK K
        have e9 : sp = false := by rw [HPsp.out]; simp [*]
        refine wpTo_nil ⟨_, rfl, ?_, ?_, ?_, ?_, ?_, HW3.out⟩
        · simp only [Array.size_setIfInBounds, hsz3]
        · go_simp
        · go_simp
        · go_simp
        · go_simp
      cases hx3 : o.ta
      rotate_left
      · have q19 := HW3.out.2.q19
        have q20 := HW3.out.2.q20
        have q21 := HW3.out.2.q21
        rw [hx1] at q19
        rw [hx2] at q20
        rw [hx3] at q21
        refine wpTo_go 4 36 rfl rfl (by simp only [Array.size_setIfInBounds, hsz3]; decide) (by go_simp) fun K hK => ?_
        go_simp
        refine hK _ _ ?_
        clear hK K
        refine wpTo_go 4 36 rfl rfl (by simp only [Array.size_setIfInBounds, hsz3]; decide) (by go_simp) fun K hK => ?_
        go_simp
        refine hK _ _ ?_
        clear hK K
        refine wpTo_go 4 36 rfl rfl (by simp only [Array.size_setIfInBounds, hsz3]; decide) (by go_simp) fun K hK => ?_
        go_simp
        refine hK _ _ ?_
        clear hK K
        refine wpTo_go 4 36 rfl rfl (by simp only [Array.size_setIfInBounds, hsz3]; decide) (by go_simp) fun K hK => ?_
        go_simp
        refine hK _ _ ?_
        clear hK K
        clear q19 q20 q21
        refine wpTo_plain rfl fun K hK => ?_
        go_simp
        refine hK _ _ ?_
        clear hK K
        refine wpTo_plain rfl fun K hK => ?_
        go_simp
        refine hK _ _ ?_
        clear hK K
        have e9 : sp = false := by rw [HPsp.out]; simp [*]
        refine wpTo_nil ⟨_, rfl, ?_, ?_, ?_, ?_, ?_, HW3.out⟩
        · simp only [Array.size_setIfInBounds, hsz3]
        · go_simp
        · go_simp
        · go_simp
        · go_simp
      · have q19 := HW3.out.2.q19
        have q20 := HW3.out.2.q20
        have q21 := HW3.out.2.q21
        rw [hx1] at q19
        rw [hx2] at q20
        rw [hx3] at q21
        refine wpTo_go 4 36 rfl rfl (by simp only [Array.size_setIfInBounds, hsz3]; decide) (by go_simp) fun K hK => ?_
        go_simp
        refine hK _ _ ?_
        clear hK K
        refine wpTo_go 4 36 rfl rfl (by simp only [Array.size_setIfInBounds, hsz3]; decide) (by go_simp) fun K hK => ?_
        go_simp
        refine hK _ _ ?_
        clear hK K
        refine wpTo_go 4 36 rfl rfl (by simp only [Array.size_setIfInBounds, hsz3]; decide) (by go_simp) fun K hK => ?_
        go_simp
        refine hK _ _ ?_
        clear hK K
        refine wpTo_go 4 36 rfl rfl (by simp only [Array.size_setIfInBounds, hsz3]; decide) (by go_simp) fun K hK => ?_
        go_simp
        refine hK _ _ ?_
        clear hK K
        clear q19 q20 q21
        refine wpTo_plain rfl fun K hK => ?_
        go_simp
        refine hK _ _ ?_
        clear hK K
        refine wpTo_plain rfl fun K hK => ?_
        go_simp
        refine hK _ _ ?_
        clear hK K
        have e9 : sp = true := by rw [HPsp.out]; simp [*]
        refine wpTo_nil ⟨_, rfl, ?_, ?_, ?_, ?_, ?_, HW3.out⟩
        · simp only [Array.size_setIfInBounds, hsz3]
        · go_simp
        · go_simp
        · go_simp
        · go_simp
  rintro _ W4 ⟨T4, rfl, hsz4, h4_1, h4_4, h4_5, h4_6, HW4⟩
  clear hsz3 h3_1 h3_4 h3_5 HW3
  simp only [List.drop_succ_cons, List.drop_zero]
  go_upto_region 7 with fail
  refine wp_region_lit ?_
  refine wpList_cutAt 9 (fun a' w' => ∃ T', a' = ⟨T', []⟩ ∧ T'.size = 257 ∧ T'.getD 1 undef = .pointer (some ⟨w.heap.size, 0, none⟩) ∧ T'.getD 4 undef = .bool pl ∧ T'.getD 5 undef = .bool nw ∧ T'.getD 6 undef = .bool sp ∧ T'.getD 7 undef = .bool sm ∧ Hid (Touch (fun _ => False) w w' ∧ OpAt w.heap.size o w')) ?_ ?_
  · simp only [List.take_succ_cons, List.take_zero]
    by_cases hx1 : 1 ≤ o.st
    · have q3 := HW4.out.2.q3
      refine wpTo_plain rfl fun K hK => ?_
      go_simp
      refine hK _ _ ?_
      clear hK K
      refine wpTo_plain rfl fun K hK => ?_
      go_simp
      refine hK _ _ ?_
      clear hK K
      refine wpTo_plain rfl fun K hK => ?_
      go_simp
      refine hK _ _ ?_
      clear hK K
      refine wpTo_plain rfl fun K hK => ?_
      go_simp
      refine hK _ _ ?_
      clear hK K
      by_cases hx2 : o.st ≤ 9007199254740991
      · refine wpTo_go 3 45 rfl rfl (by simp only [Array.size_setIfInBounds, hsz4]; decide) (by go_simp) fun K hK => ?_
        go_simp
        refine hK _ _ ?_
        clear hK K
        refine wpTo_go 3 45 rfl rfl (by simp only [Array.size_setIfInBounds, hsz4]; decide) (by go_simp) fun K hK => ?_
        go_simp
        refine hK _ _ ?_
        clear hK K
        refine wpTo_go 3 45 rfl rfl (by simp only [Array.size_setIfInBounds, hsz4]; decide) (by go_simp) fun K hK => ?_
        go_simp
        refine hK _ _ ?_
        clear hK K
        clear q3
        refine wpTo_plain rfl fun K hK => ?_
        go_simp
        refine hK _ _ ?_
        clear hK K
        refine wpTo_plain rfl fun K hK => ?_
        go_simp
        refine hK _ _ ?_
        clear hK K
        have e9 : sm = true := by rw [HPsm.out]; simp [*]
        refine wpTo_nil ⟨_, rfl, ?_, ?_, ?_, ?_, ?_, ?_, HW4.out⟩
        · simp only [Array.size_setIfInBounds, hsz4]
        · go_simp
        · go_simp
        · go_simp
        · go_simp
        · go_simp
      · refine wpTo_go 3 45 rfl rfl (by simp only [Array.size_setIfInBounds, hsz4]; decide) (by go_simp) fun K hK => ?_
        go_simp
        refine hK _ _ ?_
        clear hK K
        refine wpTo_go 3 45 rfl rfl (by simp only [Array.size_setIfInBounds, hsz4]; decide) (by go_simp) fun K hK => ?_
        go_simp
        refine hK _ _ ?_
        clear hK K
        refine wpTo_go 3 45 rfl rfl (by simp only [Array.size_setIfInBounds, hsz4]; decide) (by go_simp) fun K hK => ?_
        go_simp
        refine hK _ _ ?_
        clear hK K
        clear q3
        refine wpTo_plain rfl fun K hK => ?_
        go_simp
        refine hK _ _ ?_
        clear hK K
        refine wpTo_plain rfl fun K hK => ?_
        go_simp
        refine hK _ _ ?_
        clear hK K
        have hx3 : 9007199254740991 < o.st := by omega
        have e9 : sm = false := by rw [HPsm.out]; simp [*]
        refine wpTo_nil ⟨_, rfl, ?_, ?_, ?_, ?_, ?_, ?_, HW4.out⟩
        · simp only [Array.size_setIfInBounds, hsz4]
        · go_simp
        · go_simp
        · go_simp
        · go_simp
        · go_simp
    · have q3 := HW4.out.2.q3
      refine wpTo_plain rfl fun K hK => ?_
      go_simp
      refine hK _ _ ?_
      clear hK K
      refine wpTo_plain rfl fun K hK => ?_
      go_simp
      refine hK _ _ ?_
      clear hK K
      refine wpTo_plain rfl fun K hK => ?_
      go_simp
      refine hK _ _ ?_
      clear hK K
      refine wpTo_plain rfl fun K hK => ?_
      go_simp
      refine hK _ _ ?_
      clear hK K
      clear q3
      refine wpTo_skip 3 45 rfl rfl (by simp only [Array.size_setIfInBounds, hsz4]; decide) (by go_simp) ?_
      simp only [Act.put]
      refine wpTo_skip 3 45 rfl rfl (by simp only [Array.size_setIfInBounds, hsz4]; decide) (by go_simp) ?_
      simp only [Act.put]
      refine wpTo_skip 3 45 rfl rfl (by simp only [Array.size_setIfInBounds, hsz4]; decide) (by go_simp) ?_
      simp only [Act.put]
      refine wpTo_plain rfl fun K hK => ?_
      go_simp
      refine hK _ _ ?_
      clear hK K
      refine wpTo_plain rfl fun K hK => ?_
      go_simp
      refine hK _ _ ?_
      clear hK K
      have hx3 : o.st < 1 := by omega
      have e9 : sm = false := by rw [HPsm.out]; simp [*]
      refine wpTo_nil ⟨_, rfl, ?_, ?_, ?_, ?_, ?_, ?_, HW4.out⟩
      · simp only [Array.size_setIfInBounds, hsz4]
      · go_simp
      · go_simp
      · go_simp
      · go_simp
      · go_simp
  rintro _ W5 ⟨T5, rfl, hsz5, h5_1, h5_4, h5_5, h5_6, h5_7, HW5⟩
  clear hsz4 h4_1 h4_4 h4_5 h4_6 HW4
  simp only [List.drop_succ_cons, List.drop_zero]
  go_upto_region 8 with fail
  refine wp_region_lit ?_
  refine wpList_cutAt 5 (fun a' w' => ∃ T', a' = ⟨T', []⟩ ∧ T'.size = 257 ∧ T'.getD 1 undef = .pointer (some ⟨w.heap.size, 0, none⟩) ∧ T'.getD 4 undef = .bool pl ∧ T'.getD 5 undef = .bool nw ∧ T'.getD 6 undef = .bool sp ∧ T'.getD 7 undef = .bool sm ∧ T'.getD 8 undef = .bool vl ∧ Hid (Touch (fun _ => False) w w' ∧ OpAt w.heap.size o w')) ?_ ?_
  · simp only [List.take_succ_cons, List.take_zero]
    have q9 := HW5.out.2.q9
    have q10 := HW5.out.2.q10
    have q11 := HW5.out.2.q11
    have q12 := HW5.out.2.q12
    refine wpTo_plain rfl fun K hK => ?_
    go_simp
    refine hK _ _ ?_
    clear hK K
    refine wpTo_plain rfl fun K hK => ?_
    go_simp
    refine hK _ _ ?_
    clear hK K
    clear q9 q10 q11 q12
    refine wpTo_plain rfl fun K hK => ?_
    go_simp
    refine (HV.out _ HW5.out.1).mono ?_
    rintro e V6 ⟨rfl, t⟩
    have HV6 : Hid (Touch (fun _ => False) w V6 ∧ OpAt w.heap.size o V6) := ⟨HW5.out.1.trans t, HW5.out.2.keep t⟩
    clear t
    refine hK _ _ ?_
    clear hK K
    refine wpTo_plain rfl fun K hK => ?_
    go_simp
    refine hK _ _ ?_
    clear hK K
    refine wpTo_plain rfl fun K hK => ?_
    go_simp
    refine hK _ _ ?_
    clear hK K
    have e9 := HPvl.out
    refine wpTo_nil ⟨_, rfl, ?_, ?_, ?_, ?_, ?_, ?_, ?_, HV6.out⟩
    · simp only [Array.size_setIfInBounds, hsz5]
    · go_simp
    · go_simp
    · go_simp
    · go_simp
    · go_simp
    · go_simp
  rintro _ W6 ⟨T6, rfl, hsz6, h6_1, h6_4, h6_5, h6_6, h6_7, h6_8, HW6⟩
  clear hsz5 h5_1 h5_4 h5_5 h5_6 h5_7 HW5
  simp only [List.drop_succ_cons, List.drop_zero]
  go_upto_region 9 with fail
  refine wp_region_lit ?_
  refine wpList_cutAt 2 (fun a' w' => ∃ T', a' = ⟨T', []⟩ ∧ T'.size = 257 ∧ T'.getD 1 undef = .pointer (some ⟨w.heap.size, 0, none⟩) ∧ T'.getD 4 undef = .bool pl ∧ T'.getD 5 undef = .bool nw ∧ T'.getD 6 undef = .bool sp ∧ T'.getD 7 undef = .bool sm ∧ T'.getD 8 undef = .bool vl ∧ T'.getD 55 undef = .int .i64 4 ∧ Hid (Touch (fun _ => False) w w' ∧ OpAt w.heap.size o w')) ?_ ?_
  · simp only [List.take_succ_cons, List.take_zero]
    have q2 := HW6.out.2.q2
    rw [HKK.out] at q2
    refine wpTo_plain rfl fun K hK => ?_
    go_simp
    refine hK _ _ ?_
    clear hK K
    refine wpTo_plain rfl fun K hK => ?_
    go_simp
    refine hK _ _ ?_
    clear hK K
    clear q2
    refine wpTo_nil ⟨_, rfl, ?_, ?_, ?_, ?_, ?_, ?_, ?_, ?_, HW6.out⟩
    · simp only [Array.size_setIfInBounds, hsz6]
    · go_simp
    · go_simp
    · go_simp
    · go_simp
    · go_simp
    · go_simp
    · go_simp
  rintro _ W7 ⟨T7, rfl, hsz7, h7_1, h7_4, h7_5, h7_6, h7_7, h7_8, h7_55, HW7⟩
  clear hsz6 h6_1 h6_4 h6_5 h6_6 h6_7 h6_8 HW6
  simp only [List.drop_succ_cons, List.drop_zero]
  go_upto_region 11 with fail
  refine wp_abs (fun T => T.size = 257 ∧ T.getD 1 undef = .pointer (some ⟨w.heap.size, 0, none⟩) ∧ T.getD 4 undef = .bool pl ∧ T.getD 5 undef = .bool nw ∧ T.getD 6 undef = .bool sp ∧ T.getD 7 undef = .bool sm ∧ T.getD 8 undef = .bool vl ∧ T.getD 55 undef = .int .i64 4 ∧ T.getD 56 undef = .bool false) ⟨by simp only [Array.size_setIfInBounds, hsz7], by go_simp, by go_simp, by go_simp, by go_simp, by go_simp, by go_simp, by go_simp, by go_simp⟩ ?_
  intro T8 ⟨hsz8, h8_1, h8_4, h8_5, h8_6, h8_7, h8_8, h8_55, h8_56⟩
  clear hsz7 h7_1 h7_4 h7_5 h7_6 h7_7 h7_8 h7_55
  have HW8 := HW7
  clear HW7
  refine wp_cond_false h8_56 ?_
  go_upto_region 14 with fail
  refine wp_abs (fun T => T.size = 257 ∧ T.getD 1 undef = .pointer (some ⟨w.heap.size, 0, none⟩) ∧ T.getD 4 undef = .bool pl ∧ T.getD 5 undef = .bool nw ∧ T.getD 6 undef = .bool sp ∧ T.getD 7 undef = .bool sm ∧ T.getD 8 undef = .bool vl ∧ T.getD 55 undef = .int .i64 4 ∧ T.getD 108 undef = .bool false) ⟨by simp only [Array.size_setIfInBounds, hsz8], by go_simp, by go_simp, by go_simp, by go_simp, by go_simp, by go_simp, by go_simp, by go_simp⟩ ?_
  intro T9 ⟨hsz9, h9_1, h9_4, h9_5, h9_6, h9_7, h9_8, h9_55, h9_108⟩
  clear hsz8 h8_1 h8_4 h8_5 h8_6 h8_7 h8_8 h8_55 h8_56
  have HW9 := HW8
  clear HW8
  refine wp_cond_false h9_108 ?_
  go_upto_region 16 with fail
  refine wp_abs (fun T => T.size = 257 ∧ T.getD 1 undef = .pointer (some ⟨w.heap.size, 0, none⟩) ∧ T.getD 4 undef = .bool pl ∧ T.getD 5 undef = .bool nw ∧ T.getD 6 undef = .bool sp ∧ T.getD 7 undef = .bool sm ∧ T.getD 8 undef = .bool vl ∧ T.getD 55 undef = .int .i64 4 ∧ T.getD 143 undef = .bool false) ⟨by simp only [Array.size_setIfInBounds, hsz9], by go_simp, by go_simp, by go_simp, by go_simp, by go_simp, by go_simp, by go_simp, by go_simp⟩ ?_
  intro T10 ⟨hsz10, h10_1, h10_4, h10_5, h10_6, h10_7, h10_8, h10_55, h10_143⟩
  clear hsz9 h9_1 h9_4 h9_5 h9_6 h9_7 h9_8 h9_55 h9_108
  have HW10 := HW9
  clear HW9
  refine wp_cond_false h10_143 ?_
  go_upto_region 18 with fail
  refine wp_abs (fun T => T.size = 257 ∧ T.getD 1 undef = .pointer (some ⟨w.heap.size, 0, none⟩) ∧ T.getD 4 undef = .bool pl ∧ T.getD 5 undef = .bool nw ∧ T.getD 6 undef = .bool sp ∧ T.getD 7 undef = .bool sm ∧ T.getD 8 undef = .bool vl ∧ T.getD 55 undef = .int .i64 4 ∧ T.getD 185 undef = .bool true) ⟨by simp only [Array.size_setIfInBounds, hsz10], by go_simp, by go_simp, by go_simp, by go_simp, by go_simp, by go_simp, by go_simp, by go_simp⟩ ?_
  intro T11 ⟨hsz11, h11_1, h11_4, h11_5, h11_6, h11_7, h11_8, h11_55, h11_185⟩
  clear hsz10 h10_1 h10_4 h10_5 h10_6 h10_7 h10_8 h10_55 h10_143
  have HW11 := HW10
  clear HW10
  refine wp_cond_true h11_185 ?_
  go_upto_region 18 with fail
  refine wp_region_lit ?_
  refine wpList_cutAt 4 (fun a' w' => ∃ T', a' = ⟨T', []⟩ ∧ T'.size = 257 ∧ T'.getD 1 undef = .pointer (some ⟨w.heap.size, 0, none⟩) ∧ T'.getD 6 undef = .bool sp ∧ T'.getD 7 undef = .bool sm ∧ T'.getD 8 undef = .bool vl ∧ T'.getD 190 undef = .bool k2 ∧ Hid (Touch (fun _ => False) w w' ∧ OpAt w.heap.size o w')) ?_ ?_
  · simp only [List.take_succ_cons, List.take_zero]
    refine wpTo_plain rfl fun K hK => ?_
    go_simp
    refine hK _ _ ?_
    clear hK K
    refine wpTo_plain rfl fun K hK => ?_
    go_simp
    refine hK _ _ ?_
    clear hK K
    cases nw
    · refine wpTo_skip 1 188 rfl rfl (by simp only [Array.size_setIfInBounds, hsz11]; decide) (by go_simp) ?_
      simp only [Act.put]
      refine wpTo_plain rfl fun K hK => ?_
      go_simp
      refine hK _ _ ?_
      clear hK K
      have e9 := HPk2.out
      simp only [Bool.false_and] at e9
      refine wpTo_nil ⟨_, rfl, ?_, ?_, ?_, ?_, ?_, ?_, HW11.out⟩
      · simp only [Array.size_setIfInBounds, hsz11]
      · go_simp
      · go_simp
      · go_simp
      · go_simp
      · go_simp
    · refine wpTo_go 1 188 rfl rfl (by simp only [Array.size_setIfInBounds, hsz11]; decide) (by go_simp) fun K hK => ?_
      go_simp
      refine hK _ _ ?_
      clear hK K
      refine wpTo_plain rfl fun K hK => ?_
      go_simp
      refine hK _ _ ?_
      clear hK K
      have e9 := HPk2.out
      simp only [Bool.true_and] at e9
      refine wpTo_nil ⟨_, rfl, ?_, ?_, ?_, ?_, ?_, ?_, HW11.out⟩
      · simp only [Array.size_setIfInBounds, hsz11]
      · go_simp
      · go_simp
      · go_simp
      · go_simp
      · go_simp
  rintro _ W12 ⟨T12, rfl, hsz12, h12_1, h12_6, h12_7, h12_8, h12_190, HW12⟩
  clear hsz11 h11_1 h11_4 h11_5 h11_6 h11_7 h11_8 h11_55 h11_185 HW11
  simp only [List.drop_succ_cons, List.drop_zero]
  refine wpList_cutAt 5 (fun a' w' => ∃ T', a' = ⟨T', []⟩ ∧ T'.size = 257 ∧ T'.getD 1 undef = .pointer (some ⟨w.heap.size, 0, none⟩) ∧ T'.getD 6 undef = .bool sp ∧ T'.getD 7 undef = .bool sm ∧ T'.getD 8 undef = .bool vl ∧ T'.getD 195 undef = .bool k3 ∧ Hid (Touch (fun _ => False) w w' ∧ OpAt w.heap.size o w')) ?_ ?_
  · simp only [List.take_succ_cons, List.take_zero]
    refine wpTo_plain rfl fun K hK => ?_
    go_simp
    refine hK _ _ ?_
    clear hK K
    cases k2
    · refine wpTo_skip 4 191 rfl rfl (by simp only [Array.size_setIfInBounds, hsz12]; decide) (by go_simp) ?_
      simp only [Act.put]
      refine wpTo_skip 4 191 rfl rfl (by simp only [Array.size_setIfInBounds, hsz12]; decide) (by go_simp) ?_
      simp only [Act.put]
      refine wpTo_skip 4 191 rfl rfl (by simp only [Array.size_setIfInBounds, hsz12]; decide) (by go_simp) ?_
      simp only [Act.put]
      refine wpTo_plain rfl fun K hK => ?_
      go_simp
      refine hK _ _ ?_
      clear hK K
      have e9 := HPk3.out
      simp only [Bool.false_and] at e9
      refine wpTo_nil ⟨_, rfl, ?_, ?_, ?_, ?_, ?_, ?_, HW12.out⟩
      · simp only [Array.size_setIfInBounds, hsz12]
      · go_simp
      · go_simp
      · go_simp
      · go_simp
      · go_simp
    · have q14 := HW12.out.2.q14
      have q15 := HW12.out.2.q15
      refine wpTo_go 4 191 rfl rfl (by simp only [Array.size_setIfInBounds, hsz12]; decide) (by go_simp) fun K hK => ?_
      go_simp
      refine hK _ _ ?_
      clear hK K
      refine wpTo_go 4 191 rfl rfl (by simp only [Array.size_setIfInBounds, hsz12]; decide) (by go_simp) fun K hK => ?_
      go_simp
      refine hK _ _ ?_
      clear hK K
      clear q14 q15
      refine wpTo_go 4 191 rfl rfl (by simp only [Array.size_setIfInBounds, hsz12]; decide) (by go_simp) fun K hK => ?_
      go_simp
      refine (HNP.out _ HW12.out.1).mono ?_
      rintro e V7 ⟨rfl, t⟩
      have HV7 : Hid (Touch (fun _ => False) w V7 ∧ OpAt w.heap.size o V7) := ⟨HW12.out.1.trans t, HW12.out.2.keep t⟩
      clear t
      refine hK _ _ ?_
      clear hK K
      refine wpTo_plain rfl fun K hK => ?_
      go_simp
      refine hK _ _ ?_
      clear hK K
      have e9 := HPk3.out
      simp only [Bool.true_and] at e9
      refine wpTo_nil ⟨_, rfl, ?_, ?_, ?_, ?_, ?_, ?_, HV7.out⟩
      · simp only [Array.size_setIfInBounds, hsz12]
      · go_simp
      · go_simp
      · go_simp
      · go_simp
      · go_simp
  rintro _ W13 ⟨T13, rfl, hsz13, h13_1, h13_6, h13_7, h13_8, h13_195, HW13⟩
  clear hsz12 h12_1 h12_6 h12_7 h12_8 h12_190 HW12
  simp only [List.drop_succ_cons, List.drop_zero]
  refine wpList_cutAt 5 (fun a' w' => ∃ T', a' = ⟨T', []⟩ ∧ T'.size = 257 ∧ T'.getD 1 undef = .pointer (some ⟨w.heap.size, 0, none⟩) ∧ T'.getD 6 undef = .bool sp ∧ T'.getD 7 undef = .bool sm ∧ T'.getD 8 undef = .bool vl ∧ T'.getD 200 undef = .bool k4 ∧ Hid (Touch (fun _ => False) w w' ∧ OpAt w.heap.size o w')) ?_ ?_
  · simp only [List.take_succ_cons, List.take_zero]
    refine wpTo_plain rfl fun K hK => ?_
    go_simp
    refine hK _ _ ?_
    clear hK K
    cases k3
    · refine wpTo_skip 9 196 rfl rfl (by simp only [Array.size_setIfInBounds, hsz13]; decide) (by go_simp) ?_
      simp only [Act.put]
      refine wpTo_skip 9 196 rfl rfl (by simp only [Array.size_setIfInBounds, hsz13]; decide) (by go_simp) ?_
      simp only [Act.put]
      refine wpTo_skip 9 196 rfl rfl (by simp only [Array.size_setIfInBounds, hsz13]; decide) (by go_simp) ?_
      simp only [Act.put]
      refine wpTo_plain rfl fun K hK => ?_
      go_simp
      refine hK _ _ ?_
      clear hK K
      have e9 := HPk4.out
      simp only [Bool.false_and] at e9
      refine wpTo_nil ⟨_, rfl, ?_, ?_, ?_, ?_, ?_, ?_, HW13.out⟩
      · simp only [Array.size_setIfInBounds, hsz13]
      · go_simp
      · go_simp
      · go_simp
      · go_simp
      · go_simp
    · have q13 := HW13.out.2.q13
      refine wpTo_go 9 196 rfl rfl (by simp only [Array.size_setIfInBounds, hsz13]; decide) (by go_simp) fun K hK => ?_
      go_simp
      refine hK _ _ ?_
      clear hK K
      refine wpTo_go 9 196 rfl rfl (by simp only [Array.size_setIfInBounds, hsz13]; decide) (by go_simp) fun K hK => ?_
      go_simp
      refine hK _ _ ?_
      clear hK K
      clear q13
      refine wpTo_go 9 196 rfl rfl (by simp only [Array.size_setIfInBounds, hsz13]; decide) (by go_simp) fun K hK => ?_
      go_simp
      refine (HKY.out _ HW13.out.1).mono ?_
      rintro e V8 ⟨rfl, t⟩
      have HV8 : Hid (Touch (fun _ => False) w V8 ∧ OpAt w.heap.size o V8) := ⟨HW13.out.1.trans t, HW13.out.2.keep t⟩
      clear t
      refine hK _ _ ?_
      clear hK K
      refine wpTo_plain rfl fun K hK => ?_
      go_simp
      refine hK _ _ ?_
      clear hK K
      have e9 := HPk4.out
      simp only [Bool.true_and] at e9
      refine wpTo_nil ⟨_, rfl, ?_, ?_, ?_, ?_, ?_, ?_, HV8.out⟩
      · simp only [Array.size_setIfInBounds, hsz13]
      · go_simp
      · go_simp
      · go_simp
      · go_simp
      · go_simp
  rintro _ W14 ⟨T14, rfl, hsz14, h14_1, h14_6, h14_7, h14_8, h14_200, HW14⟩
  clear hsz13 h13_1 h13_6 h13_7 h13_8 h13_195 HW13
  simp only [List.drop_succ_cons, List.drop_zero]
  refine wpList_cutAt 3 (fun a' w' => ∃ T', a' = ⟨T', []⟩ ∧ T'.size = 257 ∧ T'.getD 1 undef = .pointer (some ⟨w.heap.size, 0, none⟩) ∧ T'.getD 6 undef = .bool sp ∧ T'.getD 7 undef = .bool sm ∧ T'.getD 8 undef = .bool vl ∧ T'.getD 203 undef = .bool k5 ∧ Hid (Touch (fun _ => False) w w' ∧ OpAt w.heap.size o w')) ?_ ?_
  · simp only [List.take_succ_cons, List.take_zero]
    refine wpTo_plain rfl fun K hK => ?_
    go_simp
    refine hK _ _ ?_
    clear hK K
    cases k4
    · refine wpTo_skip 14 201 rfl rfl (by simp only [Array.size_setIfInBounds, hsz14]; decide) (by go_simp) ?_
      simp only [Act.put]
      refine wpTo_plain rfl fun K hK => ?_
      go_simp
      refine hK _ _ ?_
      clear hK K
      have e9 := HPk5.out
      simp only [Bool.false_and] at e9
      refine wpTo_nil ⟨_, rfl, ?_, ?_, ?_, ?_, ?_, ?_, HW14.out⟩
      · simp only [Array.size_setIfInBounds, hsz14]
      · go_simp
      · go_simp
      · go_simp
      · go_simp
      · go_simp
    · refine wpTo_go 14 201 rfl rfl (by simp only [Array.size_setIfInBounds, hsz14]; decide) (by go_simp) fun K hK => ?_
      go_simp
      refine hK _ _ ?_
      clear hK K
      refine wpTo_plain rfl fun K hK => ?_
      go_simp
      refine hK _ _ ?_
      clear hK K
      have e9 := HPk5.out
      simp only [Bool.true_and] at e9
      refine wpTo_nil ⟨_, rfl, ?_, ?_, ?_, ?_, ?_, ?_, HW14.out⟩
      · simp only [Array.size_setIfInBounds, hsz14]
      · go_simp
      · go_simp
      · go_simp
      · go_simp
      · go_simp
  rintro _ W15 ⟨T15, rfl, hsz15, h15_1, h15_6, h15_7, h15_8, h15_203, HW15⟩
  clear hsz14 h14_1 h14_6 h14_7 h14_8 h14_200 HW14
  simp only [List.drop_succ_cons, List.drop_zero]
  refine wpList_cutAt 3 (fun a' w' => ∃ T', a' = ⟨T', []⟩ ∧ T'.size = 257 ∧ T'.getD 1 undef = .pointer (some ⟨w.heap.size, 0, none⟩) ∧ T'.getD 6 undef = .bool sp ∧ T'.getD 7 undef = .bool sm ∧ T'.getD 8 undef = .bool vl ∧ T'.getD 206 undef = .bool k6 ∧ Hid (Touch (fun _ => False) w w' ∧ OpAt w.heap.size o w')) ?_ ?_
  · simp only [List.take_succ_cons, List.take_zero]
    refine wpTo_plain rfl fun K hK => ?_
    go_simp
    refine hK _ _ ?_
    clear hK K
    cases k5
    · refine wpTo_skip 17 204 rfl rfl (by simp only [Array.size_setIfInBounds, hsz15]; decide) (by go_simp) ?_
      simp only [Act.put]
      refine wpTo_plain rfl fun K hK => ?_
      go_simp
      refine hK _ _ ?_
      clear hK K
      have e9 := HPk6.out
      simp only [Bool.false_and] at e9
      refine wpTo_nil ⟨_, rfl, ?_, ?_, ?_, ?_, ?_, ?_, HW15.out⟩
      · simp only [Array.size_setIfInBounds, hsz15]
      · go_simp
      · go_simp
      · go_simp
      · go_simp
      · go_simp
    · refine wpTo_go 17 204 rfl rfl (by simp only [Array.size_setIfInBounds, hsz15]; decide) (by go_simp) fun K hK => ?_
      go_simp
      refine hK _ _ ?_
      clear hK K
      refine wpTo_plain rfl fun K hK => ?_
      go_simp
      refine hK _ _ ?_
      clear hK K
      have e9 := HPk6.out
      simp only [Bool.true_and] at e9
      refine wpTo_nil ⟨_, rfl, ?_, ?_, ?_, ?_, ?_, ?_, HW15.out⟩
      · simp only [Array.size_setIfInBounds, hsz15]
      · go_simp
      · go_simp
      · go_simp
      · go_simp
      · go_simp
  rintro _ W16 ⟨T16, rfl, hsz16, h16_1, h16_6, h16_7, h16_8, h16_206, HW16⟩
  clear hsz15 h15_1 h15_6 h15_7 h15_8 h15_203 HW15
  simp only [List.drop_succ_cons, List.drop_zero]
  refine wpList_cutAt 6 (fun a' w' => ∃ T', a' = ⟨T', []⟩ ∧ T'.size = 257 ∧ T'.getD 1 undef = .pointer (some ⟨w.heap.size, 0, none⟩) ∧ T'.getD 3 undef = .bool k7 ∧ T'.getD 6 undef = .bool sp ∧ T'.getD 7 undef = .bool sm ∧ T'.getD 8 undef = .bool vl ∧ Hid (Touch (fun _ => False) w w' ∧ OpAt w.heap.size o w')) ?_ ?_
  · simp only [List.take_succ_cons, List.take_zero]
    refine wpTo_plain rfl fun K hK => ?_
    go_simp
    refine hK _ _ ?_
    clear hK K
    cases k6
    · refine wpTo_skip 20 207 rfl rfl (by simp only [Array.size_setIfInBounds, hsz16]; decide) (by go_simp) ?_
      simp only [Act.put]
      refine wpTo_skip 20 207 rfl rfl (by simp only [Array.size_setIfInBounds, hsz16]; decide) (by go_simp) ?_
      simp only [Act.put]
      refine wpTo_skip 20 207 rfl rfl (by simp only [Array.size_setIfInBounds, hsz16]; decide) (by go_simp) ?_
      simp only [Act.put]
      refine wpTo_plain rfl fun K hK => ?_
      go_simp
      refine hK _ _ ?_
      clear hK K
      refine wpTo_plain rfl fun K hK => ?_
      go_simp
      refine hK _ _ ?_
      clear hK K
      have e9 := HPk7.out
      simp only [Bool.false_and] at e9
      refine wpTo_nil ⟨_, rfl, ?_, ?_, ?_, ?_, ?_, ?_, HW16.out⟩
      · simp only [Array.size_setIfInBounds, hsz16]
      · go_simp
      · go_simp
      · go_simp
      · go_simp
      · go_simp
    · by_cases hc : o.tx.toList = []
      · have e9 := HPk7.out
        rw [decide_eq_true hc] at e9
        simp only [Bool.and_self, Bool.true_and] at e9
        have q8 := HW16.out.2.q8
        refine wpTo_go 20 207 rfl rfl (by simp only [Array.size_setIfInBounds, hsz16]; decide) (by go_simp) fun K hK => ?_
        go_simp
        refine hK _ _ ?_
        clear hK K
        refine wpTo_go 20 207 rfl rfl (by simp only [Array.size_setIfInBounds, hsz16]; decide) (by go_simp) fun K hK => ?_
        go_simp
        refine hK _ _ ?_
        clear hK K
        refine wpTo_go 20 207 rfl rfl (by simp only [Array.size_setIfInBounds, hsz16]; decide) (by go_simp) fun K hK => ?_
        go_simp
        refine hK _ _ ?_
        clear hK K
        clear q8
        refine wpTo_plain rfl fun K hK => ?_
        go_simp
        refine hK _ _ ?_
        clear hK K
        refine wpTo_plain rfl fun K hK => ?_
        go_simp
        refine hK _ _ ?_
        clear hK K
        refine wpTo_nil ⟨_, rfl, ?_, ?_, ?_, ?_, ?_, ?_, HW16.out⟩
        · simp only [Array.size_setIfInBounds, hsz16]
        · go_simp
        · go_simp
        · go_simp
        · go_simp
        · go_simp
      · have e9 := HPk7.out
        rw [decide_eq_false hc] at e9
        simp only [Bool.and_false] at e9
        have q8 := HW16.out.2.q8
        refine wpTo_go 20 207 rfl rfl (by simp only [Array.size_setIfInBounds, hsz16]; decide) (by go_simp) fun K hK => ?_
        go_simp
        refine hK _ _ ?_
        clear hK K
        refine wpTo_go 20 207 rfl rfl (by simp only [Array.size_setIfInBounds, hsz16]; decide) (by go_simp) fun K hK => ?_
        go_simp
        refine hK _ _ ?_
        clear hK K
        refine wpTo_go 20 207 rfl rfl (by simp only [Array.size_setIfInBounds, hsz16]; decide) (by go_simp) fun K hK => ?_
        go_simp
        refine hK _ _ ?_
        clear hK K
        clear q8
        refine wpTo_plain rfl fun K hK => ?_
        go_simp
        refine hK _ _ ?_
        clear hK K
        refine wpTo_plain rfl fun K hK => ?_
        go_simp
        refine hK _ _ ?_
        clear hK K
        refine wpTo_nil ⟨_, rfl, ?_, ?_, ?_, ?_, ?_, ?_, HW16.out⟩
        · simp only [Array.size_setIfInBounds, hsz16]
        · go_simp
        · go_simp
        · go_simp
        · go_simp
        · go_simp
  rintro _ W17 ⟨T17, rfl, hsz17, h17_1, h17_3, h17_6, h17_7, h17_8, HW17⟩
  clear hsz16 h16_1 h16_6 h16_7 h16_8 h16_206 HW16
  simp only [List.drop_succ_cons, List.drop_zero]
  go_upto_region 20 with fail
  cases k7
  · refine wp_abs (fun T => T.size = 257 ∧ T.getD 213 undef = .bool true) ⟨by simp only [Array.size_setIfInBounds, hsz17], by go_simp⟩ ?_
    intro T18 ⟨hsz18, h18_213⟩
    clear hsz17 h17_1 h17_3 h17_6 h17_7 h17_8
    have HW18 := HW17
    clear HW17
    refine wp_cond_true h18_213 ?_
    go_wp2_with fail
    go_ret
    exact ⟨by rw [HG.out]; simp only [Bool.false_and, Bool.true_and, Bool.and_false, Bool.not_true, Bool.not_false, Bool.and_true, Bool.and_self]; (first | rw [opErr_f] | rw [opErr_t]); go_simp, HW18.out.1⟩
  · refine wp_abs (fun T => T.size = 257 ∧ T.getD 1 undef = .pointer (some ⟨w.heap.size, 0, none⟩) ∧ T.getD 213 undef = .bool false) ⟨by simp only [Array.size_setIfInBounds, hsz17], by go_simp, by go_simp⟩ ?_
    intro T18 ⟨hsz18, h18_1, h18_213⟩
    clear hsz17 h17_1 h17_3 h17_6 h17_7 h17_8
    have HW18 := HW17
    clear HW17
    refine wp_cond_false h18_213 ?_
    go_upto_region 21 with fail
    refine wp_region_lit ?_
    refine wpList_cutAt 3 (fun a' w' => ∃ T' NB, a' = ⟨T', []⟩ ∧ T'.size = 257 ∧ T'.getD 1 undef = .pointer (some ⟨w.heap.size, 0, none⟩) ∧ T'.getD 10 undef = .slice (some ⟨NB, 0, none⟩) 5 5 ∧ Hid (Touch (fun _ => False) w w' ∧ OpAt w.heap.size o w' ∧ w'.heap[NB]? = some (.cells (namesA o) 34 (0, 0)))) ?_ ?_
    · simp only [List.take_succ_cons, List.take_zero]
      refine wpTo_plain rfl fun K hK => ?_
      refine wp_load_mid 41 (.tmp 1) rfl w.heap.size 0 (by go_simp) o.vals.toList _ (rangeAt_of HW18.out.2) Try.underlying41 rfl (by kernel_rfl) (hK _ _ ?_)
      clear hK K
      simp only [Act.put, Array.toArray_toList]
      refine wpTo_plain rfl fun K hK => ?_
      go_simp
      refine (HNM.out _).mono ?_
      rintro e X0 ⟨NB, rfl, t, hb⟩
      have HX0 : Hid (Touch (fun _ => False) w X0 ∧ OpAt w.heap.size o X0 ∧ X0.heap[NB]? = some (.cells (namesA o) 34 (0, 0))) := ⟨HW18.out.1.trans t, HW18.out.2.keep t, hb⟩
      clear t hb
      refine hK _ _ ?_
      clear hK K
      refine wpTo_plain rfl fun K hK => ?_
      go_simp
      refine hK _ _ ?_
      clear hK K
      refine wpTo_nil ⟨_, NB, rfl, ?_, ?_, ?_, HX0.out⟩
      · simp only [Array.size_setIfInBounds, hsz18]
      · go_simp
      · go_simp
    rintro _ X0 ⟨TA, NB, rfl, hsA, gA_1, gA_10, HX0⟩
    simp only [List.drop_succ_cons, List.drop_zero]
    go_upto_region 23 with fail
    refine wp_abs (fun T => T.size = 257 ∧ T.getD 1 undef = .pointer (some ⟨w.heap.size, 0, none⟩) ∧ T.getD 10 undef = .slice (some ⟨NB, 0, none⟩) 5 5 ∧ T.getD 11 undef = .int .i64 (0 : Int)) ⟨by simp only [Array.size_setIfInBounds, hsA], by go_simp, by go_simp, by go_simp⟩ ?_
    intro T9 ⟨hs0, g0_1, g0_10, g0_11⟩
    clear hsA gA_1 gA_10
    clear hsz18 h18_1 h18_213 HW18
    refine wp_loop_rounds 6 ?_
    rw [rounds_succ]
    go_upto_region 23 with fail
    refine wp_region_lit ?_
    refine wpList_cutAt 4 (fun a' w' => ∃ T', a' = ⟨T', []⟩ ∧ T'.size = 257 ∧ T'.getD 1 undef = .pointer (some ⟨w.heap.size, 0, none⟩) ∧ T'.getD 10 undef = .slice (some ⟨NB, 0, none⟩) 5 5 ∧ T'.getD 11 undef = .int .i64 (0 : Int) ∧ T'.getD 219 undef = .bool true ∧ Hid (w' = X0)) ?_ ?_
    · simp only [List.take_succ_cons, List.take_zero]
      refine wpTo_plain rfl fun K hK => ?_
      go_simp
      refine hK _ _ ?_
      clear hK K
      refine wpTo_plain rfl fun K hK => ?_
      go_simp
      refine hK _ _ ?_
      clear hK K
      refine wpTo_plain rfl fun K hK => ?_
      go_simp
      refine hK _ _ ?_
      clear hK K
      refine wpTo_plain rfl fun K hK => ?_
      go_simp
      refine hK _ _ ?_
      clear hK K
      refine wpTo_nil ⟨_, rfl, ?_, ?_, ?_, ?_, ?_, rfl⟩
      · simp only [Array.size_setIfInBounds, hs0]
      · go_simp
      · go_simp
      · go_simp
      · go_simp
    rintro _ Wz ⟨Z0, rfl, zs0, z0_1, z0_10, z0_11, z0_219, hWz⟩
    obtain rfl : X0 = Wz := hWz.out.symm
    clear hWz hs0 g0_1 g0_10 g0_11
    simp only [List.drop_succ_cons, List.drop_zero]
    go_upto_region 25 with fail
    refine wp_cond_true z0_219 ?_
    clear z0_219
    go_upto_region 25 with fail
    have d0 : X0.cell? ⟨NB, 0 * 2, none⟩ = some (.int .u64 o.lc) := by rw [cell_of_block HX0.out.2.2]; rfl
    have d1 : X0.cell? ⟨NB, 0 * 2 + 1, none⟩ = some (.int .u64 o.lk) := by rw [cell_of_block HX0.out.2.2]; rfl
    refine reg25 o 0 (by decide) o.lc o.lk w.heap.size NB _ _ zs0 z0_1 z0_10 z0_11 HX0.out.2.1 d0 d1 (fun W' t => HLO.out W' (HX0.out.1.trans t)) hw1 (fun _ _ _ _ _ h => h) ?_
    intro Y1 X1 ys y_1 y_10 y_11 y_256 t
    have HX1 : Hid (Touch (fun _ => False) w X1 ∧ OpAt w.heap.size o X1 ∧ X1.heap[NB]? = some (.cells (namesA o) 34 (0, 0))) := ⟨HX0.out.1.trans t, HX0.out.2.1.keep t, (t.block NB (lt_of_heap HX0.out.2.2) id).trans HX0.out.2.2⟩
    clear t d0 d1 HX0 zs0 z0_1 z0_10 z0_11
    generalize ownB o o.lc o.lk = ow0 at *
    cases ow0
    rotate_left
    · go_upto_region 26 with fail
      refine wp_cond_true y_256 ?_
      go_wp2_with fail
      go_ret
      exact ⟨by rw [HG.out]; simp only [Bool.false_and, Bool.true_and, Bool.and_false, Bool.not_true, Bool.not_false, Bool.and_true, Bool.and_self]; (first | rw [opErr_f] | rw [opErr_t]); go_simp, HX1.out.1⟩
    go_upto_region 24 with fail
    refine wp_cond_false y_256 ?_
    clear y_256
    go_upto_region 24 with fail
    refine wp_region_lit ?_
    refine wpList_cutAt 3 (fun a' w' => ∃ T', a' = ⟨T', []⟩ ∧ T'.size = 257 ∧ T'.getD 1 undef = .pointer (some ⟨w.heap.size, 0, none⟩) ∧ T'.getD 10 undef = .slice (some ⟨NB, 0, none⟩) 5 5 ∧ T'.getD 11 undef = .int .i64 (1 : Int) ∧ Hid (w' = X1)) ?_ ?_
    · simp only [List.take_succ_cons, List.take_zero]
      refine wpTo_plain rfl fun K hK => ?_
      go_simp
      refine hK _ _ ?_
      clear hK K
      refine wpTo_plain rfl fun K hK => ?_
      go_simp
      refine hK _ _ ?_
      clear hK K
      refine wpTo_plain rfl fun K hK => ?_
      go_simp
      refine hK _ _ ?_
      clear hK K
      refine wpTo_nil ⟨_, rfl, ?_, ?_, ?_, ?_, rfl⟩
      · simp only [Array.size_setIfInBounds, ys]
      · go_simp
      · go_simp
      · go_simp
        first | done | kernel_rfl
    rintro _ Wz ⟨V19, rfl, hs1, g1_1, g1_10, g1_11, hWz⟩
    obtain rfl : X1 = Wz := hWz.out.symm
    clear hWz ys y_1 y_10 y_11
    simp only [List.drop_succ_cons, List.drop_zero]
    go_wp2_with fail
    rw [rounds_succ]
    go_upto_region 23 with fail
    refine wp_region_lit ?_
    refine wpList_cutAt 4 (fun a' w' => ∃ T', a' = ⟨T', []⟩ ∧ T'.size = 257 ∧ T'.getD 1 undef = .pointer (some ⟨w.heap.size, 0, none⟩) ∧ T'.getD 10 undef = .slice (some ⟨NB, 0, none⟩) 5 5 ∧ T'.getD 11 undef = .int .i64 (1 : Int) ∧ T'.getD 219 undef = .bool true ∧ Hid (w' = X1)) ?_ ?_
    · simp only [List.take_succ_cons, List.take_zero]
      refine wpTo_plain rfl fun K hK => ?_
      go_simp
      refine hK _ _ ?_
      clear hK K
      refine wpTo_plain rfl fun K hK => ?_
      go_simp
      refine hK _ _ ?_
      clear hK K
      refine wpTo_plain rfl fun K hK => ?_
      go_simp
      refine hK _ _ ?_
      clear hK K
      refine wpTo_plain rfl fun K hK => ?_
      go_simp
      refine hK _ _ ?_
      clear hK K
      refine wpTo_nil ⟨_, rfl, ?_, ?_, ?_, ?_, ?_, rfl⟩
      · simp only [Array.size_setIfInBounds, hs1]
      · go_simp
      · go_simp
      · go_simp
      · go_simp
    rintro _ Wz ⟨Z1, rfl, zs1, z1_1, z1_10, z1_11, z1_219, hWz⟩
    obtain rfl : X1 = Wz := hWz.out.symm
    clear hWz hs1 g1_1 g1_10 g1_11
    simp only [List.drop_succ_cons, List.drop_zero]
    go_upto_region 25 with fail
    refine wp_cond_true z1_219 ?_
    clear z1_219
    go_upto_region 25 with fail
    have d0 : X1.cell? ⟨NB, 1 * 2, none⟩ = some (.int .u64 o.rc) := by rw [cell_of_block HX1.out.2.2]; rfl
    have d1 : X1.cell? ⟨NB, 1 * 2 + 1, none⟩ = some (.int .u64 o.rk) := by rw [cell_of_block HX1.out.2.2]; rfl
    refine reg25 o 1 (by decide) o.rc o.rk w.heap.size NB _ _ zs1 z1_1 z1_10 z1_11 HX1.out.2.1 d0 d1 (fun W' t => HLO.out W' (HX1.out.1.trans t)) hw1 (fun _ _ _ _ _ h => h) ?_
    intro Y2 X2 ys y_1 y_10 y_11 y_256 t
    have HX2 : Hid (Touch (fun _ => False) w X2 ∧ OpAt w.heap.size o X2 ∧ X2.heap[NB]? = some (.cells (namesA o) 34 (0, 0))) := ⟨HX1.out.1.trans t, HX1.out.2.1.keep t, (t.block NB (lt_of_heap HX1.out.2.2) id).trans HX1.out.2.2⟩
    clear t d0 d1 HX1 zs1 z1_1 z1_10 z1_11
    generalize ownB o o.rc o.rk = ow1 at *
    cases ow1
    rotate_left
    · go_upto_region 26 with fail
      refine wp_cond_true y_256 ?_
      go_wp2_with fail
      go_ret
      exact ⟨by rw [HG.out]; simp only [Bool.false_and, Bool.true_and, Bool.and_false, Bool.not_true, Bool.not_false, Bool.and_true, Bool.and_self]; (first | rw [opErr_f] | rw [opErr_t]); go_simp, HX2.out.1⟩
    go_upto_region 24 with fail
    refine wp_cond_false y_256 ?_
    clear y_256
    go_upto_region 24 with fail
    refine wp_region_lit ?_
    refine wpList_cutAt 3 (fun a' w' => ∃ T', a' = ⟨T', []⟩ ∧ T'.size = 257 ∧ T'.getD 1 undef = .pointer (some ⟨w.heap.size, 0, none⟩) ∧ T'.getD 10 undef = .slice (some ⟨NB, 0, none⟩) 5 5 ∧ T'.getD 11 undef = .int .i64 (2 : Int) ∧ Hid (w' = X2)) ?_ ?_
    · simp only [List.take_succ_cons, List.take_zero]
      refine wpTo_plain rfl fun K hK => ?_
      go_simp
      refine hK _ _ ?_
      clear hK K
      refine wpTo_plain rfl fun K hK => ?_
      go_simp
      refine hK _ _ ?_
      clear hK K
      refine wpTo_plain rfl fun K hK => ?_
      go_simp
      refine hK _ _ ?_
      clear hK K
      refine wpTo_nil ⟨_, rfl, ?_, ?_, ?_, ?_, rfl⟩
      · simp only [Array.size_setIfInBounds, ys]
      · go_simp
      · go_simp
      · go_simp
        first | done | kernel_rfl
    rintro _ Wz ⟨V29, rfl, hs2, g2_1, g2_10, g2_11, hWz⟩
    obtain rfl : X2 = Wz := hWz.out.symm
    clear hWz ys y_1 y_10 y_11
    simp only [List.drop_succ_cons, List.drop_zero]
    go_wp2_with fail
    rw [rounds_succ]
    go_upto_region 23 with fail
    refine wp_region_lit ?_
    refine wpList_cutAt 4 (fun a' w' => ∃ T', a' = ⟨T', []⟩ ∧ T'.size = 257 ∧ T'.getD 1 undef = .pointer (some ⟨w.heap.size, 0, none⟩) ∧ T'.getD 10 undef = .slice (some ⟨NB, 0, none⟩) 5 5 ∧ T'.getD 11 undef = .int .i64 (2 : Int) ∧ T'.getD 219 undef = .bool true ∧ Hid (w' = X2)) ?_ ?_
    · simp only [List.take_succ_cons, List.take_zero]
      refine wpTo_plain rfl fun K hK => ?_
      go_simp
      refine hK _ _ ?_
      clear hK K
      refine wpTo_plain rfl fun K hK => ?_
      go_simp
      refine hK _ _ ?_
      clear hK K
      refine wpTo_plain rfl fun K hK => ?_
      go_simp
      refine hK _ _ ?_
      clear hK K
      refine wpTo_plain rfl fun K hK => ?_
      go_simp
      refine hK _ _ ?_
      clear hK K
      refine wpTo_nil ⟨_, rfl, ?_, ?_, ?_, ?_, ?_, rfl⟩
      · simp only [Array.size_setIfInBounds, hs2]
      · go_simp
      · go_simp
      · go_simp
      · go_simp
    rintro _ Wz ⟨Z2, rfl, zs2, z2_1, z2_10, z2_11, z2_219, hWz⟩
    obtain rfl : X2 = Wz := hWz.out.symm
    clear hWz hs2 g2_1 g2_10 g2_11
    simp only [List.drop_succ_cons, List.drop_zero]
    go_upto_region 25 with fail
    refine wp_cond_true z2_219 ?_
    clear z2_219
    go_upto_region 25 with fail
    have d0 : X2.cell? ⟨NB, 2 * 2, none⟩ = some (.int .u64 o.fc) := by rw [cell_of_block HX2.out.2.2]; rfl
    have d1 : X2.cell? ⟨NB, 2 * 2 + 1, none⟩ = some (.int .u64 o.fk) := by rw [cell_of_block HX2.out.2.2]; rfl
    refine reg25 o 2 (by decide) o.fc o.fk w.heap.size NB _ _ zs2 z2_1 z2_10 z2_11 HX2.out.2.1 d0 d1 (fun W' t => HLO.out W' (HX2.out.1.trans t)) hw1 (fun _ _ _ _ _ h => h) ?_
    intro Y3 X3 ys y_1 y_10 y_11 y_256 t
    have HX3 : Hid (Touch (fun _ => False) w X3 ∧ OpAt w.heap.size o X3 ∧ X3.heap[NB]? = some (.cells (namesA o) 34 (0, 0))) := ⟨HX2.out.1.trans t, HX2.out.2.1.keep t, (t.block NB (lt_of_heap HX2.out.2.2) id).trans HX2.out.2.2⟩
    clear t d0 d1 HX2 zs2 z2_1 z2_10 z2_11
    generalize ownB o o.fc o.fk = ow2 at *
    cases ow2
    rotate_left
    · go_upto_region 26 with fail
      refine wp_cond_true y_256 ?_
      go_wp2_with fail
      go_ret
      exact ⟨by rw [HG.out]; simp only [Bool.false_and, Bool.true_and, Bool.and_false, Bool.not_true, Bool.not_false, Bool.and_true, Bool.and_self]; (first | rw [opErr_f] | rw [opErr_t]); go_simp, HX3.out.1⟩
    go_upto_region 24 with fail
    refine wp_cond_false y_256 ?_
    clear y_256
    go_upto_region 24 with fail
    refine wp_region_lit ?_
    refine wpList_cutAt 3 (fun a' w' => ∃ T', a' = ⟨T', []⟩ ∧ T'.size = 257 ∧ T'.getD 1 undef = .pointer (some ⟨w.heap.size, 0, none⟩) ∧ T'.getD 10 undef = .slice (some ⟨NB, 0, none⟩) 5 5 ∧ T'.getD 11 undef = .int .i64 (3 : Int) ∧ Hid (w' = X3)) ?_ ?_
    · simp only [List.take_succ_cons, List.take_zero]
      refine wpTo_plain rfl fun K hK => ?_
      go_simp
      refine hK _ _ ?_
      clear hK K
      refine wpTo_plain rfl fun K hK => ?_
      go_simp
      refine hK _ _ ?_
      clear hK K
      refine wpTo_plain rfl fun K hK => ?_
      go_simp
      refine hK _ _ ?_
      clear hK K
      refine wpTo_nil ⟨_, rfl, ?_, ?_, ?_, ?_, rfl⟩
      · simp only [Array.size_setIfInBounds, ys]
      · go_simp
      · go_simp
      · go_simp
        first | done | kernel_rfl
    rintro _ Wz ⟨V39, rfl, hs3, g3_1, g3_10, g3_11, hWz⟩
    obtain rfl : X3 = Wz := hWz.out.symm
    clear hWz ys y_1 y_10 y_11
    simp only [List.drop_succ_cons, List.drop_zero]
    go_wp2_with fail
    rw [rounds_succ]
    go_upto_region 23 with fail
    refine wp_region_lit ?_
    refine wpList_cutAt 4 (fun a' w' => ∃ T', a' = ⟨T', []⟩ ∧ T'.size = 257 ∧ T'.getD 1 undef = .pointer (some ⟨w.heap.size, 0, none⟩) ∧ T'.getD 10 undef = .slice (some ⟨NB, 0, none⟩) 5 5 ∧ T'.getD 11 undef = .int .i64 (3 : Int) ∧ T'.getD 219 undef = .bool true ∧ Hid (w' = X3)) ?_ ?_
    · simp only [List.take_succ_cons, List.take_zero]
      refine wpTo_plain rfl fun K hK => ?_
      go_simp
      refine hK _ _ ?_
      clear hK K
      refine wpTo_plain rfl fun K hK => ?_
      go_simp
      refine hK _ _ ?_
      clear hK K
      refine wpTo_plain rfl fun K hK => ?_
      go_simp
      refine hK _ _ ?_
      clear hK K
      refine wpTo_plain rfl fun K hK => ?_
      go_simp
      refine hK _ _ ?_
      clear hK K
      refine wpTo_nil ⟨_, rfl, ?_, ?_, ?_, ?_, ?_, rfl⟩
      · simp only [Array.size_setIfInBounds, hs3]
      · go_simp
      · go_simp
      · go_simp
      · go_simp
    rintro _ Wz ⟨Z3, rfl, zs3, z3_1, z3_10, z3_11, z3_219, hWz⟩
    obtain rfl : X3 = Wz := hWz.out.symm
    clear hWz hs3 g3_1 g3_10 g3_11
    simp only [List.drop_succ_cons, List.drop_zero]
    go_upto_region 25 with fail
    refine wp_cond_true z3_219 ?_
    clear z3_219
    go_upto_region 25 with fail
    have d0 : X3.cell? ⟨NB, 3 * 2, none⟩ = some (.int .u64 o.tc) := by rw [cell_of_block HX3.out.2.2]; rfl
    have d1 : X3.cell? ⟨NB, 3 * 2 + 1, none⟩ = some (.int .u64 o.tk) := by rw [cell_of_block HX3.out.2.2]; rfl
    refine reg25 o 3 (by decide) o.tc o.tk w.heap.size NB _ _ zs3 z3_1 z3_10 z3_11 HX3.out.2.1 d0 d1 (fun W' t => HLO.out W' (HX3.out.1.trans t)) hw1 (fun _ _ _ _ _ h => h) ?_
    intro Y4 X4 ys y_1 y_10 y_11 y_256 t
    have HX4 : Hid (Touch (fun _ => False) w X4 ∧ OpAt w.heap.size o X4 ∧ X4.heap[NB]? = some (.cells (namesA o) 34 (0, 0))) := ⟨HX3.out.1.trans t, HX3.out.2.1.keep t, (t.block NB (lt_of_heap HX3.out.2.2) id).trans HX3.out.2.2⟩
    clear t d0 d1 HX3 zs3 z3_1 z3_10 z3_11
    generalize ownB o o.tc o.tk = ow3 at *
    cases ow3
    rotate_left
    · go_upto_region 26 with fail
      refine wp_cond_true y_256 ?_
      go_wp2_with fail
      go_ret
      exact ⟨by rw [HG.out]; simp only [Bool.false_and, Bool.true_and, Bool.and_false, Bool.not_true, Bool.not_false, Bool.and_true, Bool.and_self]; (first | rw [opErr_f] | rw [opErr_t]); go_simp, HX4.out.1⟩
    go_upto_region 24 with fail
    refine wp_cond_false y_256 ?_
    clear y_256
    go_upto_region 24 with fail
    refine wp_region_lit ?_
    refine wpList_cutAt 3 (fun a' w' => ∃ T', a' = ⟨T', []⟩ ∧ T'.size = 257 ∧ T'.getD 1 undef = .pointer (some ⟨w.heap.size, 0, none⟩) ∧ T'.getD 10 undef = .slice (some ⟨NB, 0, none⟩) 5 5 ∧ T'.getD 11 undef = .int .i64 (4 : Int) ∧ Hid (w' = X4)) ?_ ?_
    · simp only [List.take_succ_cons, List.take_zero]
      refine wpTo_plain rfl fun K hK => ?_
      go_simp
      refine hK _ _ ?_
      clear hK K
      refine wpTo_plain rfl fun K hK => ?_
      go_simp
      refine hK _ _ ?_
      clear hK K
      refine wpTo_plain rfl fun K hK => ?_
      go_simp
      refine hK _ _ ?_
      clear hK K
      refine wpTo_nil ⟨_, rfl, ?_, ?_, ?_, ?_, rfl⟩
      · simp only [Array.size_setIfInBounds, ys]
      · go_simp
      · go_simp
      · go_simp
        first | done | kernel_rfl
    rintro _ Wz ⟨V49, rfl, hs4, g4_1, g4_10, g4_11, hWz⟩
    obtain rfl : X4 = Wz := hWz.out.symm
    clear hWz ys y_1 y_10 y_11
    simp only [List.drop_succ_cons, List.drop_zero]
    go_wp2_with fail
    rw [rounds_succ]
    go_upto_region 23 with fail
    refine wp_region_lit ?_
    refine wpList_cutAt 4 (fun a' w' => ∃ T', a' = ⟨T', []⟩ ∧ T'.size = 257 ∧ T'.getD 1 undef = .pointer (some ⟨w.heap.size, 0, none⟩) ∧ T'.getD 10 undef = .slice (some ⟨NB, 0, none⟩) 5 5 ∧ T'.getD 11 undef = .int .i64 (4 : Int) ∧ T'.getD 219 undef = .bool true ∧ Hid (w' = X4)) ?_ ?_
    · simp only [List.take_succ_cons, List.take_zero]
      refine wpTo_plain rfl fun K hK => ?_
      go_simp
      refine hK _ _ ?_
      clear hK K
      refine wpTo_plain rfl fun K hK => ?_
      go_simp
      refine hK _ _ ?_
      clear hK K
      refine wpTo_plain rfl fun K hK => ?_
      go_simp
      refine hK _ _ ?_
      clear hK K
      refine wpTo_plain rfl fun K hK => ?_
      go_simp
      refine hK _ _ ?_
      clear hK K
      refine wpTo_nil ⟨_, rfl, ?_, ?_, ?_, ?_, ?_, rfl⟩
      · simp only [Array.size_setIfInBounds, hs4]
      · go_simp
      · go_simp
      · go_simp
      · go_simp
    rintro _ Wz ⟨Z4, rfl, zs4, z4_1, z4_10, z4_11, z4_219, hWz⟩
    obtain rfl : X4 = Wz := hWz.out.symm
    clear hWz hs4 g4_1 g4_10 g4_11
    simp only [List.drop_succ_cons, List.drop_zero]
    go_upto_region 25 with fail
    refine wp_cond_true z4_219 ?_
    clear z4_219
    go_upto_region 25 with fail
    have d0 : X4.cell? ⟨NB, 4 * 2, none⟩ = some (.int .u64 o.pc) := by rw [cell_of_block HX4.out.2.2]; rfl
    have d1 : X4.cell? ⟨NB, 4 * 2 + 1, none⟩ = some (.int .u64 o.pk) := by rw [cell_of_block HX4.out.2.2]; rfl
    refine reg25 o 4 (by decide) o.pc o.pk w.heap.size NB _ _ zs4 z4_1 z4_10 z4_11 HX4.out.2.1 d0 d1 (fun W' t => HLO.out W' (HX4.out.1.trans t)) hw1 (fun _ _ _ _ _ h => h) ?_
    intro Y5 X5 ys y_1 y_10 y_11 y_256 t
    have HX5 : Hid (Touch (fun _ => False) w X5 ∧ OpAt w.heap.size o X5 ∧ X5.heap[NB]? = some (.cells (namesA o) 34 (0, 0))) := ⟨HX4.out.1.trans t, HX4.out.2.1.keep t, (t.block NB (lt_of_heap HX4.out.2.2) id).trans HX4.out.2.2⟩
    clear t d0 d1 HX4 zs4 z4_1 z4_10 z4_11
    generalize ownB o o.pc o.pk = ow4 at *
    cases ow4
    rotate_left
    · go_upto_region 26 with fail
      refine wp_cond_true y_256 ?_
      go_wp2_with fail
      go_ret
      exact ⟨by rw [HG.out]; simp only [Bool.false_and, Bool.true_and, Bool.and_false, Bool.not_true, Bool.not_false, Bool.and_true, Bool.and_self]; (first | rw [opErr_f] | rw [opErr_t]); go_simp, HX5.out.1⟩
    go_upto_region 24 with fail
    refine wp_cond_false y_256 ?_
    clear y_256
    go_upto_region 24 with fail
    refine wp_region_lit ?_
    refine wpList_cutAt 3 (fun a' w' => ∃ T', a' = ⟨T', []⟩ ∧ T'.size = 257 ∧ T'.getD 1 undef = .pointer (some ⟨w.heap.size, 0, none⟩) ∧ T'.getD 10 undef = .slice (some ⟨NB, 0, none⟩) 5 5 ∧ T'.getD 11 undef = .int .i64 (5 : Int) ∧ Hid (w' = X5)) ?_ ?_
    · simp only [List.take_succ_cons, List.take_zero]
      refine wpTo_plain rfl fun K hK => ?_
      go_simp
      refine hK _ _ ?_
      clear hK K
      refine wpTo_plain rfl fun K hK => ?_
      go_simp
      refine hK _ _ ?_
      clear hK K
      refine wpTo_plain rfl fun K hK => ?_
      go_simp
      refine hK _ _ ?_
      clear hK K
      refine wpTo_nil ⟨_, rfl, ?_, ?_, ?_, ?_, rfl⟩
      · simp only [Array.size_setIfInBounds, ys]
      · go_simp
      · go_simp
      · go_simp
        first | done | kernel_rfl
    rintro _ Wz ⟨V59, rfl, hs5, g5_1, g5_10, g5_11, hWz⟩
    obtain rfl : X5 = Wz := hWz.out.symm
    clear hWz ys y_1 y_10 y_11
    simp only [List.drop_succ_cons, List.drop_zero]
    go_wp2_with fail
    rw [rounds_succ]
    go_upto_region 23 with fail
    refine wp_region_lit ?_
    refine wpList_cutAt 4 (fun a' w' => ∃ T', a' = ⟨T', []⟩ ∧ T'.size = 257 ∧ T'.getD 1 undef = .pointer (some ⟨w.heap.size, 0, none⟩) ∧ T'.getD 10 undef = .slice (some ⟨NB, 0, none⟩) 5 5 ∧ T'.getD 11 undef = .int .i64 (5 : Int) ∧ T'.getD 219 undef = .bool false ∧ Hid (w' = X5)) ?_ ?_
    · simp only [List.take_succ_cons, List.take_zero]
      refine wpTo_plain rfl fun K hK => ?_
      go_simp
      refine hK _ _ ?_
      clear hK K
      refine wpTo_plain rfl fun K hK => ?_
      go_simp
      refine hK _ _ ?_
      clear hK K
      refine wpTo_plain rfl fun K hK => ?_
      go_simp
      refine hK _ _ ?_
      clear hK K
      refine wpTo_plain rfl fun K hK => ?_
      go_simp
      refine hK _ _ ?_
      clear hK K
      refine wpTo_nil ⟨_, rfl, ?_, ?_, ?_, ?_, ?_, rfl⟩
      · simp only [Array.size_setIfInBounds, hs5]
      · go_simp
      · go_simp
      · go_simp
      · go_simp
    rintro _ Wz ⟨Z5, rfl, zs5, z5_1, z5_10, z5_11, z5_219, hWz⟩
    obtain rfl : X5 = Wz := hWz.out.symm
    clear hWz hs5 g5_1 g5_10 g5_11
    simp only [List.drop_succ_cons, List.drop_zero]
    go_upto_region 27 with fail
    refine wp_cond_false z5_219 ?_
    go_wp2_with fail
    go_ret
    exact ⟨by rw [HG.out]; simp only [Bool.false_and, Bool.true_and, Bool.and_false, Bool.not_true, Bool.not_false, Bool.and_true, Bool.and_self]; (first | rw [opErr_f] | rw [opErr_t]); go_simp, HX5.out.1⟩
end Go.Proofs.Ytegldlfbmaapiaa
