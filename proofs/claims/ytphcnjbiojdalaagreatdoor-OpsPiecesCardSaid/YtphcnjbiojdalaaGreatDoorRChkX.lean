/- The document's Check, of no kind. -/
import Derived.Test.YtphcnjbiojdalaaGreatDoorRChkM
namespace Go.Proofs.YtphcnjbiojdalaaGreatDoor
open Go.RowKit
set_option linter.unusedVariables false
set_option linter.unusedSimpArgs false
set_option maxRecDepth 100000

set_option maxHeartbeats 16000000 in
theorem rchk_kX (o : O) (h1 : ¬ o.kind = 1) (h2 : ¬ o.kind = 2) (h3 : ¬ o.kind = 3) (h4 : ¬ o.kind = 4) (h : o.tx.size ≤ 17592186044416 ∧ o.ky.size ≤ 17592186044416 ∧ o.vs.size ≤ 17592186044416) (w : World) : Calls Tryz.prog 12 #[o.val] w fun e w' => e = .returned (.int .i64 (opErr (rchk o))) ∧ Touch (fun _ => False) w w' := by
  have hg := getD_set
  have hle := lenO_le o
  have hw1 : IntKind.u64.wrap (lenO o : Int) = (lenO o : Int) := wrap_u64_small _ (by omega) (by omega)
  have hrl : (rsOf o.tx.data.toList).length ≤ o.tx.size := by have := rsOf_len o.tx.data.toList; simpa using this
  have hw2 : IntKind.u64.wrap ((rsOf o.tx.data.toList).length : Int) = ((rsOf o.tx.data.toList).length : Int) := wrap_u64_small _ (by omega) (by omega)
  have HR : Hid (∀ W, Touch (fun _ => False) w W → Calls Tryz.prog 37 #[idV o.c o.k] W fun e w' => e = .returned (.bool (numOk o.c && numOk o.k)) ∧ Touch (fun _ => False) W w') := fun W _ => by
    have := rRight_any o.c o.k W
    exact this.mono (by rintro e w2 ⟨rfl, rfl⟩; exact ⟨rfl, (Touch.refl _ _).alloc _⟩)
  have HNL : Hid (∀ W, Touch (fun _ => False) w W → Calls Tryz.prog 38 #[idV o.lc o.lk] W fun e w' => e = .returned (.bool (namedB o.lc o.lk)) ∧ Touch (fun _ => False) W w') := fun W _ => named_any o.lc o.lk W
  have HOL : Hid (∀ W, Touch (fun _ => False) w W → Calls Tryz.prog 39 #[idV o.lc o.lk] W fun e w' => e = .returned (.bool ((o.lc == 0) && (o.lk == 0))) ∧ Touch (fun _ => False) W w') := fun W _ => none_any o.lc o.lk W
  have HNT : Hid (∀ W, Touch (fun _ => False) w W → Calls Tryz.prog 38 #[idV o.rc o.rk] W fun e w' => e = .returned (.bool (namedB o.rc o.rk)) ∧ Touch (fun _ => False) W w') := fun W _ => named_any o.rc o.rk W
  have HOT : Hid (∀ W, Touch (fun _ => False) w W → Calls Tryz.prog 39 #[idV o.rc o.rk] W fun e w' => e = .returned (.bool ((o.rc == 0) && (o.rk == 0))) ∧ Touch (fun _ => False) W w') := fun W _ => none_any o.rc o.rk W
  have HNF : Hid (∀ W, Touch (fun _ => False) w W → Calls Tryz.prog 38 #[idV o.fc o.fk] W fun e w' => e = .returned (.bool (namedB o.fc o.fk)) ∧ Touch (fun _ => False) W w') := fun W _ => named_any o.fc o.fk W
  have HNU : Hid (∀ W, Touch (fun _ => False) w W → Calls Tryz.prog 38 #[idV o.tc o.tk] W fun e w' => e = .returned (.bool (namedB o.tc o.tk)) ∧ Touch (fun _ => False) W w') := fun W _ => named_any o.tc o.tk W
  have HNP : Hid (∀ W, Touch (fun _ => False) w W → Calls Tryz.prog 38 #[idV o.pc o.pk] W fun e w' => e = .returned (.bool (namedB o.pc o.pk)) ∧ Touch (fun _ => False) W w') := fun W _ => named_any o.pc o.pk W
  have HOP : Hid (∀ W, Touch (fun _ => False) w W → Calls Tryz.prog 39 #[idV o.pc o.pk] W fun e w' => e = .returned (.bool ((o.pc == 0) && (o.pk == 0))) ∧ Touch (fun _ => False) W w') := fun W _ => none_any o.pc o.pk W
  have HV : Hid (∀ W, Touch (fun _ => False) w W → Calls Tryz.prog 40 #[o.v.val] W fun e w' => e = .returned (.int .i64 (refCheck o.v)) ∧ Touch (fun _ => False) W w') := fun W _ => ref_check o.v h.2.2 W
  have HLN : Hid (∀ W, Touch (fun _ => False) w W → Calls Tryz.prog 32 #[.string o.tx] W fun e w' => e = .returned (.int .i64 ((rsOf o.tx.data.toList).length : Int)) ∧ Touch (fun _ => False) W w') := fun W _ => ref_len o.tx h.1 W
  have HTK : Hid (∀ W, Touch (fun _ => False) w W → Calls Tryz.prog 41 #[.string o.tx] W fun e w' => e = .returned (.bool (runesOf o.tx.data.toList).isSome) ∧ Touch (fun _ => False) W w') := fun W _ => ref_check3 o.tx h.1 W
  have HKY : Hid (∀ W, Touch (fun _ => False) w W → Calls Tryz.prog 43 #[.string o.ky] W fun e w' => e = .returned (.bool (keyOk o.ky)) ∧ Touch (fun _ => False) W w') := fun W _ => rKey_any o.ky h.2.1 W
  have HZ : Hid (∀ W, Touch (fun _ => False) w W → Calls Tryz.prog 42 #[o.v.val] W fun e w' => e = .returned (.bool ((o.v.k == 0) && (refCheck o.v == 0))) ∧ Touch (fun _ => False) W w') := fun W _ => zero_any o.v h.2.2 W
  have HNM : Hid (∀ W, Calls Tryz.prog 44 #[o.val] W fun e w' => ∃ NB, e = .returned (.slice (some ⟨NB, 0, none⟩) 5 5) ∧ Touch (fun _ => False) W w' ∧ w'.heap[NB]? = some (.cells (namesA o) 24 (0, 0))) := fun W => (rnames_any o W).mono fun e w' h => ⟨_, h⟩
  have HLO : Hid (∀ W, Touch (fun _ => False) w W → Calls Tryz.prog 13 #[o.val] W fun e w' => e = .returned (.int .i64 (lenO o : Int)) ∧ Touch (fun _ => False) W w') := fun W _ => ref_lenO o h.1 W
  obtain ⟨pl, HPpl⟩ : ∃ b : Bool, Hid (b = (namedB o.lc o.lk && namedB o.rc o.rk)) := ⟨_, rfl⟩
  obtain ⟨nw, HPnw⟩ : ∃ b : Bool, Hid (b = (((o.lc == 0) && (o.lk == 0)) && ((o.rc == 0) && (o.rk == 0)))) := ⟨_, rfl⟩
  obtain ⟨sp, HPsp⟩ : ∃ b : Bool, Hid (b = (((o.fc == 0) && ((o.fk == 0) && !o.fa)) && ((o.tc == 0) && ((o.tk == 0) && !o.ta)))) := ⟨_, rfl⟩
  obtain ⟨sm, HPsm⟩ : ∃ b : Bool, Hid (b = (decide (1 ≤ o.st) && decide (o.st ≤ 9007199254740991))) := ⟨_, rfl⟩
  obtain ⟨vl, HPvl⟩ : ∃ b : Bool, Hid (b = (refCheck o.v == 0)) := ⟨_, rfl⟩
  have HG : Hid (rchk o = ((numOk o.c && numOk o.k) && (false && freeB o))) := by
    show _ = _
    unfold rchk kindB
    rw [if_neg h1, if_neg h2, if_neg h3, if_neg h4]
  have HKK : Hid (¬ o.kind = 1 ∧ ¬ o.kind = 2 ∧ ¬ o.kind = 3 ∧ ¬ o.kind = 4) := ⟨h1, h2, h3, h4⟩
  clear h1 h2 h3 h4
  generalize (numOk o.c && numOk o.k) = a1 at *
  generalize namedB o.lc o.lk = n1 at *
  generalize namedB o.rc o.rk = n2 at *
  generalize ((o.lc == 0) && (o.lk == 0)) = m1 at *
  generalize ((o.rc == 0) && (o.rk == 0)) = m2 at *
  obtain ⟨kk, HQK⟩ : ∃ kk, Hid (o.kind = kk) := ⟨_, rfl⟩
  have HKN : Hid (¬ kk = 1 ∧ ¬ kk = 2 ∧ ¬ kk = 3 ∧ ¬ kk = 4) := by rw [← HQK.out]; exact HKK.out
  clear HKK
  go_enter Tryz.func12, Tryz.ntmps12
  go_upto_region 1 with fail
  obtain ⟨W0, hW0⟩ : ∃ W0, Hid (W0 = w.alloc (opO o)) := ⟨_, Eq.refl _⟩
  have HW0 : Hid (Touch (fun _ => False) w W0 ∧ OpAt w.heap.size o W0) := by rw [hW0.out]; exact ⟨(Touch.refl _ _).alloc _, heap_alloc_new _ _⟩
  rw [← hW0.out]
  clear hW0
  refine wp_abs (fun T => T.size = 257 ∧ T.getD 1 undef = .pointer (some ⟨w.heap.size, 0, none⟩)) ⟨by kernel_rfl, by kernel_rfl⟩ ?_
  intro T0 ⟨hsz0, h0_1⟩
  refine wp_region_lit ?_
  refine wpList_cutAt 4 (fun a' w' => ∃ T', a' = ⟨T', []⟩ ∧ T'.size = 257 ∧ T'.getD 1 undef = .pointer (some ⟨w.heap.size, 0, none⟩) ∧ T'.getD 15 undef = .bool (!a1) ∧ Hid (Touch (fun _ => False) w w' ∧ OpAt w.heap.size o w')) ?_ ?_
  · simp only [List.take_succ_cons, List.take_zero]
    have q0 := HW0.out.2.q0
    have q1 := HW0.out.2.q1
    refine wpTo_plain rfl fun K hK => ?_
    go_simp
    refine hK _ _ ?_
    clear hK K
    refine wpTo_plain rfl fun K hK => ?_
    go_simp
    refine hK _ _ ?_
    clear hK K
    clear q0 q1
    refine wpTo_plain rfl fun K hK => ?_
    go_simp
    refine (HR.out _ HW0.out.1).mono ?_
    rintro e V1 ⟨rfl, t⟩
    have HV1 : Hid (Touch (fun _ => False) w V1 ∧ OpAt w.heap.size o V1) := ⟨HW0.out.1.trans t, HW0.out.2.keep t⟩
    clear t
    refine hK _ _ ?_
    clear hK K
    refine wpTo_plain rfl fun K hK => ?_
    go_simp
    refine hK _ _ ?_
    clear hK K
    refine wpTo_nil ⟨_, rfl, ?_, ?_, ?_, HV1.out⟩
    · simp only [Array.size_setIfInBounds, hsz0]
    · go_simp
    · go_simp
  rintro _ W1 ⟨T1, rfl, hsz1, h1_1, h1_15, HW1⟩
  clear hsz0 h0_1 HW0
  simp only [List.drop_succ_cons, List.drop_zero]
  cases a1
  · go_upto_region 2 with fail
    refine wp_cond_true h1_15 ?_
    go_wp2_with fail
    go_ret
    exact ⟨by rw [HG.out, Bool.false_and, opErr_f]; go_simp, HW1.out.1⟩
  go_upto_region 4 with fail
  refine wp_cond_false h1_15 ?_
  go_upto_region 4 with fail
  refine wp_region_lit ?_
  refine wpList_cutAt 9 (fun a' w' => ∃ T', a' = ⟨T', []⟩ ∧ T'.size = 257 ∧ T'.getD 1 undef = .pointer (some ⟨w.heap.size, 0, none⟩) ∧ T'.getD 3 undef = .bool false ∧ T'.getD 4 undef = .bool pl ∧ Hid (Touch (fun _ => False) w w' ∧ OpAt w.heap.size o w')) ?_ ?_
  · simp only [List.take_succ_cons, List.take_zero]
    have q4 := HW1.out.2.q4
    have q5 := HW1.out.2.q5
    refine wpTo_plain rfl fun K hK => ?_
    go_simp
    refine hK _ _ ?_
    clear hK K
    refine wpTo_plain rfl fun K hK => ?_
    go_simp
    refine hK _ _ ?_
    clear hK K
    clear q4 q5
    refine wpTo_plain rfl fun K hK => ?_
    go_simp
    refine (HNL.out _ HW1.out.1).mono ?_
    rintro e V2 ⟨rfl, t⟩
    have HV2 : Hid (Touch (fun _ => False) w V2 ∧ OpAt w.heap.size o V2) := ⟨HW1.out.1.trans t, HW1.out.2.keep t⟩
    clear t
    refine hK _ _ ?_
    clear hK K
    refine wpTo_plain rfl fun K hK => ?_
    go_simp
    refine hK _ _ ?_
    clear hK K
    cases n1
    · refine wpTo_skip 3 19 rfl rfl (by simp only [Array.size_setIfInBounds, hsz1]; decide) (by go_simp) ?_
      simp only [Act.put]
      refine wpTo_skip 3 19 rfl rfl (by simp only [Array.size_setIfInBounds, hsz1]; decide) (by go_simp) ?_
      simp only [Act.put]
      refine wpTo_skip 3 19 rfl rfl (by simp only [Array.size_setIfInBounds, hsz1]; decide) (by go_simp) ?_
      simp only [Act.put]
      refine wpTo_plain rfl fun K hK => ?_
      go_simp
      refine hK _ _ ?_
      clear hK K
      refine wpTo_plain rfl fun K hK => ?_
      go_simp
      refine hK _ _ ?_
      clear hK K
      have e9 := HPpl.out
      simp only [Bool.false_and] at e9
      refine wpTo_nil ⟨_, rfl, ?_, ?_, ?_, ?_, HV2.out⟩
      · simp only [Array.size_setIfInBounds, hsz1]
      · go_simp
      · go_simp
      · go_simp
    · have q6 := HV2.out.2.q6
      have q7 := HV2.out.2.q7
      refine wpTo_go 3 19 rfl rfl (by simp only [Array.size_setIfInBounds, hsz1]; decide) (by go_simp) fun K hK => ?_
      go_simp
      refine hK _ _ ?_
      clear hK K
      refine wpTo_go 3 19 rfl rfl (by simp only [Array.size_setIfInBounds, hsz1]; decide) (by go_simp) fun K hK => ?_
      go_simp
      refine hK _ _ ?_
      clear hK K
      clear q6 q7
      refine wpTo_go 3 19 rfl rfl (by simp only [Array.size_setIfInBounds, hsz1]; decide) (by go_simp) fun K hK => ?_
      go_simp
      refine (HNT.out _ HV2.out.1).mono ?_
      rintro e V3 ⟨rfl, t⟩
      have HV3 : Hid (Touch (fun _ => False) w V3 ∧ OpAt w.heap.size o V3) := ⟨HV2.out.1.trans t, HV2.out.2.keep t⟩
      clear t
      refine hK _ _ ?_
      clear hK K
      refine wpTo_plain rfl fun K hK => ?_
      go_simp
      refine hK _ _ ?_
      clear hK K
      refine wpTo_plain rfl fun K hK => ?_
      go_simp
      refine hK _ _ ?_
      clear hK K
      have e9 := HPpl.out
      simp only [Bool.true_and] at e9
      refine wpTo_nil ⟨_, rfl, ?_, ?_, ?_, ?_, HV3.out⟩
      · simp only [Array.size_setIfInBounds, hsz1]
      · go_simp
      · go_simp
      · go_simp
  rintro _ W2 ⟨T2, rfl, hsz2, h2_1, h2_3, h2_4, HW2⟩
  clear hsz1 h1_1 h1_15 HW1
  simp only [List.drop_succ_cons, List.drop_zero]
  go_upto_region 5 with fail
  refine wp_region_lit ?_
  refine wpList_cutAt 9 (fun a' w' => ∃ T', a' = ⟨T', []⟩ ∧ T'.size = 257 ∧ T'.getD 1 undef = .pointer (some ⟨w.heap.size, 0, none⟩) ∧ T'.getD 3 undef = .bool false ∧ T'.getD 4 undef = .bool pl ∧ T'.getD 5 undef = .bool nw ∧ Hid (Touch (fun _ => False) w w' ∧ OpAt w.heap.size o w')) ?_ ?_
  · simp only [List.take_succ_cons, List.take_zero]
    have q4 := HW2.out.2.q4
    have q5 := HW2.out.2.q5
    refine wpTo_plain rfl fun K hK => ?_
    go_simp
    refine hK _ _ ?_
    clear hK K
    refine wpTo_plain rfl fun K hK => ?_
    go_simp
    refine hK _ _ ?_
    clear hK K
    clear q4 q5
    refine wpTo_plain rfl fun K hK => ?_
    go_simp
    refine (HOL.out _ HW2.out.1).mono ?_
    rintro e V4 ⟨rfl, t⟩
    have HV4 : Hid (Touch (fun _ => False) w V4 ∧ OpAt w.heap.size o V4) := ⟨HW2.out.1.trans t, HW2.out.2.keep t⟩
    clear t
    refine hK _ _ ?_
    clear hK K
    refine wpTo_plain rfl fun K hK => ?_
    go_simp
    refine hK _ _ ?_
    clear hK K
    cases m1
    · refine wpTo_skip 3 27 rfl rfl (by simp only [Array.size_setIfInBounds, hsz2]; decide) (by go_simp) ?_
      simp only [Act.put]
      refine wpTo_skip 3 27 rfl rfl (by simp only [Array.size_setIfInBounds, hsz2]; decide) (by go_simp) ?_
      simp only [Act.put]
      refine wpTo_skip 3 27 rfl rfl (by simp only [Array.size_setIfInBounds, hsz2]; decide) (by go_simp) ?_
      simp only [Act.put]
      refine wpTo_plain rfl fun K hK => ?_
      go_simp
      refine hK _ _ ?_
      clear hK K
      refine wpTo_plain rfl fun K hK => ?_
      go_simp
      refine hK _ _ ?_
      clear hK K
      have e9 := HPnw.out
      simp only [Bool.false_and] at e9
      refine wpTo_nil ⟨_, rfl, ?_, ?_, ?_, ?_, ?_, HV4.out⟩
      · simp only [Array.size_setIfInBounds, hsz2]
      · go_simp
      · go_simp
      · go_simp
      · go_simp
    · have q6 := HV4.out.2.q6
      have q7 := HV4.out.2.q7
      refine wpTo_go 3 27 rfl rfl (by simp only [Array.size_setIfInBounds, hsz2]; decide) (by go_simp) fun K hK => ?_
      go_simp
      refine hK _ _ ?_
      clear hK K
      refine wpTo_go 3 27 rfl rfl (by simp only [Array.size_setIfInBounds, hsz2]; decide) (by go_simp) fun K hK => ?_
      go_simp
      refine hK _ _ ?_
      clear hK K
      clear q6 q7
      refine wpTo_go 3 27 rfl rfl (by simp only [Array.size_setIfInBounds, hsz2]; decide) (by go_simp) fun K hK => ?_
      go_simp
      refine (HOT.out _ HV4.out.1).mono ?_
      rintro e V5 ⟨rfl, t⟩
      have HV5 : Hid (Touch (fun _ => False) w V5 ∧ OpAt w.heap.size o V5) := ⟨HV4.out.1.trans t, HV4.out.2.keep t⟩
      clear t
      refine hK _ _ ?_
      clear hK K
      refine wpTo_plain rfl fun K hK => ?_
      go_simp
      refine hK _ _ ?_
      clear hK K
      refine wpTo_plain rfl fun K hK => ?_
      go_simp
      refine hK _ _ ?_
      clear hK K
      have e9 := HPnw.out
      simp only [Bool.true_and] at e9
      refine wpTo_nil ⟨_, rfl, ?_, ?_, ?_, ?_, ?_, HV5.out⟩
      · simp only [Array.size_setIfInBounds, hsz2]
      · go_simp
      · go_simp
      · go_simp
      · go_simp
  rintro _ W3 ⟨T3, rfl, hsz3, h3_1, h3_3, h3_4, h3_5, HW3⟩
  clear hsz2 h2_1 h2_3 h2_4 HW2
  simp only [List.drop_succ_cons, List.drop_zero]
  go_upto_region 6 with fail
  refine wp_region_lit ?_
  refine wpList_cutAt 11 (fun a' w' => ∃ T', a' = ⟨T', []⟩ ∧ T'.size = 257 ∧ T'.getD 1 undef = .pointer (some ⟨w.heap.size, 0, none⟩) ∧ T'.getD 3 undef = .bool false ∧ T'.getD 4 undef = .bool pl ∧ T'.getD 5 undef = .bool nw ∧ T'.getD 6 undef = .bool sp ∧ Hid (Touch (fun _ => False) w w' ∧ OpAt w.heap.size o w')) ?_ ?_
  · simp only [List.take_succ_cons, List.take_zero]
    by_cases hx1 : o.fc = 0
    rotate_left
    · have q16 := HW3.out.2.q16
      have q17 := HW3.out.2.q17
      have q18 := HW3.out.2.q18
      have hb1 : (o.fc == 0) = false := by simpa using hx1
      refine wpTo_plain rfl fun K hK => ?_
      go_simp
      refine hK _ _ ?_
      clear hK K
      refine wpTo_plain rfl fun K hK => ?_
      go_simp
      refine hK _ _ ?_
      clear hK K
      refine wpTo_plain rfl fun K hK => ?_
      go_simp
      refine hK _ _ ?_
      clear hK K
      refine wpTo_plain rfl fun K hK => ?_
      go_simp
      refine hK _ _ ?_
      clear hK K
      clear q16 q17 q18
      refine wpTo_plain rfl fun K hK => ?_
      go_simp
      refine hK _ _ ?_
      clear hK K
      refine wpTo_skip 4 36 rfl rfl (by simp only [Array.size_setIfInBounds, hsz3]; decide) (by go_simp) ?_
      simp only [Act.put]
      refine wpTo_skip 4 36 rfl rfl (by simp only [Array.size_setIfInBounds, hsz3]; decide) (by go_simp) ?_
      simp only [Act.put]
      refine wpTo_skip 4 36 rfl rfl (by simp only [Array.size_setIfInBounds, hsz3]; decide) (by go_simp) ?_
      simp only [Act.put]
      refine wpTo_skip 4 36 rfl rfl (by simp only [Array.size_setIfInBounds, hsz3]; decide) (by go_simp) ?_
      simp only [Act.put]
      refine wpTo_plain rfl fun K hK => ?_
      go_simp
      refine hK _ _ ?_
      clear hK K
      refine wpTo_plain rfl fun K hK => ?_
      go_simp
      refine hK _ _ ?_
      clear hK K
      have e9 : sp = false := by rw [HPsp.out]; simp [*]
      refine wpTo_nil ⟨_, rfl, ?_, ?_, ?_, ?_, ?_, ?_, HW3.out⟩
      · simp only [Array.size_setIfInBounds, hsz3]
      · go_simp
      · go_simp
      · go_simp
      · go_simp
      · go_simp
    by_cases hx2 : o.fk = 0
    rotate_left
    · have q16 := HW3.out.2.q16
      have q17 := HW3.out.2.q17
      have q18 := HW3.out.2.q18
      have hb1 : (o.fk == 0) = false := by simpa using hx2
      rw [hx1] at q16
      refine wpTo_plain rfl fun K hK => ?_
      go_simp
      refine hK _ _ ?_
      clear hK K
      refine wpTo_plain rfl fun K hK => ?_
      go_simp
      refine hK _ _ ?_
      clear hK K
      refine wpTo_plain rfl fun K hK => ?_
      go_simp
      refine hK _ _ ?_
      clear hK K
      refine wpTo_plain rfl fun K hK => ?_
      go_simp
      refine hK _ _ ?_
      clear hK K
      clear q16 q17 q18
      refine wpTo_plain rfl fun K hK => ?_
      go_simp
      refine hK _ _ ?_
      clear hK K
      refine wpTo_skip 4 36 rfl rfl (by simp only [Array.size_setIfInBounds, hsz3]; decide) (by go_simp) ?_
      simp only [Act.put]
      refine wpTo_skip 4 36 rfl rfl (by simp only [Array.size_setIfInBounds, hsz3]; decide) (by go_simp) ?_
      simp only [Act.put]
      refine wpTo_skip 4 36 rfl rfl (by simp only [Array.size_setIfInBounds, hsz3]; decide) (by go_simp) ?_
      simp only [Act.put]
      refine wpTo_skip 4 36 rfl rfl (by simp only [Array.size_setIfInBounds, hsz3]; decide) (by go_simp) ?_
      simp only [Act.put]
      refine wpTo_plain rfl fun K hK => ?_
      go_simp
      refine hK _ _ ?_
      clear hK K
      refine wpTo_plain rfl fun K hK => ?_
      go_simp
      refine hK _ _ ?_
      clear hK K
      have e9 : sp = false := by rw [HPsp.out]; simp [*]
      refine wpTo_nil ⟨_, rfl, ?_, ?_, ?_, ?_, ?_, ?_, HW3.out⟩
      · simp only [Array.size_setIfInBounds, hsz3]
      · go_simp
      · go_simp
      · go_simp
      · go_simp
      · go_simp
    cases hx3 : o.fa
    rotate_left
    · have q16 := HW3.out.2.q16
      have q17 := HW3.out.2.q17
      have q18 := HW3.out.2.q18
      rw [hx1] at q16
      rw [hx2] at q17
      rw [hx3] at q18
      refine wpTo_plain rfl fun K hK => ?_
      go_simp
      refine hK _ _ ?_
      clear hK K
      refine wpTo_plain rfl fun K hK => ?_
      go_simp
      refine hK _ _ ?_
      clear hK K
      refine wpTo_plain rfl fun K hK => ?_
      go_simp
      refine hK _ _ ?_
      clear hK K
      refine wpTo_plain rfl fun K hK => ?_
      go_simp
      refine hK _ _ ?_
      clear hK K
      clear q16 q17 q18
      refine wpTo_plain rfl fun K hK => ?_
      go_simp
      refine hK _ _ ?_
      clear hK K
      refine wpTo_skip 4 36 rfl rfl (by simp only [Array.size_setIfInBounds, hsz3]; decide) (by go_simp) ?_
      simp only [Act.put]
      refine wpTo_skip 4 36 rfl rfl (by simp only [Array.size_setIfInBounds, hsz3]; decide) (by go_simp) ?_
      simp only [Act.put]
      refine wpTo_skip 4 36 rfl rfl (by simp only [Array.size_setIfInBounds, hsz3]; decide) (by go_simp) ?_
      simp only [Act.put]
      refine wpTo_skip 4 36 rfl rfl (by simp only [Array.size_setIfInBounds, hsz3]; decide) (by go_simp) ?_
      simp only [Act.put]
      refine wpTo_plain rfl fun K hK => ?_
      go_simp
      refine hK _ _ ?_
      clear hK K
      refine wpTo_plain rfl fun K hK => ?_
      go_simp
      refine hK _ _ ?_
      clear hK K
      have e9 : sp = false := by rw [HPsp.out]; simp [*]
      refine wpTo_nil ⟨_, rfl, ?_, ?_, ?_, ?_, ?_, ?_, HW3.out⟩
      · simp only [Array.size_setIfInBounds, hsz3]
      · go_simp
      · go_simp
      · go_simp
      · go_simp
      · go_simp
    · have q16 := HW3.out.2.q16
      have q17 := HW3.out.2.q17
      have q18 := HW3.out.2.q18
      rw [hx1] at q16
      rw [hx2] at q17
      rw [hx3] at q18
      refine wpTo_plain rfl fun K hK => ?_
      go_simp
      refine hK _ _ ?_
      clear hK K
      refine wpTo_plain rfl fun K hK => ?_
      go_simp
      refine hK _ _ ?_
      clear hK K
      refine wpTo_plain rfl fun K hK => ?_
      go_simp
      refine hK _ _ ?_
      clear hK K
      refine wpTo_plain rfl fun K hK => ?_
      go_simp
      refine hK _ _ ?_
      clear hK K
      clear q16 q17 q18
      refine wpTo_plain rfl fun K hK => ?_
      go_simp
      refine hK _ _ ?_
      clear hK K
      have hf1 := hx1
      have hf2 := hx2
      have hf3 := hx3
      clear hx1 hx2 hx3
      by_cases hx1 : o.tc = 0
      rotate_left
      · have q19 := HW3.out.2.q19
        have q20 := HW3.out.2.q20
        have q21 := HW3.out.2.q21
        have hb1 : (o.tc == 0) = false := by simpa using hx1
        refine wpTo_go 4 36 rfl rfl (by simp only [Array.size_setIfInBounds, hsz3]; decide) (by go_simp) fun K hK => ?_
        go_simp
        refine hK _ _ ?_
        clear hK K
        refine wpTo_go 4 36 rfl rfl (by simp only [Array.size_setIfInBounds, hsz3]; decide) (by go_simp) fun K hK => ?_
        go_simp
        refine hK _ _ ?_
        clear hK K
        refine wpTo_go 4 36 rfl rfl (by simp only [Array.size_setIfInBounds, hsz3]; decide) (by go_simp) fun K hK => ?_
        go_simp
        refine hK _ _ ?_
        clear hK K
        refine wpTo_go 4 36 rfl rfl (by simp only [Array.size_setIfInBounds, hsz3]; decide) (by go_simp) fun K hK => ?_
        go_simp
        refine hK _ _ ?_
        clear hK K
        clear q19 q20 q21
        refine wpTo_plain rfl fun K hK => ?_
        go_simp
        refine hK _ _ ?_
        clear hK K
        refine wpTo_plain rfl fun K hK => ?_
        go_simp
        refine hK _ _ ?_
        clear hK K
        have e9 : sp = false := by rw [HPsp.out]; simp [*]
        refine wpTo_nil ⟨_, rfl, ?_, ?_, ?_, ?_, ?_, ?_, HW3.out⟩
        · simp only [Array.size_setIfInBounds, hsz3]
        · go_simp
        · go_simp
        · go_simp
        · go_simp
        · go_simp
      by_cases hx2 : o.tk = 0
      rotate_left
      · have q19 := HW3.out.2.q19
        have q20 := HW3.out.2.q20
        have q21 := HW3.out.2.q21
        have hb1 : (o.tk == 0) = false := by simpa using hx2
        rw [hx1] at q19
        refine wpTo_go 4 36 rfl rfl (by simp only [Array.size_setIfInBounds, hsz3]; decide) (by go_simp) fun K hK => ?_
        go_simp
        refine hK _ _ ?_
        clear hK K
        refine wpTo_go 4 36 rfl rfl (by simp only [Array.size_setIfInBounds, hsz3]; decide) (by go_simp) fun K hK => ?_
        go_simp
        refine hK _ _ ?_
        clear hK K
        refine wpTo_go 4 36 rfl rfl (by simp only [Array.size_setIfInBounds, hsz3]; decide) (by go_simp) fun K hK => ?_
        go_simp
        refine hK _ _ ?_
        clear hK K
        refine wpTo_go 4 36 rfl rfl (by simp only [Array.size_setIfInBounds, hsz3]; decide) (by go_simp) fun K hK => ?_
        go_simp
        refine hK _ _ ?_
        clear hK K
        clear q19 q20 q21
        refine wpTo_plain rfl fun K hK => ?_
        go_simp
        refine hK _ _ ?_
        clear hK K
        refine wpTo_plain rfl fun K hK => ?_
        go_simp
        refine hK _ _ ?_
        clear hK K
        have e9 : sp = false := by rw [HPsp.out]; simp [*]
        refine wpTo_nil ⟨_, rfl, ?_, ?_, ?_, ?_, ?_, ?_, HW3.out⟩
        · simp only [Array.size_setIfInBounds, hsz3]
        · go_simp
        · go_simp
        · go_simp
        · go_simp
        · go_simp
      cases hx3 : o.ta
      rotate_left
      · have q19 := HW3.out.2.q19
        have q20 := HW3.out.2.q20
        have q21 := HW3.out.2.q21
        rw [hx1] at q19
        rw [hx2] at q20
        rw [hx3] at q21
        refine wpTo_go 4 36 rfl rfl (by simp only [Array.size_setIfInBounds, hsz3]; decide) (by go_simp) fun K hK => ?_
        go_simp
        refine hK _ _ ?_
        clear hK K
        refine wpTo_go 4 36 rfl rfl (by simp only [Array.size_setIfInBounds, hsz3]; decide) (by go_simp) fun K hK => ?_
        go_simp
        refine hK _ _ ?_
        clear hK K
        refine wpTo_go 4 36 rfl rfl (by simp only [Array.size_setIfInBounds, hsz3]; decide) (by go_simp) fun K hK => ?_
        go_simp
        refine hK _ _ ?_
        clear hK K
        refine wpTo_go 4 36 rfl rfl (by simp only [Array.size_setIfInBounds, hsz3]; decide) (by go_simp) fun K hK => ?_
        go_simp
        refine hK _ _ ?_
        clear hK K
        clear q19 q20 q21
        refine wpTo_plain rfl fun K hK => ?_
        go_simp
        refine hK _ _ ?_
        clear hK K
        refine wpTo_plain rfl fun K hK => ?_
        go_simp
        refine hK _ _ ?_
        clear hK K
        have e9 : sp = false := by rw [HPsp.out]; simp [*]
        refine wpTo_nil ⟨_, rfl, ?_, ?_, ?_, ?_, ?_, ?_, HW3.out⟩
        · simp only [Array.size_setIfInBounds, hsz3]
        · go_simp
        · go_simp
        · go_simp
        · go_simp
        · go_simp
      · have q19 := HW3.out.2.q19
        have q20 := HW3.out.2.q20
        have q21 := HW3.out.2.q21
        rw [hx1] at q19
        rw [hx2] at q20
        rw [hx3] at q21
        refine wpTo_go 4 36 rfl rfl (by simp only [Array.size_setIfInBounds, hsz3]; decide) (by go_simp) fun K hK => ?_
        go_simp
        refine hK _ _ ?_
        clear hK K
        refine wpTo_go 4 36 rfl rfl (by simp only [Array.size_setIfInBounds, hsz3]; decide) (by go_simp) fun K hK => ?_
        go_simp
        refine hK _ _ ?_
        clear hK K
        refine wpTo_go 4 36 rfl rfl (by simp only [Array.size_setIfInBounds, hsz3]; decide) (by go_simp) fun K hK => ?_
        go_simp
        refine hK _ _ ?_
        clear hK K
        refine wpTo_go 4 36 rfl rfl (by simp only [Array.size_setIfInBounds, hsz3]; decide) (by go_simp) fun K hK => ?_
        go_simp
        refine hK _ _ ?_
        clear hK K
        clear q19 q20 q21
        refine wpTo_plain rfl fun K hK => ?_
        go_simp
        refine hK _ _ ?_
        clear hK K
        refine wpTo_plain rfl fun K hK => ?_
        go_simp
        refine hK _ _ ?_
        clear hK K
        have e9 : sp = true := by rw [HPsp.out]; simp [*]
        refine wpTo_nil ⟨_, rfl, ?_, ?_, ?_, ?_, ?_, ?_, HW3.out⟩
        · simp only [Array.size_setIfInBounds, hsz3]
        · go_simp
        · go_simp
        · go_simp
        · go_simp
        · go_simp
  rintro _ W4 ⟨T4, rfl, hsz4, h4_1, h4_3, h4_4, h4_5, h4_6, HW4⟩
  clear hsz3 h3_1 h3_3 h3_4 h3_5 HW3
  simp only [List.drop_succ_cons, List.drop_zero]
  go_upto_region 7 with fail
  refine wp_region_lit ?_
  refine wpList_cutAt 9 (fun a' w' => ∃ T', a' = ⟨T', []⟩ ∧ T'.size = 257 ∧ T'.getD 1 undef = .pointer (some ⟨w.heap.size, 0, none⟩) ∧ T'.getD 3 undef = .bool false ∧ T'.getD 4 undef = .bool pl ∧ T'.getD 5 undef = .bool nw ∧ T'.getD 6 undef = .bool sp ∧ T'.getD 7 undef = .bool sm ∧ Hid (Touch (fun _ => False) w w' ∧ OpAt w.heap.size o w')) ?_ ?_
  · simp only [List.take_succ_cons, List.take_zero]
    by_cases hx1 : 1 ≤ o.st
    · have q3 := HW4.out.2.q3
      refine wpTo_plain rfl fun K hK => ?_
      go_simp
      refine hK _ _ ?_
      clear hK K
      refine wpTo_plain rfl fun K hK => ?_
      go_simp
      refine hK _ _ ?_
      clear hK K
      refine wpTo_plain rfl fun K hK => ?_
      go_simp
      refine hK _ _ ?_
      clear hK K
      refine wpTo_plain rfl fun K hK => ?_
      go_simp
      refine hK _ _ ?_
      clear hK K
      by_cases hx2 : o.st ≤ 9007199254740991
      · refine wpTo_go 3 45 rfl rfl (by simp only [Array.size_setIfInBounds, hsz4]; decide) (by go_simp) fun K hK => ?_
        go_simp
        refine hK _ _ ?_
        clear hK K
        refine wpTo_go 3 45 rfl rfl (by simp only [Array.size_setIfInBounds, hsz4]; decide) (by go_simp) fun K hK => ?_
        go_simp
        refine hK _ _ ?_
        clear hK K
        refine wpTo_go 3 45 rfl rfl (by simp only [Array.size_setIfInBounds, hsz4]; decide) (by go_simp) fun K hK => ?_
        go_simp
        refine hK _ _ ?_
        clear hK K
        clear q3
        refine wpTo_plain rfl fun K hK => ?_
        go_simp
        refine hK _ _ ?_
        clear hK K
        refine wpTo_plain rfl fun K hK => ?_
        go_simp
        refine hK _ _ ?_
        clear hK K
        have e9 : sm = true := by rw [HPsm.out]; simp [*]
        refine wpTo_nil ⟨_, rfl, ?_, ?_, ?_, ?_, ?_, ?_, ?_, HW4.out⟩
        · simp only [Array.size_setIfInBounds, hsz4]
        · go_simp
        · go_simp
        · go_simp
        · go_simp
        · go_simp
        · go_simp
      · refine wpTo_go 3 45 rfl rfl (by simp only [Array.size_setIfInBounds, hsz4]; decide) (by go_simp) fun K hK => ?_
        go_simp
        refine hK _ _ ?_
        clear hK K
        refine wpTo_go 3 45 rfl rfl (by simp only [Array.size_setIfInBounds, hsz4]; decide) (by go_simp) fun K hK => ?_
        go_simp
        refine hK _ _ ?_
        clear hK K
        refine wpTo_go 3 45 rfl rfl (by simp only [Array.size_setIfInBounds, hsz4]; decide) (by go_simp) fun K hK => ?_
        go_simp
        refine hK _ _ ?_
        clear hK K
        clear q3
        refine wpTo_plain rfl fun K hK => ?_
        go_simp
        refine hK _ _ ?_
        clear hK K
        refine wpTo_plain rfl fun K hK => ?_
        go_simp
        refine hK _ _ ?_
        clear hK K
        have hx3 : 9007199254740991 < o.st := by omega
        have e9 : sm = false := by rw [HPsm.out]; simp [*]
        refine wpTo_nil ⟨_, rfl, ?_, ?_, ?_, ?_, ?_, ?_, ?_, HW4.out⟩
        · simp only [Array.size_setIfInBounds, hsz4]
        · go_simp
        · go_simp
        · go_simp
        · go_simp
        · go_simp
        · go_simp
    · have q3 := HW4.out.2.q3
      refine wpTo_plain rfl fun K hK => ?_
      go_simp
      refine hK _ _ ?_
      clear hK K
      refine wpTo_plain rfl fun K hK => ?_
      go_simp
      refine hK _ _ ?_
      clear hK K
      refine wpTo_plain rfl fun K hK => ?_
      go_simp
      refine hK _ _ ?_
      clear hK K
      refine wpTo_plain rfl fun K hK => ?_
      go_simp
      refine hK _ _ ?_
      clear hK K
      clear q3
      refine wpTo_skip 3 45 rfl rfl (by simp only [Array.size_setIfInBounds, hsz4]; decide) (by go_simp) ?_
      simp only [Act.put]
      refine wpTo_skip 3 45 rfl rfl (by simp only [Array.size_setIfInBounds, hsz4]; decide) (by go_simp) ?_
      simp only [Act.put]
      refine wpTo_skip 3 45 rfl rfl (by simp only [Array.size_setIfInBounds, hsz4]; decide) (by go_simp) ?_
      simp only [Act.put]
      refine wpTo_plain rfl fun K hK => ?_
      go_simp
      refine hK _ _ ?_
      clear hK K
      refine wpTo_plain rfl fun K hK => ?_
      go_simp
      refine hK _ _ ?_
      clear hK K
      have hx3 : o.st < 1 := by omega
      have e9 : sm = false := by rw [HPsm.out]; simp [*]
      refine wpTo_nil ⟨_, rfl, ?_, ?_, ?_, ?_, ?_, ?_, ?_, HW4.out⟩
      · simp only [Array.size_setIfInBounds, hsz4]
      · go_simp
      · go_simp
      · go_simp
      · go_simp
      · go_simp
      · go_simp
  rintro _ W5 ⟨T5, rfl, hsz5, h5_1, h5_3, h5_4, h5_5, h5_6, h5_7, HW5⟩
  clear hsz4 h4_1 h4_3 h4_4 h4_5 h4_6 HW4
  simp only [List.drop_succ_cons, List.drop_zero]
  go_upto_region 8 with fail
  refine wp_region_lit ?_
  refine wpList_cutAt 5 (fun a' w' => ∃ T', a' = ⟨T', []⟩ ∧ T'.size = 257 ∧ T'.getD 1 undef = .pointer (some ⟨w.heap.size, 0, none⟩) ∧ T'.getD 3 undef = .bool false ∧ T'.getD 4 undef = .bool pl ∧ T'.getD 5 undef = .bool nw ∧ T'.getD 6 undef = .bool sp ∧ T'.getD 7 undef = .bool sm ∧ T'.getD 8 undef = .bool vl ∧ Hid (Touch (fun _ => False) w w' ∧ OpAt w.heap.size o w')) ?_ ?_
  · simp only [List.take_succ_cons, List.take_zero]
    have q9 := HW5.out.2.q9
    have q10 := HW5.out.2.q10
    have q11 := HW5.out.2.q11
    have q12 := HW5.out.2.q12
    refine wpTo_plain rfl fun K hK => ?_
    go_simp
    refine hK _ _ ?_
    clear hK K
    refine wpTo_plain rfl fun K hK => ?_
    go_simp
    refine hK _ _ ?_
    clear hK K
    clear q9 q10 q11 q12
    refine wpTo_plain rfl fun K hK => ?_
    go_simp
    refine (HV.out _ HW5.out.1).mono ?_
    rintro e V6 ⟨rfl, t⟩
    have HV6 : Hid (Touch (fun _ => False) w V6 ∧ OpAt w.heap.size o V6) := ⟨HW5.out.1.trans t, HW5.out.2.keep t⟩
    clear t
    refine hK _ _ ?_
    clear hK K
    refine wpTo_plain rfl fun K hK => ?_
    go_simp
    refine hK _ _ ?_
    clear hK K
    refine wpTo_plain rfl fun K hK => ?_
    go_simp
    refine hK _ _ ?_
    clear hK K
    have e9 := HPvl.out
    refine wpTo_nil ⟨_, rfl, ?_, ?_, ?_, ?_, ?_, ?_, ?_, ?_, HV6.out⟩
    · simp only [Array.size_setIfInBounds, hsz5]
    · go_simp
    · go_simp
    · go_simp
    · go_simp
    · go_simp
    · go_simp
    · go_simp
  rintro _ W6 ⟨T6, rfl, hsz6, h6_1, h6_3, h6_4, h6_5, h6_6, h6_7, h6_8, HW6⟩
  clear hsz5 h5_1 h5_3 h5_4 h5_5 h5_6 h5_7 HW5
  simp only [List.drop_succ_cons, List.drop_zero]
  go_upto_region 9 with fail
  refine wp_region_lit ?_
  refine wpList_cutAt 2 (fun a' w' => ∃ T', a' = ⟨T', []⟩ ∧ T'.size = 257 ∧ T'.getD 1 undef = .pointer (some ⟨w.heap.size, 0, none⟩) ∧ T'.getD 3 undef = .bool false ∧ T'.getD 55 undef = .int .i64 kk ∧ Hid (Touch (fun _ => False) w w' ∧ OpAt w.heap.size o w')) ?_ ?_
  · simp only [List.take_succ_cons, List.take_zero]
    have q2 := HW6.out.2.q2
    rw [show o.kind = kk from HQK.out] at q2
    refine wpTo_plain rfl fun K hK => ?_
    go_simp
    refine hK _ _ ?_
    clear hK K
    refine wpTo_plain rfl fun K hK => ?_
    go_simp
    refine hK _ _ ?_
    clear hK K
    clear q2
    refine wpTo_nil ⟨_, rfl, ?_, ?_, ?_, ?_, HW6.out⟩
    · simp only [Array.size_setIfInBounds, hsz6]
    · go_simp
    · go_simp
    · go_simp
  rintro _ W7 ⟨T7, rfl, hsz7, h7_1, h7_3, h7_55, HW7⟩
  clear hsz6 h6_1 h6_3 h6_4 h6_5 h6_6 h6_7 h6_8 HW6
  simp only [List.drop_succ_cons, List.drop_zero]
  obtain ⟨n1, n2, n3, n4⟩ := HKN.out
  have m1 : (kk == 1) = false := by simpa using n1
  have m2 : (kk == 2) = false := by simpa using n2
  have m3 : (kk == 3) = false := by simpa using n3
  have m4 : (kk == 4) = false := by simpa using n4
  go_upto_region 11 with fail
  refine wp_abs (fun T => T.size = 257 ∧ T.getD 1 undef = .pointer (some ⟨w.heap.size, 0, none⟩) ∧ T.getD 3 undef = .bool false ∧ T.getD 55 undef = .int .i64 kk ∧ T.getD 56 undef = .bool false) ⟨by simp only [Array.size_setIfInBounds, hsz7], by go_simp, by go_simp, by go_simp, by go_simp⟩ ?_
  intro T8 ⟨hsz8, h8_1, h8_3, h8_55, h8_56⟩
  clear hsz7 h7_1 h7_3 h7_55
  have HW8 := HW7
  clear HW7
  refine wp_cond_false h8_56 ?_
  go_upto_region 14 with fail
  refine wp_abs (fun T => T.size = 257 ∧ T.getD 1 undef = .pointer (some ⟨w.heap.size, 0, none⟩) ∧ T.getD 3 undef = .bool false ∧ T.getD 55 undef = .int .i64 kk ∧ T.getD 108 undef = .bool false) ⟨by simp only [Array.size_setIfInBounds, hsz8], by go_simp, by go_simp, by go_simp, by go_simp⟩ ?_
  intro T9 ⟨hsz9, h9_1, h9_3, h9_55, h9_108⟩
  clear hsz8 h8_1 h8_3 h8_55 h8_56
  have HW9 := HW8
  clear HW8
  refine wp_cond_false h9_108 ?_
  go_upto_region 16 with fail
  refine wp_abs (fun T => T.size = 257 ∧ T.getD 1 undef = .pointer (some ⟨w.heap.size, 0, none⟩) ∧ T.getD 3 undef = .bool false ∧ T.getD 55 undef = .int .i64 kk ∧ T.getD 143 undef = .bool false) ⟨by simp only [Array.size_setIfInBounds, hsz9], by go_simp, by go_simp, by go_simp, by go_simp⟩ ?_
  intro T10 ⟨hsz10, h10_1, h10_3, h10_55, h10_143⟩
  clear hsz9 h9_1 h9_3 h9_55 h9_108
  have HW10 := HW9
  clear HW9
  refine wp_cond_false h10_143 ?_
  go_upto_region 18 with fail
  refine wp_abs (fun T => T.size = 257 ∧ T.getD 1 undef = .pointer (some ⟨w.heap.size, 0, none⟩) ∧ T.getD 3 undef = .bool false ∧ T.getD 55 undef = .int .i64 kk ∧ T.getD 185 undef = .bool false) ⟨by simp only [Array.size_setIfInBounds, hsz10], by go_simp, by go_simp, by go_simp, by go_simp⟩ ?_
  intro T11 ⟨hsz11, h11_1, h11_3, h11_55, h11_185⟩
  clear hsz10 h10_1 h10_3 h10_55 h10_143
  have HW11 := HW10
  clear HW10
  refine wp_cond_false h11_185 ?_
  go_upto_region 20 with fail
  refine wp_abs (fun T => T.size = 257 ∧ T.getD 213 undef = .bool true) ⟨by simp only [Array.size_setIfInBounds, hsz11], by go_simp⟩ ?_
  intro T12 ⟨hsz12, h12_213⟩
  clear hsz11 h11_1 h11_3 h11_55 h11_185
  have HW12 := HW11
  clear HW11
  refine wp_cond_true h12_213 ?_
  go_wp2_with fail
  go_ret
  exact ⟨by rw [HG.out]; simp only [Bool.false_and, Bool.true_and, Bool.and_false, Bool.not_true, Bool.not_false, Bool.and_true, Bool.and_self]; (first | rw [opErr_f] | rw [opErr_t]); go_simp, HW12.out.1⟩
end Go.Proofs.YtphcnjbiojdalaaGreatDoor
