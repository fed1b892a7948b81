/- For every two lists of marks and every two operations quirelaw11.MarksSame answers true: the walk. -/
import Derived.Test.YtdnhoicfolkbnaaGreatKnown11
import Derived.Test.YtdnhoicfolkbnaaGreatPart28
import Derived.Deep.RegionHeld3
import Derived.Deep.MidRow
namespace Go.Proofs.YtdnhoicfolkbnaaGreat
open Go.RowKit
set_option linter.unusedVariables false
set_option linter.unusedSimpArgs false
set_option maxRecDepth 100000

theorem sameK_symm (a b : Mk) : sameK a b = sameK b a := by
  unfold sameK
  have h1 : (a.ky.toList == b.ky.toList) = (b.ky.toList == a.ky.toList) := by
    rw [Bool.eq_iff_iff, beq_iff_eq, beq_iff_eq]; exact ⟨Eq.symm, Eq.symm⟩
  have h2 : (refCmp a.v b.v == 0) = (refCmp b.v a.v == 0) := by
    have := refCmp_anti a.v b.v
    rw [Bool.eq_iff_iff, beq_iff_eq, beq_iff_eq]; omega
  rw [h1, h2]
theorem sameL_symm : ∀ a b : List Mk, sameL a b = sameL b a := by
  intro a b
  have key : ∀ a b : List Mk, sameL a b = true → sameL b a = true := by
    intro a b h
    unfold sameL at h
    rw [Bool.and_eq_true, decide_eq_true_eq] at h
    refine sameL_all h.1.symm fun j hb ha => ?_
    rw [sameK_symm]
    have := List.all_eq_true.1 h.2 (a[j], b[j]) (by rw [List.mem_iff_getElem]; exact ⟨j, by rw [List.length_zip]; omega, by rw [List.getElem_zip]⟩)
    exact this
  rw [Bool.eq_iff_iff]
  exact ⟨key a b, key b a⟩
theorem lessM_asymm (x y : O) (h : lessM x y = true) : lessM y x = false := by
  unfold lessM at h ⊢
  by_cases e : x.st = y.st
  · rw [if_pos e] at h
    rw [if_pos e.symm]
    unfold lessI at h ⊢
    by_cases e2 : x.c = y.c
    · rw [if_pos e2, decide_eq_true_eq] at h
      rw [if_pos e2.symm, decide_eq_false_iff_not]
      omega
    · rw [if_neg e2, decide_eq_true_eq] at h
      rw [if_neg fun q => e2 q.symm, decide_eq_false_iff_not]
      omega
  · rw [if_neg e, decide_eq_true_eq] at h
    rw [if_neg fun q => e q.symm, decide_eq_false_iff_not]
    omega
set_option maxHeartbeats 8000000 in
theorem marksSame_any {w : World} {va vb : Value} {a b : List Mk} (x y : O) (hA : SlY w va a) (hB : SlY w vb b) (fa : ∀ m ∈ a, m.vf < 18446744073709551616) (fb : ∀ m ∈ b, m.vf < 18446744073709551616) :
    Calls Tryz.prog 7 #[va, vb, x.val, y.val] w fun e w' => e = .returned (.bool true) ∧ Touch (fun _ => False) w w' := by
  obtain ⟨ao, ac, rfl, -, -, -⟩ := hA.shape
  obtain ⟨bo, bc, rfl, -, -, -⟩ := hB.shape
  have HKn : Hid (∀ W, Touch (fun _ => False) w W → Calls Tryz.prog 9 #[] W fun e w' => e = .returned (.bool true) ∧ Touch (fun _ => False) W w') := fun W t => known_any W
  have HM : Hid (∀ W, Touch (fun _ => False) w W → Calls Tryz.prog 26 #[.slice ao a.length ac, .slice bo b.length bc] W fun e w' => e = .returned (.bool (sameL a b)) ∧ Touch (fun _ => False) W w') := fun W t => msame_any (hA.touch t) (hB.touch t) fa fb
  have HQ : Hid (∀ W, Touch (fun _ => False) w W → Calls Tryz.prog 20 #[.slice ao a.length ac, .slice bo b.length bc] W fun e w' => e = .returned (.bool (sameL a b)) ∧ Touch (fun _ => False) W w') := fun W t => qsame_any (hA.touch t) (hB.touch t) fa fb
  have HN : Hid (∀ W, Touch (fun _ => False) w W → Calls Tryz.prog 26 #[.slice bo b.length bc, .slice ao a.length ac] W fun e w' => e = .returned (.bool (sameL a b)) ∧ Touch (fun _ => False) W w') := fun W t => by rw [sameL_symm a b]; exact msame_any (hB.touch t) (hA.touch t) fb fa
  have HL1 : Hid (∀ W, Touch (fun _ => False) w W → Calls Tryz.prog 27 #[x.val, y.val] W fun e w' => e = .returned (.bool (lessM x y)) ∧ Touch (fun _ => False) W w') := fun W t => mless_any x y W
  have HL2 : Hid (∀ W, Touch (fun _ => False) w W → Calls Tryz.prog 28 #[x.val, y.val] W fun e w' => e = .returned (.bool (lessM x y)) ∧ Touch (fun _ => False) W w') := fun W t => qmless_any x y W
  have HL3 : Hid (∀ W, Touch (fun _ => False) w W → Calls Tryz.prog 27 #[y.val, x.val] W fun e w' => e = .returned (.bool (lessM y x)) ∧ Touch (fun _ => False) W w') := fun W t => mless_any y x W
  have HA : Hid (lessM x y = true → lessM y x = false) := lessM_asymm x y
  clear hA hB fa fb
  generalize sameL a b = sm at *
  generalize lessM x y = ls at *
  generalize lessM y x = lt at *
  go_enter Tryz.func7, Tryz.ntmps7
  go_upto_region 1 with fail
  obtain ⟨W0, hW0⟩ : ∃ W0, Hid (W0 = (w.alloc (opO x)).alloc (opO y)) := ⟨_, Eq.refl _⟩
  have HW0 : Hid (Touch (fun _ => False) w W0 ∧ W0.heap[w.heap.size]? = some (opO x) ∧ W0.heap[w.heap.size + 1]? = some (opO y)) := by
    rw [hW0.out]
    refine ⟨((Touch.refl _ _).alloc _).alloc _, (Below.heap_alloc _ _ _ (by simp)).trans (heap_alloc_new _ _), ?_⟩
    have := heap_alloc_new (w.alloc (opO x)) (opO y)
    simpa using this
  rw [← hW0.out]
  clear hW0
  go_wp2_with fail
  refine (HKn.out _ HW0.out.1).mono ?_
  rintro e W1 ⟨rfl, t⟩
  have HW1 : Hid (Touch (fun _ => False) w W1 ∧ W1.heap[w.heap.size]? = some (opO x) ∧ W1.heap[w.heap.size + 1]? = some (opO y)) := ⟨HW0.out.1.trans t, heap_keep t HW0.out.2.1, heap_keep t HW0.out.2.2⟩
  clear t HW0 HKn
  by_cases ha : a.length ≤ 30
  · have d1 : decide ((a.length : Int) > 30) = false := by simp; omega
    by_cases hb : b.length ≤ 30
    · have d2 : decide ((b.length : Int) > 30) = false := by simp; omega
      go_upto_region 5 with fail
      clear ha hb d1 d2
      have sbb : (sm == sm) = true := by simp
      have lbb : (ls == ls) = true := by simp
      have HY0 : Hid (Touch (fun _ => False) w W1.drew ∧ W1.drew.heap[w.heap.size]? = some (opO x) ∧ W1.drew.heap[w.heap.size + 1]? = some (opO y)) := ⟨HW1.out.1.drew, HW1.out.2.1, HW1.out.2.2⟩
      clear HW1
      refine wp_region_held_drew (S := fun W' => W'.heap[w.heap.size]? = some (opO x) ∧ W'.heap[w.heap.size + 1]? = some (opO y)) (by kernel_rfl) HY0.out.2 (fun hHeld => ?_)
      refine wpAnyH_take (i := 0) (oi := { dst := some 19, op := Go.Op.move (Go.Operand.tmp 0), type := 50, pos := "law.go:192", after := #[], guard := none }) (v := .slice ao a.length ac) rfl (by kernel_rfl) (by kernel_rfl) (by kernel_rfl) (fun _ _ _ h => h) (Or.inl ⟨by rfl, ?_⟩) hHeld ?_
      · intro w hSw; clear hSw; go_simp
      simp only [Act.put, List.setIfInBounds_toArray]
      refine wpAnyH_take (i := 1) (oi := { dst := some 20, op := Go.Op.move (Go.Operand.tmp 1), type := 50, pos := "law.go:192", after := #[], guard := none }) (v := .slice bo b.length bc) rfl (by kernel_rfl) (by kernel_rfl) (by kernel_rfl) (fun _ _ _ h => h) (Or.inl ⟨by rfl, ?_⟩) hHeld ?_
      · intro w hSw; clear hSw; go_simp
      simp only [Act.put, List.setIfInBounds_toArray]
      refine wpAnyH_take (i := 3) (oi := { dst := some 22, op := Go.Op.move (Go.Operand.tmp 0), type := 50, pos := "law.go:192", after := #[], guard := none }) (v := .slice ao a.length ac) rfl (by kernel_rfl) (by kernel_rfl) (by kernel_rfl) (fun _ _ _ h => h) (Or.inl ⟨by rfl, ?_⟩) hHeld ?_
      · intro w hSw; clear hSw; go_simp
      simp only [Act.put, List.setIfInBounds_toArray]
      refine wpAnyH_take (i := 4) (oi := { dst := some 23, op := Go.Op.move (Go.Operand.tmp 1), type := 50, pos := "law.go:192", after := #[], guard := none }) (v := .slice bo b.length bc) rfl (by kernel_rfl) (by kernel_rfl) (by kernel_rfl) (fun _ _ _ h => h) (Or.inl ⟨by rfl, ?_⟩) hHeld ?_
      · intro w hSw; clear hSw; go_simp
      simp only [Act.put, List.setIfInBounds_toArray]
      refine wpAnyH_ready (rs := [2]) (by kernel_rfl) (by simp) ?_
      refine AllReadyH.cons (o := { dst := some 21, op := Go.Op.call { callee := Go.Callee.value (Go.Operand.func 26), args := #[Go.Operand.tmp 19, Go.Operand.tmp 20], argTypes := #[50, 50] }, type := 4, pos := "law.go:192", after := #[{ on := 0, ground := Go.Ground.data }, { on := 1, ground := Go.Ground.data }], guard := none }) rfl (fun K hK => ?_) AllReadyH.nil
      go_simp
      refine (HM.out _ HY0.out.1).mono ?_
      rintro e Y1 ⟨rfl, t⟩
      have HY1 : Hid (Touch (fun _ => False) w Y1 ∧ Y1.heap[w.heap.size]? = some (opO x) ∧ Y1.heap[w.heap.size + 1]? = some (opO y)) := ⟨HY0.out.1.trans t, heap_keep t HY0.out.2.1, heap_keep t HY0.out.2.2⟩
      have hS2 : Y1.heap[w.heap.size]? = some (opO x) ∧ Y1.heap[w.heap.size + 1]? = some (opO y) := HY1.out.2
      clear t HY0
      refine hK.out _ _ hS2 (fun hHeld => ?_)
      clear hK K hS2
      refine wpAnyH_ready (rs := [5]) (by kernel_rfl) (by simp) ?_
      refine AllReadyH.cons (o := { dst := some 24, op := Go.Op.call { callee := Go.Callee.value (Go.Operand.func 20), args := #[Go.Operand.tmp 22, Go.Operand.tmp 23], argTypes := #[50, 50] }, type := 4, pos := "law.go:192", after := #[{ on := 3, ground := Go.Ground.data }, { on := 4, ground := Go.Ground.data }, { on := 2, ground := Go.Ground.chain }], guard := none }) rfl (fun K hK => ?_) AllReadyH.nil
      go_simp
      refine (HQ.out _ HY1.out.1).mono ?_
      rintro e Y2 ⟨rfl, t⟩
      have HY2 : Hid (Touch (fun _ => False) w Y2 ∧ Y2.heap[w.heap.size]? = some (opO x) ∧ Y2.heap[w.heap.size + 1]? = some (opO y)) := ⟨HY1.out.1.trans t, heap_keep t HY1.out.2.1, heap_keep t HY1.out.2.2⟩
      have hS2 : Y2.heap[w.heap.size]? = some (opO x) ∧ Y2.heap[w.heap.size + 1]? = some (opO y) := HY2.out.2
      clear t HY1
      refine hK.out _ _ hS2 (fun hHeld => ?_)
      clear hK K hS2
      refine wpAnyH_take (i := 6) (oi := { dst := some 25, op := Go.Op.binOp Go.BinOp.eql 4 (Go.Operand.tmp 21) (Go.Operand.tmp 24) 4, type := 4, pos := "law.go:192", after := #[{ on := 2, ground := Go.Ground.data }, { on := 5, ground := Go.Ground.data }], guard := none }) (v := .bool true) rfl (by kernel_rfl) (by kernel_rfl) (by kernel_rfl) (fun _ _ _ h => h) (Or.inl ⟨by rfl, ?_⟩) hHeld ?_
      · intro w hSw; clear hSw; go_simp
      simp only [Act.put, List.setIfInBounds_toArray]
      refine wpAnyH_take (i := 7) (oi := { dst := some 26, op := Go.Op.move (Go.Operand.tmp 25), type := 4, pos := "law.go:192", after := #[{ on := 6, ground := Go.Ground.data }, { on := 5, ground := Go.Ground.chain }], guard := none }) (v := .bool true) rfl (by kernel_rfl) (by kernel_rfl) (by kernel_rfl) (fun _ _ _ h => h) (Or.inl ⟨by rfl, ?_⟩) hHeld ?_
      · intro w hSw; clear hSw; go_simp
      simp only [Act.put, List.setIfInBounds_toArray]
      refine wpAnyH_take (i := 8) (oi := { dst := some 27, op := Go.Op.move (Go.Operand.tmp 0), type := 50, pos := "law.go:192", after := #[{ on := 7, ground := Go.Ground.guard }], guard := some (7, true) }) (v := .slice ao a.length ac) rfl (by kernel_rfl) (by kernel_rfl) (by kernel_rfl) (fun _ _ _ h => h) (Or.inl ⟨by rfl, ?_⟩) hHeld ?_
      · intro w hSw; clear hSw; go_simp
      simp only [Act.put, List.setIfInBounds_toArray]
      refine wpAnyH_take (i := 9) (oi := { dst := some 28, op := Go.Op.move (Go.Operand.tmp 1), type := 50, pos := "law.go:192", after := #[{ on := 7, ground := Go.Ground.guard }], guard := some (7, true) }) (v := .slice bo b.length bc) rfl (by kernel_rfl) (by kernel_rfl) (by kernel_rfl) (fun _ _ _ h => h) (Or.inl ⟨by rfl, ?_⟩) hHeld ?_
      · intro w hSw; clear hSw; go_simp
      simp only [Act.put, List.setIfInBounds_toArray]
      refine wpAnyH_take (i := 11) (oi := { dst := some 30, op := Go.Op.move (Go.Operand.tmp 1), type := 50, pos := "law.go:192", after := #[{ on := 7, ground := Go.Ground.guard }], guard := some (7, true) }) (v := .slice bo b.length bc) rfl (by kernel_rfl) (by kernel_rfl) (by kernel_rfl) (fun _ _ _ h => h) (Or.inl ⟨by rfl, ?_⟩) hHeld ?_
      · intro w hSw; clear hSw; go_simp
      simp only [Act.put, List.setIfInBounds_toArray]
      refine wpAnyH_take (i := 12) (oi := { dst := some 31, op := Go.Op.move (Go.Operand.tmp 0), type := 50, pos := "law.go:192", after := #[{ on := 7, ground := Go.Ground.guard }], guard := some (7, true) }) (v := .slice ao a.length ac) rfl (by kernel_rfl) (by kernel_rfl) (by kernel_rfl) (fun _ _ _ h => h) (Or.inl ⟨by rfl, ?_⟩) hHeld ?_
      · intro w hSw; clear hSw; go_simp
      simp only [Act.put, List.setIfInBounds_toArray]
      refine wpAnyH_ready (rs := [10]) (by kernel_rfl) (by simp) ?_
      refine AllReadyH.cons (o := { dst := some 29, op := Go.Op.call { callee := Go.Callee.value (Go.Operand.func 26), args := #[Go.Operand.tmp 27, Go.Operand.tmp 28], argTypes := #[50, 50] }, type := 4, pos := "law.go:192", after := #[{ on := 8, ground := Go.Ground.data }, { on := 9, ground := Go.Ground.data }, { on := 7, ground := Go.Ground.chain }, { on := 7, ground := Go.Ground.guard }], guard := some (7, true) }) rfl (fun K hK => ?_) AllReadyH.nil
      go_simp
      refine (HM.out _ HY2.out.1).mono ?_
      rintro e Y3 ⟨rfl, t⟩
      have HY3 : Hid (Touch (fun _ => False) w Y3 ∧ Y3.heap[w.heap.size]? = some (opO x) ∧ Y3.heap[w.heap.size + 1]? = some (opO y)) := ⟨HY2.out.1.trans t, heap_keep t HY2.out.2.1, heap_keep t HY2.out.2.2⟩
      have hS2 : Y3.heap[w.heap.size]? = some (opO x) ∧ Y3.heap[w.heap.size + 1]? = some (opO y) := HY3.out.2
      clear t HY2
      refine hK.out _ _ hS2 (fun hHeld => ?_)
      clear hK K hS2
      refine wpAnyH_ready (rs := [13]) (by kernel_rfl) (by simp) ?_
      refine AllReadyH.cons (o := { dst := some 32, op := Go.Op.call { callee := Go.Callee.value (Go.Operand.func 26), args := #[Go.Operand.tmp 30, Go.Operand.tmp 31], argTypes := #[50, 50] }, type := 4, pos := "law.go:192", after := #[{ on := 11, ground := Go.Ground.data }, { on := 12, ground := Go.Ground.data }, { on := 10, ground := Go.Ground.chain }, { on := 7, ground := Go.Ground.guard }], guard := some (7, true) }) rfl (fun K hK => ?_) AllReadyH.nil
      go_simp
      refine (HN.out _ HY3.out.1).mono ?_
      rintro e Y4 ⟨rfl, t⟩
      have HY4 : Hid (Touch (fun _ => False) w Y4 ∧ Y4.heap[w.heap.size]? = some (opO x) ∧ Y4.heap[w.heap.size + 1]? = some (opO y)) := ⟨HY3.out.1.trans t, heap_keep t HY3.out.2.1, heap_keep t HY3.out.2.2⟩
      have hS2 : Y4.heap[w.heap.size]? = some (opO x) ∧ Y4.heap[w.heap.size + 1]? = some (opO y) := HY4.out.2
      clear t HY3
      refine hK.out _ _ hS2 (fun hHeld => ?_)
      clear hK K hS2
      refine wpAnyH_take (i := 14) (oi := { dst := some 33, op := Go.Op.binOp Go.BinOp.eql 4 (Go.Operand.tmp 29) (Go.Operand.tmp 32) 4, type := 4, pos := "law.go:192", after := #[{ on := 10, ground := Go.Ground.data }, { on := 13, ground := Go.Ground.data }, { on := 7, ground := Go.Ground.guard }], guard := some (7, true) }) (v := .bool true) rfl (by kernel_rfl) (by kernel_rfl) (by kernel_rfl) (fun _ _ _ h => h) (Or.inl ⟨by rfl, ?_⟩) hHeld ?_
      · intro w hSw; clear hSw; go_simp
      simp only [Act.put, List.setIfInBounds_toArray]
      refine wpAnyH_take (i := 15) (oi := { dst := some 34, op := Go.Op.pick (Go.Operand.tmp 26) (Go.Operand.tmp 33) (Go.Operand.const (Go.Value.bool false)), type := 4, pos := "law.go:192", after := #[{ on := 7, ground := Go.Ground.data }, { on := 14, ground := Go.Ground.data }], guard := none }) (v := .bool true) rfl (by kernel_rfl) (by kernel_rfl) (by kernel_rfl) (fun _ _ _ h => h) (Or.inl ⟨by rfl, ?_⟩) hHeld ?_
      · intro w hSw; clear hSw; go_simp
      simp only [Act.put, List.setIfInBounds_toArray]
      refine wpAnyH_take (i := 16) (oi := { dst := some 35, op := Go.Op.move (Go.Operand.tmp 34), type := 4, pos := "law.go:192", after := #[{ on := 15, ground := Go.Ground.data }, { on := 13, ground := Go.Ground.chain }], guard := none }) (v := .bool true) rfl (by kernel_rfl) (by kernel_rfl) (by kernel_rfl) (fun _ _ _ h => h) (Or.inl ⟨by rfl, ?_⟩) hHeld ?_
      · intro w hSw; clear hSw; go_simp
      simp only [Act.put, List.setIfInBounds_toArray]
      refine wpAnyH_take (i := 17) (oi := { dst := some 36, op := Go.Op.load 31 (Go.Operand.tmp 6), type := 31, pos := "law.go:192", after := #[{ on := 16, ground := Go.Ground.guard }], guard := some (16, true) }) (v := x.val) rfl (by kernel_rfl) (by kernel_rfl) (by kernel_rfl) (fun _ _ _ h => h) (yieldsIf_load_mid (by rfl) 31 (.tmp 6) rfl w.heap.size 0 rfl x.vals.toList _ (fun w hw => rangeAt_ofS hw.1) Tryz.underlying31 rfl (by kernel_rfl)) hHeld ?_
      simp only [Act.put, List.setIfInBounds_toArray]
      refine wpAnyH_take (i := 18) (oi := { dst := some 37, op := Go.Op.load 31 (Go.Operand.tmp 7), type := 31, pos := "law.go:192", after := #[{ on := 16, ground := Go.Ground.guard }], guard := some (16, true) }) (v := y.val) rfl (by kernel_rfl) (by kernel_rfl) (by kernel_rfl) (fun _ _ _ h => h) (yieldsIf_load_mid (by rfl) 31 (.tmp 7) rfl (w.heap.size + 1) 0 rfl y.vals.toList _ (fun w hw => rangeAt_ofS hw.2) Tryz.underlying31 rfl (by kernel_rfl)) hHeld ?_
      simp only [Act.put, List.setIfInBounds_toArray]
      refine wpAnyH_take (i := 20) (oi := { dst := some 39, op := Go.Op.load 31 (Go.Operand.tmp 6), type := 31, pos := "law.go:192", after := #[{ on := 16, ground := Go.Ground.guard }], guard := some (16, true) }) (v := x.val) rfl (by kernel_rfl) (by kernel_rfl) (by kernel_rfl) (fun _ _ _ h => h) (yieldsIf_load_mid (by rfl) 31 (.tmp 6) rfl w.heap.size 0 rfl x.vals.toList _ (fun w hw => rangeAt_ofS hw.1) Tryz.underlying31 rfl (by kernel_rfl)) hHeld ?_
      simp only [Act.put, List.setIfInBounds_toArray]
      refine wpAnyH_take (i := 21) (oi := { dst := some 40, op := Go.Op.load 31 (Go.Operand.tmp 7), type := 31, pos := "law.go:192", after := #[{ on := 16, ground := Go.Ground.guard }], guard := some (16, true) }) (v := y.val) rfl (by kernel_rfl) (by kernel_rfl) (by kernel_rfl) (fun _ _ _ h => h) (yieldsIf_load_mid (by rfl) 31 (.tmp 7) rfl (w.heap.size + 1) 0 rfl y.vals.toList _ (fun w hw => rangeAt_ofS hw.2) Tryz.underlying31 rfl (by kernel_rfl)) hHeld ?_
      simp only [Act.put, List.setIfInBounds_toArray]
      refine wpAnyH_ready (rs := [19]) (by kernel_rfl) (by simp) ?_
      refine AllReadyH.cons (o := { dst := some 38, op := Go.Op.call { callee := Go.Callee.value (Go.Operand.func 27), args := #[Go.Operand.tmp 36, Go.Operand.tmp 37], argTypes := #[31, 31] }, type := 4, pos := "law.go:192", after := #[{ on := 17, ground := Go.Ground.data }, { on := 18, ground := Go.Ground.data }, { on := 16, ground := Go.Ground.chain }, { on := 16, ground := Go.Ground.guard }], guard := some (16, true) }) rfl (fun K hK => ?_) AllReadyH.nil
      go_simp
      refine (HL1.out _ HY4.out.1).mono ?_
      rintro e Y5 ⟨rfl, t⟩
      have HY5 : Hid (Touch (fun _ => False) w Y5 ∧ Y5.heap[w.heap.size]? = some (opO x) ∧ Y5.heap[w.heap.size + 1]? = some (opO y)) := ⟨HY4.out.1.trans t, heap_keep t HY4.out.2.1, heap_keep t HY4.out.2.2⟩
      have hS2 : Y5.heap[w.heap.size]? = some (opO x) ∧ Y5.heap[w.heap.size + 1]? = some (opO y) := HY5.out.2
      clear t HY4
      refine hK.out _ _ hS2 (fun hHeld => ?_)
      clear hK K hS2
      refine wpAnyH_ready (rs := [22]) (by kernel_rfl) (by simp) ?_
      refine AllReadyH.cons (o := { dst := some 41, op := Go.Op.call { callee := Go.Callee.value (Go.Operand.func 28), args := #[Go.Operand.tmp 39, Go.Operand.tmp 40], argTypes := #[31, 31] }, type := 4, pos := "law.go:192", after := #[{ on := 20, ground := Go.Ground.data }, { on := 21, ground := Go.Ground.data }, { on := 19, ground := Go.Ground.chain }, { on := 16, ground := Go.Ground.guard }], guard := some (16, true) }) rfl (fun K hK => ?_) AllReadyH.nil
      go_simp
      refine (HL2.out _ HY5.out.1).mono ?_
      rintro e Y6 ⟨rfl, t⟩
      have HY6 : Hid (Touch (fun _ => False) w Y6 ∧ Y6.heap[w.heap.size]? = some (opO x) ∧ Y6.heap[w.heap.size + 1]? = some (opO y)) := ⟨HY5.out.1.trans t, heap_keep t HY5.out.2.1, heap_keep t HY5.out.2.2⟩
      have hS2 : Y6.heap[w.heap.size]? = some (opO x) ∧ Y6.heap[w.heap.size + 1]? = some (opO y) := HY6.out.2
      clear t HY5
      refine hK.out _ _ hS2 (fun hHeld => ?_)
      clear hK K hS2
      refine wpAnyH_take (i := 23) (oi := { dst := some 42, op := Go.Op.binOp Go.BinOp.eql 4 (Go.Operand.tmp 38) (Go.Operand.tmp 41) 4, type := 4, pos := "law.go:192", after := #[{ on := 19, ground := Go.Ground.data }, { on := 22, ground := Go.Ground.data }, { on := 16, ground := Go.Ground.guard }], guard := some (16, true) }) (v := .bool true) rfl (by kernel_rfl) (by kernel_rfl) (by kernel_rfl) (fun _ _ _ h => h) (Or.inl ⟨by rfl, ?_⟩) hHeld ?_
      · intro w hSw; clear hSw; go_simp
      simp only [Act.put, List.setIfInBounds_toArray]
      refine wpAnyH_take (i := 24) (oi := { dst := some 43, op := Go.Op.pick (Go.Operand.tmp 35) (Go.Operand.tmp 42) (Go.Operand.const (Go.Value.bool false)), type := 4, pos := "law.go:192", after := #[{ on := 16, ground := Go.Ground.data }, { on := 23, ground := Go.Ground.data }], guard := none }) (v := .bool true) rfl (by kernel_rfl) (by kernel_rfl) (by kernel_rfl) (fun _ _ _ h => h) (Or.inl ⟨by rfl, ?_⟩) hHeld ?_
      · intro w hSw; clear hSw; go_simp
      simp only [Act.put, List.setIfInBounds_toArray]
      refine wpAnyH_take (i := 25) (oi := { dst := some 44, op := Go.Op.move (Go.Operand.tmp 43), type := 4, pos := "law.go:192", after := #[{ on := 24, ground := Go.Ground.data }, { on := 22, ground := Go.Ground.chain }], guard := none }) (v := .bool true) rfl (by kernel_rfl) (by kernel_rfl) (by kernel_rfl) (fun _ _ _ h => h) (Or.inl ⟨by rfl, ?_⟩) hHeld ?_
      · intro w hSw; clear hSw; go_simp
      simp only [Act.put, List.setIfInBounds_toArray]
      refine wpAnyH_take (i := 26) (oi := { dst := some 45, op := Go.Op.load 31 (Go.Operand.tmp 6), type := 31, pos := "law.go:192", after := #[{ on := 25, ground := Go.Ground.guard }], guard := some (25, true) }) (v := x.val) rfl (by kernel_rfl) (by kernel_rfl) (by kernel_rfl) (fun _ _ _ h => h) (yieldsIf_load_mid (by rfl) 31 (.tmp 6) rfl w.heap.size 0 rfl x.vals.toList _ (fun w hw => rangeAt_ofS hw.1) Tryz.underlying31 rfl (by kernel_rfl)) hHeld ?_
      simp only [Act.put, List.setIfInBounds_toArray]
      refine wpAnyH_take (i := 27) (oi := { dst := some 46, op := Go.Op.load 31 (Go.Operand.tmp 7), type := 31, pos := "law.go:192", after := #[{ on := 25, ground := Go.Ground.guard }], guard := some (25, true) }) (v := y.val) rfl (by kernel_rfl) (by kernel_rfl) (by kernel_rfl) (fun _ _ _ h => h) (yieldsIf_load_mid (by rfl) 31 (.tmp 7) rfl (w.heap.size + 1) 0 rfl y.vals.toList _ (fun w hw => rangeAt_ofS hw.2) Tryz.underlying31 rfl (by kernel_rfl)) hHeld ?_
      simp only [Act.put, List.setIfInBounds_toArray]
      refine wpAnyH_ready (rs := [28]) (by kernel_rfl) (by simp) ?_
      refine AllReadyH.cons (o := { dst := some 47, op := Go.Op.call { callee := Go.Callee.value (Go.Operand.func 27), args := #[Go.Operand.tmp 45, Go.Operand.tmp 46], argTypes := #[31, 31] }, type := 4, pos := "law.go:192", after := #[{ on := 26, ground := Go.Ground.data }, { on := 27, ground := Go.Ground.data }, { on := 25, ground := Go.Ground.chain }, { on := 25, ground := Go.Ground.guard }], guard := some (25, true) }) rfl (fun K hK => ?_) AllReadyH.nil
      go_simp
      refine (HL1.out _ HY6.out.1).mono ?_
      rintro e Y7 ⟨rfl, t⟩
      have HY7 : Hid (Touch (fun _ => False) w Y7 ∧ Y7.heap[w.heap.size]? = some (opO x) ∧ Y7.heap[w.heap.size + 1]? = some (opO y)) := ⟨HY6.out.1.trans t, heap_keep t HY6.out.2.1, heap_keep t HY6.out.2.2⟩
      have hS2 : Y7.heap[w.heap.size]? = some (opO x) ∧ Y7.heap[w.heap.size + 1]? = some (opO y) := HY7.out.2
      clear t HY6
      refine hK.out _ _ hS2 (fun hHeld => ?_)
      clear hK K hS2
      refine wpAnyH_take (i := 29) (oi := { dst := some 48, op := Go.Op.move (Go.Operand.tmp 47), type := 4, pos := "law.go:192", after := #[{ on := 28, ground := Go.Ground.data }, { on := 28, ground := Go.Ground.chain }, { on := 25, ground := Go.Ground.guard }], guard := some (25, true) }) (v := .bool ls) rfl (by kernel_rfl) (by kernel_rfl) (by kernel_rfl) (fun _ _ _ h => h) (Or.inl ⟨by rfl, ?_⟩) hHeld ?_
      · intro w hSw; clear hSw; go_simp
      simp only [Act.put, List.setIfInBounds_toArray]
      cases ls with
      | true =>
        have hlt := HA.out rfl
        subst hlt
        refine wpAnyH_take (i := 30) (oi := { dst := some 49, op := Go.Op.load 31 (Go.Operand.tmp 7), type := 31, pos := "law.go:192", after := #[{ on := 29, ground := Go.Ground.guard }], guard := some (29, true) }) (v := y.val) rfl (by kernel_rfl) (by kernel_rfl) (by kernel_rfl) (fun _ _ _ h => h) (yieldsIf_load_mid (by rfl) 31 (.tmp 7) rfl (w.heap.size + 1) 0 rfl y.vals.toList _ (fun w hw => rangeAt_ofS hw.2) Tryz.underlying31 rfl (by kernel_rfl)) hHeld ?_
        simp only [Act.put, List.setIfInBounds_toArray]
        refine wpAnyH_take (i := 31) (oi := { dst := some 50, op := Go.Op.load 31 (Go.Operand.tmp 6), type := 31, pos := "law.go:192", after := #[{ on := 29, ground := Go.Ground.guard }], guard := some (29, true) }) (v := x.val) rfl (by kernel_rfl) (by kernel_rfl) (by kernel_rfl) (fun _ _ _ h => h) (yieldsIf_load_mid (by rfl) 31 (.tmp 6) rfl w.heap.size 0 rfl x.vals.toList _ (fun w hw => rangeAt_ofS hw.1) Tryz.underlying31 rfl (by kernel_rfl)) hHeld ?_
        simp only [Act.put, List.setIfInBounds_toArray]
        refine wpAnyH_ready (rs := [32]) (by kernel_rfl) (by simp) ?_
        refine AllReadyH.cons (o := { dst := some 51, op := Go.Op.call { callee := Go.Callee.value (Go.Operand.func 27), args := #[Go.Operand.tmp 49, Go.Operand.tmp 50], argTypes := #[31, 31] }, type := 4, pos := "law.go:192", after := #[{ on := 30, ground := Go.Ground.data }, { on := 31, ground := Go.Ground.data }, { on := 29, ground := Go.Ground.chain }, { on := 29, ground := Go.Ground.guard }], guard := some (29, true) }) rfl (fun K hK => ?_) AllReadyH.nil
        go_simp
        refine (HL3.out _ HY7.out.1).mono ?_
        rintro e Y8 ⟨rfl, t⟩
        have HY8 : Hid (Touch (fun _ => False) w Y8 ∧ Y8.heap[w.heap.size]? = some (opO x) ∧ Y8.heap[w.heap.size + 1]? = some (opO y)) := ⟨HY7.out.1.trans t, heap_keep t HY7.out.2.1, heap_keep t HY7.out.2.2⟩
        have hS2 : Y8.heap[w.heap.size]? = some (opO x) ∧ Y8.heap[w.heap.size + 1]? = some (opO y) := HY8.out.2
        clear t HY7
        refine hK.out _ _ hS2 (fun hHeld => ?_)
        clear hK K hS2
        refine wpAnyH_take (i := 33) (oi := { dst := some 52, op := Go.Op.pick (Go.Operand.tmp 48) (Go.Operand.tmp 51) (Go.Operand.const (Go.Value.bool false)), type := 4, pos := "law.go:192", after := #[{ on := 29, ground := Go.Ground.data }, { on := 32, ground := Go.Ground.data }, { on := 25, ground := Go.Ground.guard }], guard := some (25, true) }) (v := .bool false) rfl (by kernel_rfl) (by kernel_rfl) (by kernel_rfl) (fun _ _ _ h => h) (Or.inl ⟨by rfl, ?_⟩) hHeld ?_
        · intro w hSw; clear hSw; go_simp
        simp only [Act.put, List.setIfInBounds_toArray]
        refine wpAnyH_take (i := 34) (oi := { dst := some 53, op := Go.Op.unOp Go.UnOp.not 4 (Go.Operand.tmp 52), type := 4, pos := "law.go:192", after := #[{ on := 33, ground := Go.Ground.data }, { on := 25, ground := Go.Ground.guard }], guard := some (25, true) }) (v := .bool true) rfl (by kernel_rfl) (by kernel_rfl) (by kernel_rfl) (fun _ _ _ h => h) (Or.inl ⟨by rfl, ?_⟩) hHeld ?_
        · intro w hSw; clear hSw; go_simp
        simp only [Act.put, List.setIfInBounds_toArray]
        refine wpAnyH_take (i := 35) (oi := { dst := some 54, op := Go.Op.pick (Go.Operand.tmp 44) (Go.Operand.tmp 53) (Go.Operand.const (Go.Value.bool false)), type := 4, pos := "law.go:192", after := #[{ on := 25, ground := Go.Ground.data }, { on := 34, ground := Go.Ground.data }], guard := none }) (v := .bool true) rfl (by kernel_rfl) (by kernel_rfl) (by kernel_rfl) (fun _ _ _ h => h) (Or.inl ⟨by rfl, ?_⟩) hHeld ?_
        · intro w hSw; clear hSw; go_simp
        simp only [Act.put, List.setIfInBounds_toArray]
        refine wpAnyH_take (i := 36) (oi := { dst := some 8, op := Go.Op.assign (Go.Operand.tmp 54), type := 4, pos := "law.go:192", after := #[{ on := 35, ground := Go.Ground.data }, { on := 32, ground := Go.Ground.chain }, { on := 0, ground := Go.Ground.phase }, { on := 1, ground := Go.Ground.phase }, { on := 2, ground := Go.Ground.phase }, { on := 3, ground := Go.Ground.phase }, { on := 4, ground := Go.Ground.phase }, { on := 5, ground := Go.Ground.phase }, { on := 6, ground := Go.Ground.phase }, { on := 7, ground := Go.Ground.phase }, { on := 8, ground := Go.Ground.phase }, { on := 9, ground := Go.Ground.phase }, { on := 10, ground := Go.Ground.phase }, { on := 11, ground := Go.Ground.phase }, { on := 12, ground := Go.Ground.phase }, { on := 13, ground := Go.Ground.phase }, { on := 14, ground := Go.Ground.phase }, { on := 15, ground := Go.Ground.phase }, { on := 16, ground := Go.Ground.phase }, { on := 17, ground := Go.Ground.phase }, { on := 18, ground := Go.Ground.phase }, { on := 19, ground := Go.Ground.phase }, { on := 20, ground := Go.Ground.phase }, { on := 21, ground := Go.Ground.phase }, { on := 22, ground := Go.Ground.phase }, { on := 23, ground := Go.Ground.phase }, { on := 24, ground := Go.Ground.phase }, { on := 25, ground := Go.Ground.phase }, { on := 26, ground := Go.Ground.phase }, { on := 27, ground := Go.Ground.phase }, { on := 28, ground := Go.Ground.phase }, { on := 29, ground := Go.Ground.phase }, { on := 30, ground := Go.Ground.phase }, { on := 31, ground := Go.Ground.phase }, { on := 32, ground := Go.Ground.phase }, { on := 33, ground := Go.Ground.phase }, { on := 34, ground := Go.Ground.phase }, { on := 35, ground := Go.Ground.phase }], guard := none }) (v := .bool true) rfl (by kernel_rfl) (by kernel_rfl) (by kernel_rfl) (fun _ _ _ h => h) (Or.inl ⟨by rfl, ?_⟩) hHeld ?_
        · intro w hSw; clear hSw; go_simp
        simp only [Act.put, List.setIfInBounds_toArray]
        refine wpAnyH_done (by kernel_rfl) ?_ _
        try simp only [List.getElem_toArray, List.getElem_cons_succ, List.getElem_cons_zero, List.setIfInBounds_toArray, List.set_cons_succ, List.set_cons_zero]
        clear hHeld
        go_wp2_with fail
        go_ret
        exact ⟨rfl, HY8.out.1⟩
      | false =>
        refine wpAnyH_take (i := 30) (oi := { dst := some 49, op := Go.Op.load 31 (Go.Operand.tmp 7), type := 31, pos := "law.go:192", after := #[{ on := 29, ground := Go.Ground.guard }], guard := some (29, true) }) (v := undef) rfl (by kernel_rfl) (by kernel_rfl) (by kernel_rfl) (fun _ _ _ h => h) (Or.inr ⟨by rfl, rfl⟩) hHeld ?_
        simp only [Act.put, List.setIfInBounds_toArray]
        refine wpAnyH_take (i := 31) (oi := { dst := some 50, op := Go.Op.load 31 (Go.Operand.tmp 6), type := 31, pos := "law.go:192", after := #[{ on := 29, ground := Go.Ground.guard }], guard := some (29, true) }) (v := undef) rfl (by kernel_rfl) (by kernel_rfl) (by kernel_rfl) (fun _ _ _ h => h) (Or.inr ⟨by rfl, rfl⟩) hHeld ?_
        simp only [Act.put, List.setIfInBounds_toArray]
        refine wpAnyH_take (i := 32) (oi := { dst := some 51, op := Go.Op.call { callee := Go.Callee.value (Go.Operand.func 27), args := #[Go.Operand.tmp 49, Go.Operand.tmp 50], argTypes := #[31, 31] }, type := 4, pos := "law.go:192", after := #[{ on := 30, ground := Go.Ground.data }, { on := 31, ground := Go.Ground.data }, { on := 29, ground := Go.Ground.chain }, { on := 29, ground := Go.Ground.guard }], guard := some (29, true) }) (v := undef) rfl (by kernel_rfl) (by kernel_rfl) (by kernel_rfl) (fun _ _ _ h => h) (Or.inr ⟨by rfl, rfl⟩) hHeld ?_
        simp only [Act.put, List.setIfInBounds_toArray]
        refine wpAnyH_take (i := 33) (oi := { dst := some 52, op := Go.Op.pick (Go.Operand.tmp 48) (Go.Operand.tmp 51) (Go.Operand.const (Go.Value.bool false)), type := 4, pos := "law.go:192", after := #[{ on := 29, ground := Go.Ground.data }, { on := 32, ground := Go.Ground.data }, { on := 25, ground := Go.Ground.guard }], guard := some (25, true) }) (v := .bool false) rfl (by kernel_rfl) (by kernel_rfl) (by kernel_rfl) (fun _ _ _ h => h) (Or.inl ⟨by rfl, ?_⟩) hHeld ?_
        · intro w hSw; clear hSw; go_simp
        simp only [Act.put, List.setIfInBounds_toArray]
        refine wpAnyH_take (i := 34) (oi := { dst := some 53, op := Go.Op.unOp Go.UnOp.not 4 (Go.Operand.tmp 52), type := 4, pos := "law.go:192", after := #[{ on := 33, ground := Go.Ground.data }, { on := 25, ground := Go.Ground.guard }], guard := some (25, true) }) (v := .bool true) rfl (by kernel_rfl) (by kernel_rfl) (by kernel_rfl) (fun _ _ _ h => h) (Or.inl ⟨by rfl, ?_⟩) hHeld ?_
        · intro w hSw; clear hSw; go_simp
        simp only [Act.put, List.setIfInBounds_toArray]
        refine wpAnyH_take (i := 35) (oi := { dst := some 54, op := Go.Op.pick (Go.Operand.tmp 44) (Go.Operand.tmp 53) (Go.Operand.const (Go.Value.bool false)), type := 4, pos := "law.go:192", after := #[{ on := 25, ground := Go.Ground.data }, { on := 34, ground := Go.Ground.data }], guard := none }) (v := .bool true) rfl (by kernel_rfl) (by kernel_rfl) (by kernel_rfl) (fun _ _ _ h => h) (Or.inl ⟨by rfl, ?_⟩) hHeld ?_
        · intro w hSw; clear hSw; go_simp
        simp only [Act.put, List.setIfInBounds_toArray]
        refine wpAnyH_take (i := 36) (oi := { dst := some 8, op := Go.Op.assign (Go.Operand.tmp 54), type := 4, pos := "law.go:192", after := #[{ on := 35, ground := Go.Ground.data }, { on := 32, ground := Go.Ground.chain }, { on := 0, ground := Go.Ground.phase }, { on := 1, ground := Go.Ground.phase }, { on := 2, ground := Go.Ground.phase }, { on := 3, ground := Go.Ground.phase }, { on := 4, ground := Go.Ground.phase }, { on := 5, ground := Go.Ground.phase }, { on := 6, ground := Go.Ground.phase }, { on := 7, ground := Go.Ground.phase }, { on := 8, ground := Go.Ground.phase }, { on := 9, ground := Go.Ground.phase }, { on := 10, ground := Go.Ground.phase }, { on := 11, ground := Go.Ground.phase }, { on := 12, ground := Go.Ground.phase }, { on := 13, ground := Go.Ground.phase }, { on := 14, ground := Go.Ground.phase }, { on := 15, ground := Go.Ground.phase }, { on := 16, ground := Go.Ground.phase }, { on := 17, ground := Go.Ground.phase }, { on := 18, ground := Go.Ground.phase }, { on := 19, ground := Go.Ground.phase }, { on := 20, ground := Go.Ground.phase }, { on := 21, ground := Go.Ground.phase }, { on := 22, ground := Go.Ground.phase }, { on := 23, ground := Go.Ground.phase }, { on := 24, ground := Go.Ground.phase }, { on := 25, ground := Go.Ground.phase }, { on := 26, ground := Go.Ground.phase }, { on := 27, ground := Go.Ground.phase }, { on := 28, ground := Go.Ground.phase }, { on := 29, ground := Go.Ground.phase }, { on := 30, ground := Go.Ground.phase }, { on := 31, ground := Go.Ground.phase }, { on := 32, ground := Go.Ground.phase }, { on := 33, ground := Go.Ground.phase }, { on := 34, ground := Go.Ground.phase }, { on := 35, ground := Go.Ground.phase }], guard := none }) (v := .bool true) rfl (by kernel_rfl) (by kernel_rfl) (by kernel_rfl) (fun _ _ _ h => h) (Or.inl ⟨by rfl, ?_⟩) hHeld ?_
        · intro w hSw; clear hSw; go_simp
        simp only [Act.put, List.setIfInBounds_toArray]
        refine wpAnyH_done (by kernel_rfl) ?_ _
        try simp only [List.getElem_toArray, List.getElem_cons_succ, List.getElem_cons_zero, List.setIfInBounds_toArray, List.set_cons_succ, List.set_cons_zero]
        clear hHeld
        go_wp2_with fail
        go_ret
        exact ⟨rfl, HY7.out.1⟩
    · have d2 : decide ((b.length : Int) > 30) = true := by simp; omega
      clear HM HQ HN HL1 HL2 HL3 HA
      go_wp2_with fail
      go_ret
      exact ⟨rfl, HW1.out.1⟩
  · have d1 : decide ((a.length : Int) > 30) = true := by simp; omega
    clear HM HQ HN HL1 HL2 HL3 HA
    go_wp2_with fail
    go_ret
    exact ⟨rfl, HW1.out.1⟩
end Go.Proofs.YtdnhoicfolkbnaaGreat
