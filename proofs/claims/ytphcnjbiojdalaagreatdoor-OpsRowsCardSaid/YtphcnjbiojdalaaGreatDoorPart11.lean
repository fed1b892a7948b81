/- ops.Fits; the document's Fits. -/
import Derived.Test.YtphcnjbiojdalaaGreatDoorOpA
import Derived.Deep.DeepCutAuto
import Derived.Deep.RegionHeld3
import Derived.Deep.MidRow
namespace Go.Proofs.YtphcnjbiojdalaaGreatDoor
open Go.RowKit
set_option linter.unusedVariables false
set_option linter.unusedSimpArgs false
set_option maxRecDepth 100000

/-- Both are texts, the one's runes go on where the other's end. -/
def goesB (a b : O) : Bool := (a.kind == 1) && ((b.kind == 1) && (decide (a.k < endO a) && (((b.c == a.c) && (b.k == endO a)) && (((b.lc == a.c) && (b.lk == IntKind.u64.wrap (endO a - 1))) && ((b.rc == a.rc) && (b.rk == a.rk))))))
theorem OpAt.keep {W W' : World} {B : Nat} {o : O} (h : OpAt B o W) (t : Touch (fun _ => False) W W') : OpAt B o W' := (t.block B (lt_of_heap h) id).trans h

set_option maxHeartbeats 4000000 in
theorem ops_fits (a b : O) (hs : a.tx.size ≤ 4611686018427387904) (w : World) (hU : TabsU w) : Calls Tryz.prog 21 #[a.val, b.val] w fun e w' => e = .returned (.bool (goesB a b)) ∧ Touch (fun _ => False) w w' := by
  have HR : Hid (∀ W, Touch (fun _ => False) w W → Calls Tryz.prog 18 #[a.val] W fun e w' => e = .returned (rangeV a) ∧ Touch (fun _ => False) W w') := fun W t => ops_range a hs W (hU.keep t)
  clear hs hU
  obtain ⟨t1, e1⟩ : ∃ t1, (a.kind == 1) = t1 := ⟨_, rfl⟩
  obtain ⟨t2, e2⟩ : ∃ t2, (b.kind == 1) = t2 := ⟨_, rfl⟩
  obtain ⟨t3, e3⟩ : ∃ t3, decide (a.k < endO a) = t3 := ⟨_, rfl⟩
  obtain ⟨t4, e4⟩ : ∃ t4, (b.c == a.c) = t4 := ⟨_, rfl⟩
  obtain ⟨t5, e5⟩ : ∃ t5, (b.k == endO a) = t5 := ⟨_, rfl⟩
  obtain ⟨t6, e6⟩ : ∃ t6, (b.lc == a.c) = t6 := ⟨_, rfl⟩
  obtain ⟨t7, e7⟩ : ∃ t7, (b.lk == IntKind.u64.wrap (endO a - 1)) = t7 := ⟨_, rfl⟩
  obtain ⟨t8, e8⟩ : ∃ t8, (b.rc == a.rc) = t8 := ⟨_, rfl⟩
  obtain ⟨t9, e9⟩ : ∃ t9, (b.rk == a.rk) = t9 := ⟨_, rfl⟩
  have HG : Hid (goesB a b = (t1 && (t2 && (t3 && ((t4 && t5) && ((t6 && t7) && (t8 && t9))))))) := by unfold goesB Hid; rw [e1, e2, e3, e4, e5, e6, e7, e8, e9]
  go_enter Tryz.func21, Tryz.ntmps21
  go_upto_region 1 with fail
  obtain ⟨W0, hW0⟩ : ∃ W0, Hid (W0 = (w.alloc (opO a)).alloc (opO b)) := ⟨_, Eq.refl _⟩
  have hA : OpAt w.heap.size a W0 := by rw [hW0.out]; exact (heap_two w _ _).1
  have hB : OpAt (w.heap.size + 1) b W0 := by rw [hW0.out]; exact (heap_two w _ _).2
  have HT0 : Hid (Touch (fun _ => False) w W0) := by rw [hW0.out]; exact ((Touch.refl _ _).alloc _).alloc _
  rw [← hW0.out]
  clear hW0
  refine wp_region_lit ?_
  refine wpList_load_mid rfl 31 (.tmp 2) rfl w.heap.size 0 rfl a.vals.toList _ (rangeAt_of hA) Tryz.underlying31 rfl (by kernel_rfl) ?_
  simp only [Act.put, List.setIfInBounds_toArray]
  have HA : Hid (OpAt w.heap.size a W0 ∧ OpAt (w.heap.size + 1) b W0) := ⟨hA, hB⟩
  clear hA hB
  go_wp2_with fail
  refine (HR.out _ HT0.out).mono ?_
  rintro e w1 ⟨rfl, t⟩
  obtain ⟨W2, hW2⟩ : ∃ W2, Hid (W2 = (w1.alloc (.cells #[.int .u64 a.c, .int .u64 a.k, .int .u64 (endO a)] 41)).alloc (.cells #[.int .u64 a.c, .int .u64 (IntKind.u64.wrap (endO a - 1))] 24)) := ⟨_, Eq.refl _⟩
  have t2' : Touch (fun _ => False) w1 W2 := by rw [hW2.out]; exact ((Touch.refl _ _).alloc _).alloc _
  have hA := (HA.out.1.keep t).keep t2'
  have hB := (HA.out.2.keep t).keep t2'
  have HT2 : Hid (Touch (fun _ => False) w W2) := (HT0.out.trans t).trans t2'
  have hr : W2.heap[w1.heap.size]? = some (.cells #[.int .u64 a.c, .int .u64 a.k, .int .u64 (endO a)] 41) := by rw [hW2.out]; exact (heap_two w1 _ _).1
  have hi : W2.heap[w1.heap.size + 1]? = some (.cells #[.int .u64 a.c, .int .u64 (IntKind.u64.wrap (endO a - 1))] 24) := by rw [hW2.out]; exact (heap_two w1 _ _).2
  have q1 := hA.q2
  have q2 := hA.q6
  have q3 := hA.q7
  have q4 := hB.q0
  have q5 := hB.q1
  have q6 := hB.q2
  have q7 := hB.q4
  have q8 := hB.q5
  have q9 := hB.q6
  have q10 := hB.q7
  have r0 : W2.cell? ⟨w1.heap.size, 0, none⟩ = some (.int .u64 a.c) := by rw [cell_of_block hr]; rfl
  have r1 : W2.cell? ⟨w1.heap.size, 1, none⟩ = some (.int .u64 a.k) := by rw [cell_of_block hr]; rfl
  have r2 : W2.cell? ⟨w1.heap.size, 2, none⟩ = some (.int .u64 (endO a)) := by rw [cell_of_block hr]; rfl
  have i0 : W2.cell? ⟨w1.heap.size + 1, 0, none⟩ = some (.int .u64 a.c) := by rw [cell_of_block hi]; rfl
  have i1 : W2.cell? ⟨w1.heap.size + 1, 1, none⟩ = some (.int .u64 (IntKind.u64.wrap (endO a - 1))) := by rw [cell_of_block hi]; rfl
  clear hA hB t t2' hr hi HA HR HT0
  go_upto_region 3 with fail
  rw [← hW2.out]
  clear hW2
  generalize endO a = ea at *
  generalize IntKind.u64.wrap (ea - 1) = la at *
  cases t1
  · go_wp2_with fail
    go_ret
    exact ⟨by rw [HG.out]; rfl, HT2.out⟩
  · skip
    cases t2
    · go_wp2_with fail
      go_ret
      exact ⟨by rw [HG.out]; rfl, HT2.out⟩
    · skip
      cases t3
      · go_wp2_with fail
        go_ret
        exact ⟨by rw [HG.out]; rfl, HT2.out⟩
      · skip
        cases t4
        · go_wp2_with fail
          go_ret
          exact ⟨by rw [HG.out]; rfl, HT2.out⟩
        · skip
          cases t5
          · go_wp2_with fail
            go_ret
            exact ⟨by rw [HG.out]; rfl, HT2.out⟩
          · skip
            cases t6
            · go_wp2_with fail
              go_ret
              exact ⟨by rw [HG.out]; rfl, HT2.out⟩
            · skip
              cases t7
              · go_wp2_with fail
                go_ret
                exact ⟨by rw [HG.out]; rfl, HT2.out⟩
              · skip
                cases t8
                · go_wp2_with fail
                  go_ret
                  exact ⟨by rw [HG.out]; rfl, HT2.out⟩
                · skip
                  cases t9
                  · go_wp2_with fail
                    go_ret
                    exact ⟨by rw [HG.out]; rfl, HT2.out⟩
                  · skip
                    go_wp2_with fail
                    go_ret
                    exact ⟨by rw [HG.out]; rfl, HT2.out⟩
end Go.Proofs.YtphcnjbiojdalaaGreatDoor

/- The document's Fits. -/
namespace Go.Proofs.YtphcnjbiojdalaaGreatDoor
open Go.RowKit
set_option linter.unusedVariables false
set_option linter.unusedSimpArgs false
set_option maxRecDepth 100000

def fitsB (a b : O) : Bool := (a.kind == 1) && ((b.kind == 1) && ((a.c == b.c) && (((a.rc == b.rc) && (a.rk == b.rk)) && ((b.k == endO a) && ((b.lc == a.c) && (b.lk == IntKind.u64.wrap (endO a - 1)))))))
theorem goesB_fits {a b : O} (h : a.k < endO a) : goesB a b = fitsB a b := by
  unfold goesB fitsB
  rw [Bool.eq_iff_iff]
  simp only [Bool.and_eq_true, beq_iff_eq, decide_eq_true_eq]
  constructor
  · rintro ⟨h1, h2, h3, ⟨h4, h5⟩, ⟨h6, h7⟩, h8, h9⟩
    exact ⟨h1, h2, h4.symm, ⟨h8.symm, h9.symm⟩, h5, h6, h7⟩
  · rintro ⟨h1, h2, h4, ⟨h8, h9⟩, h5, h6, h7⟩
    exact ⟨h1, h2, h, ⟨h4.symm, h5⟩, ⟨h6, h7⟩, h8.symm, h9.symm⟩
set_option maxHeartbeats 8000000 in
theorem ref_fits (a b : O) (hs : a.tx.size ≤ 17592186044416) (w : World) : Calls Tryz.prog 28 #[a.val, b.val] w fun e w' => e = .returned (.bool (fitsB a b)) ∧ Touch (fun _ => False) w w' := by
  have HL : Hid (∀ W, Touch (fun _ => False) w W → Calls Tryz.prog 13 #[a.val] W fun e w' => e = .returned (.int .i64 (lenO a : Int)) ∧ Touch (fun _ => False) W w') := fun W t => ref_lenO a hs W
  have hle := lenO_le a
  have hw1 : IntKind.u64.wrap (lenO a : Int) = (lenO a : Int) := wrap_u64_small _ (by omega) (by omega)
  have HE : Hid (endO a = IntKind.u64.wrap (a.k + (lenO a : Int))) := rfl
  clear hs hle
  obtain ⟨t1, e1⟩ : ∃ t1, (a.kind != 1) = t1 := ⟨_, rfl⟩
  obtain ⟨t2, e2⟩ : ∃ t2, (b.kind != 1) = t2 := ⟨_, rfl⟩
  obtain ⟨t3, e3⟩ : ∃ t3, (a.c != b.c) = t3 := ⟨_, rfl⟩
  obtain ⟨t4, e4⟩ : ∃ t4, (a.rc == b.rc) = t4 := ⟨_, rfl⟩
  obtain ⟨t5, e5⟩ : ∃ t5, (a.rk == b.rk) = t5 := ⟨_, rfl⟩
  obtain ⟨t6, e6⟩ : ∃ t6, (b.k == endO a) = t6 := ⟨_, rfl⟩
  obtain ⟨t7, e7⟩ : ∃ t7, (b.lc == a.c) = t7 := ⟨_, rfl⟩
  obtain ⟨t8, e8⟩ : ∃ t8, (b.lk == IntKind.u64.wrap (endO a - 1)) = t8 := ⟨_, rfl⟩
  have HG : Hid (fitsB a b = (!t1 && (!t2 && (!t3 && ((t4 && t5) && (t6 && (t7 && t8))))))) := by unfold fitsB Hid; rw [e4, e5, e6, e7, e8, ← e1, ← e2, ← e3]; simp [bne]
  go_enter Tryz.func28, Tryz.ntmps28
  go_upto_region 1 with fail
  obtain ⟨W0, hW0⟩ : ∃ W0, Hid (W0 = (w.alloc (opO a)).alloc (opO b)) := ⟨_, Eq.refl _⟩
  have HA0 : Hid (OpAt w.heap.size a W0.drew ∧ OpAt (w.heap.size + 1) b W0.drew) := by rw [hW0.out]; exact heap_two w _ _
  have HT0 : Hid (Touch (fun _ => False) w W0.drew) := by rw [hW0.out]; exact (((Touch.refl _ _).alloc _).alloc _).drew
  have HTT : Hid (Touch (fun _ => False) w W0) := by rw [hW0.out]; exact ((Touch.refl _ _).alloc _).alloc _
  rw [← hW0.out]
  have hA : OpAt w.heap.size a W0 := HA0.out.1
  have hB : OpAt (w.heap.size + 1) b W0 := HA0.out.2
  have p1 := hA.q2
  have p2 := hA.q6
  have p3 := hA.q7
  have p4 := hB.q2
  have p5 := hB.q6
  have p6 := hB.q7
  have p7 := hA.q0
  have p8 := hB.q0
  clear hW0 hA hB
  cases t1
  rotate_left
  · go_wp2_with fail
    go_ret
    exact ⟨by rw [HG.out]; first | rfl | simp, HTT.out⟩
  · skip
    cases t2
    rotate_left
    · go_wp2_with fail
      go_ret
      exact ⟨by rw [HG.out]; first | rfl | simp, HTT.out⟩
    · skip
      cases t3
      rotate_left
      · go_wp2_with fail
        go_ret
        exact ⟨by rw [HG.out]; first | rfl | simp, HTT.out⟩
      · skip
        cases t4
        · go_wp2_with fail
          go_ret
          exact ⟨by rw [HG.out]; first | rfl | simp, HTT.out⟩
        · skip
          cases t5
          · go_wp2_with fail
            go_ret
            exact ⟨by rw [HG.out]; first | rfl | simp, HTT.out⟩
          · skip
            go_upto_region 3 with fail
            refine wp_region_held_drew (S := OpAt w.heap.size a) (by kernel_rfl) HA0.out.1 (fun hHeld => ?_)
            refine wpAnyH_take (i := 0) (oi := { dst := some 30, op := Go.Op.fieldAddr 31 (Go.Operand.tmp 2) 0, type := 0, pos := "quireref8.go:109", after := #[], guard := none }) (v := .pointer (some ⟨w.heap.size, 0, none⟩)) rfl (by kernel_rfl) (by kernel_rfl) (by kernel_rfl) (fun _ _ _ h => h) (Or.inl ⟨by rfl, ?_⟩) hHeld ?_
            · intro w hSw; clear hSw; go_simp
            simp only [Act.put, List.setIfInBounds_toArray]
            refine wpAnyH_take (i := 1) (oi := { dst := some 31, op := Go.Op.fieldAddr 24 (Go.Operand.tmp 30) 1, type := 0, pos := "quireref8.go:109", after := #[{ on := 0, ground := Go.Ground.data }], guard := none }) (v := .pointer (some ⟨w.heap.size, 1, none⟩)) rfl (by kernel_rfl) (by kernel_rfl) (by kernel_rfl) (fun _ _ _ h => h) (Or.inl ⟨by rfl, ?_⟩) hHeld ?_
            · intro w hSw; clear hSw; go_simp
            simp only [Act.put, List.setIfInBounds_toArray]
            refine wpAnyH_take (i := 2) (oi := { dst := some 32, op := Go.Op.load 22 (Go.Operand.tmp 31), type := 22, pos := "quireref8.go:109", after := #[{ on := 1, ground := Go.Ground.data }], guard := none }) (v := .int .u64 a.k) rfl (by kernel_rfl) (by kernel_rfl) (by kernel_rfl) (fun _ _ _ h => h) (Or.inl ⟨by rfl, ?_⟩) hHeld ?_
            · intro w hSw; have hq := hSw.q1; clear hSw; go_simp
            simp only [Act.put, List.setIfInBounds_toArray]
            refine wpAnyH_take (i := 3) (oi := { dst := some 33, op := Go.Op.load 31 (Go.Operand.tmp 2), type := 31, pos := "quireref8.go:109", after := #[], guard := none }) (v := a.val) rfl (by kernel_rfl) (by kernel_rfl) (by kernel_rfl) (fun _ _ _ h => h) (yieldsIf_load_mid (by rfl) 31 (.tmp 2) rfl w.heap.size 0 rfl a.vals.toList _ (fun w hw => rangeAt_of hw) Tryz.underlying31 rfl (by kernel_rfl)) hHeld ?_
            simp only [Act.put, List.setIfInBounds_toArray]
            refine wpAnyH_ready (rs := [4]) (by kernel_rfl) (by simp) ?_
            refine AllReadyH.cons (o := { dst := some 34, op := Go.Op.call { callee := Go.Callee.value (Go.Operand.func 13), args := #[Go.Operand.tmp 33], argTypes := #[31] }, type := 3, pos := "quireref8.go:109", after := #[{ on := 3, ground := Go.Ground.data }], guard := none }) rfl (fun K hK => ?_) AllReadyH.nil
            go_simp
            refine (HL.out _ HT0.out).mono ?_
            rintro e w2 ⟨rfl, hT⟩
            have hS2 : OpAt w.heap.size a w2 := HA0.out.1.keep hT
            have HA2 : Hid (OpAt w.heap.size a w2 ∧ OpAt (w.heap.size + 1) b w2 ∧ Touch (fun _ => False) w w2) := ⟨HA0.out.1.keep hT, HA0.out.2.keep hT, HT0.out.trans hT⟩
            clear hT
            refine hK.out _ _ hS2 (fun hHeld => ?_)
            clear hK K hS2
            refine wpAnyH_take (i := 5) (oi := { dst := some 35, op := Go.Op.convert 3 22 (Go.Operand.tmp 34), type := 22, pos := "quireref8.go:109", after := #[{ on := 4, ground := Go.Ground.data }], guard := none }) (v := .int .u64 (lenO a : Int)) rfl (by kernel_rfl) (by kernel_rfl) (by kernel_rfl) (fun _ _ _ h => h) (Or.inl ⟨by rfl, ?_⟩) hHeld ?_
            · intro w hSw; clear hSw; go_simp
            simp only [Act.put, List.setIfInBounds_toArray]
            refine wpAnyH_take (i := 6) (oi := { dst := some 36, op := Go.Op.binOp Go.BinOp.add 22 (Go.Operand.tmp 32) (Go.Operand.tmp 35) 22, type := 22, pos := "quireref8.go:109", after := #[{ on := 2, ground := Go.Ground.data }, { on := 5, ground := Go.Ground.data }], guard := none }) (v := .int .u64 (IntKind.u64.wrap (a.k + (lenO a : Int)))) rfl (by kernel_rfl) (by kernel_rfl) (by kernel_rfl) (fun _ _ _ h => h) (Or.inl ⟨by rfl, ?_⟩) hHeld ?_
            · intro w hSw; clear hSw; go_simp
            simp only [Act.put, List.setIfInBounds_toArray]
            refine wpAnyH_take (i := 7) (oi := { dst := some 5, op := Go.Op.assign (Go.Operand.tmp 36), type := 22, pos := "quireref8.go:109", after := #[{ on := 6, ground := Go.Ground.data }, { on := 4, ground := Go.Ground.chain }, { on := 0, ground := Go.Ground.phase }, { on := 1, ground := Go.Ground.phase }, { on := 2, ground := Go.Ground.phase }, { on := 3, ground := Go.Ground.phase }, { on := 4, ground := Go.Ground.phase }, { on := 5, ground := Go.Ground.phase }, { on := 6, ground := Go.Ground.phase }], guard := none }) (v := .int .u64 (IntKind.u64.wrap (a.k + (lenO a : Int)))) rfl (by kernel_rfl) (by kernel_rfl) (by kernel_rfl) (fun _ _ _ h => h) (Or.inl ⟨by rfl, ?_⟩) hHeld ?_
            · intro w hSw; clear hSw; go_simp
            simp only [Act.put, List.setIfInBounds_toArray]
            refine wpAnyH_done (by kernel_rfl) ?_ _
            simp only [List.getElem_toArray, List.getElem_cons_succ, List.getElem_cons_zero, List.setIfInBounds_toArray, List.set_cons_succ, List.set_cons_zero]
            clear hHeld
            have q1 := HA2.out.1.q0
            have q4 := HA2.out.2.1.q1
            have q5 := HA2.out.2.1.q4
            have q6 := HA2.out.2.1.q5
            have HA9 : Hid (Touch (fun _ => False) w w2) := HA2.out.2.2
            clear HA2
            rw [HE.out] at e6 e8
            generalize IntKind.u64.wrap (a.k + (lenO a : Int)) = ea at *
            cases t6
            · go_wp2_with fail
              go_ret
              exact ⟨by rw [HG.out]; rfl, HA9.out⟩
            · skip
              cases t7
              · go_wp2_with fail
                go_ret
                exact ⟨by rw [HG.out]; rfl, HA9.out⟩
              · skip
                cases t8
                · go_wp2_with fail
                  go_ret
                  exact ⟨by rw [HG.out]; rfl, HA9.out⟩
                · skip
                  go_wp2_with fail
                  go_ret
                  exact ⟨by rw [HG.out]; rfl, HA9.out⟩
end Go.Proofs.YtphcnjbiojdalaaGreatDoor
