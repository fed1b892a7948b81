/- ops.Fits; the document's Fits. -/
import Derived.Test.YtmknkecaeagmbaaGreatDoorOpA
import Derived.Deep.DeepCutAuto
namespace Go.Proofs.YtmknkecaeagmbaaGreatDoor
open Go.RowKit
set_option linter.unusedVariables false
set_option linter.unusedSimpArgs false
set_option maxRecDepth 100000

/-- Both are texts, the one's runes go on where the other's end. -/
def goesB (a b : O) : Bool := (a.kind == 1) && ((b.kind == 1) && (decide (a.k < endO a) && (((b.c == a.c) && (b.k == endO a)) && (((b.lc == a.c) && (b.lk == IntKind.u64.wrap (endO a - 1))) && ((b.rc == a.rc) && (b.rk == a.rk))))))
theorem OpAt.keep {W W' : World} {B : Nat} {o : O} (h : OpAt B o W) (t : Touch (fun _ => False) W W') : OpAt B o W' := (t.block B (lt_of_heap h) id).trans h

set_option maxHeartbeats 4000000 in
theorem ops_fits (a b : O) (hs : a.tx.size ≤ 4611686018427387904) (w : World) (hU : TabsU w) : Calls Tryz.prog 21 #[a.val, b.val] w fun e w' => e = .returned (.bool (goesB a b)) ∧ Touch (fun _ => False) w w' := by
  have HR : Hid (∀ W, Touch (fun _ => False) w W → Calls Tryz.prog 18 #[a.val] W fun e w' => e = .returned (rangeV a) ∧ Touch (fun _ => False) W w') := fun W t => ops_range a hs W (hU.keep t)
  clear hs hU
  obtain ⟨t1, e1⟩ : ∃ t1, (a.kind == 1) = t1 := ⟨_, rfl⟩
  obtain ⟨t2, e2⟩ : ∃ t2, (b.kind == 1) = t2 := ⟨_, rfl⟩
  obtain ⟨t3, e3⟩ : ∃ t3, decide (a.k < endO a) = t3 := ⟨_, rfl⟩
  obtain ⟨t4, e4⟩ : ∃ t4, (b.c == a.c) = t4 := ⟨_, rfl⟩
  obtain ⟨t5, e5⟩ : ∃ t5, (b.k == endO a) = t5 := ⟨_, rfl⟩
  obtain ⟨t6, e6⟩ : ∃ t6, (b.lc == a.c) = t6 := ⟨_, rfl⟩
  obtain ⟨t7, e7⟩ : ∃ t7, (b.lk == IntKind.u64.wrap (endO a - 1)) = t7 := ⟨_, rfl⟩
  obtain ⟨t8, e8⟩ : ∃ t8, (b.rc == a.rc) = t8 := ⟨_, rfl⟩
  obtain ⟨t9, e9⟩ : ∃ t9, (b.rk == a.rk) = t9 := ⟨_, rfl⟩
  have HG : Hid (goesB a b = (t1 && (t2 && (t3 && ((t4 && t5) && ((t6 && t7) && (t8 && t9))))))) := by unfold goesB Hid; rw [e1, e2, e3, e4, e5, e6, e7, e8, e9]
  go_enter Tryz.func21, Tryz.ntmps21
  go_upto_region 1 with fail
  obtain ⟨W0, hW0⟩ : ∃ W0, Hid (W0 = (w.alloc (opO a)).alloc (opO b)) := ⟨_, Eq.refl _⟩
  have hA : OpAt w.heap.size a W0 := by rw [hW0.out]; exact (heap_two w _ _).1
  have hB : OpAt (w.heap.size + 1) b W0 := by rw [hW0.out]; exact (heap_two w _ _).2
  have HT0 : Hid (Touch (fun _ => False) w W0) := by rw [hW0.out]; exact ((Touch.refl _ _).alloc _).alloc _
  rw [← hW0.out]
  clear hW0
  refine wp_region_lit ?_
  refine wpList_load_mid rfl 31 (.tmp 2) rfl w.heap.size 0 rfl a.vals.toList _ (rangeAt_of hA) Tryz.underlying31 rfl (by kernel_rfl) ?_
  simp only [Act.put, List.setIfInBounds_toArray]
  have HA : Hid (OpAt w.heap.size a W0 ∧ OpAt (w.heap.size + 1) b W0) := ⟨hA, hB⟩
  clear hA hB
  go_wp2_with fail
  refine (HR.out _ HT0.out).mono ?_
  rintro e w1 ⟨rfl, t⟩
  obtain ⟨W2, hW2⟩ : ∃ W2, Hid (W2 = (w1.alloc (.cells #[.int .u64 a.c, .int .u64 a.k, .int .u64 (endO a)] 41)).alloc (.cells #[.int .u64 a.c, .int .u64 (IntKind.u64.wrap (endO a - 1))] 24)) := ⟨_, Eq.refl _⟩
  have t2' : Touch (fun _ => False) w1 W2 := by rw [hW2.out]; exact ((Touch.refl _ _).alloc _).alloc _
  have hA := (HA.out.1.keep t).keep t2'
  have hB := (HA.out.2.keep t).keep t2'
  have HT2 : Hid (Touch (fun _ => False) w W2) := (HT0.out.trans t).trans t2'
  have hr : W2.heap[w1.heap.size]? = some (.cells #[.int .u64 a.c, .int .u64 a.k, .int .u64 (endO a)] 41) := by rw [hW2.out]; exact (heap_two w1 _ _).1
  have hi : W2.heap[w1.heap.size + 1]? = some (.cells #[.int .u64 a.c, .int .u64 (IntKind.u64.wrap (endO a - 1))] 24) := by rw [hW2.out]; exact (heap_two w1 _ _).2
  have q1 := hA.q2
  have q2 := hA.q6
  have q3 := hA.q7
  have q4 := hB.q0
  have q5 := hB.q1
  have q6 := hB.q2
  have q7 := hB.q4
  have q8 := hB.q5
  have q9 := hB.q6
  have q10 := hB.q7
  have r0 : W2.cell? ⟨w1.heap.size, 0, none⟩ = some (.int .u64 a.c) := by rw [cell_of_block hr]; rfl
  have r1 : W2.cell? ⟨w1.heap.size, 1, none⟩ = some (.int .u64 a.k) := by rw [cell_of_block hr]; rfl
  have r2 : W2.cell? ⟨w1.heap.size, 2, none⟩ = some (.int .u64 (endO a)) := by rw [cell_of_block hr]; rfl
  have i0 : W2.cell? ⟨w1.heap.size + 1, 0, none⟩ = some (.int .u64 a.c) := by rw [cell_of_block hi]; rfl
  have i1 : W2.cell? ⟨w1.heap.size + 1, 1, none⟩ = some (.int .u64 (IntKind.u64.wrap (endO a - 1))) := by rw [cell_of_block hi]; rfl
  clear hA hB t t2' hr hi HA HR HT0
  go_upto_region 3 with fail
  rw [← hW2.out]
  clear hW2
  generalize endO a = ea at *
  generalize IntKind.u64.wrap (ea - 1) = la at *
  cases t1
  · go_wp2_with fail
    go_ret
    exact ⟨by rw [HG.out]; rfl, HT2.out⟩
  · skip
    cases t2
    · go_wp2_with fail
      go_ret
      exact ⟨by rw [HG.out]; rfl, HT2.out⟩
    · skip
      cases t3
      · go_wp2_with fail
        go_ret
        exact ⟨by rw [HG.out]; rfl, HT2.out⟩
      · skip
        cases t4
        · go_wp2_with fail
          go_ret
          exact ⟨by rw [HG.out]; rfl, HT2.out⟩
        · skip
          cases t5
          · go_wp2_with fail
            go_ret
            exact ⟨by rw [HG.out]; rfl, HT2.out⟩
          · skip
            cases t6
            · go_wp2_with fail
              go_ret
              exact ⟨by rw [HG.out]; rfl, HT2.out⟩
            · skip
              cases t7
              · go_wp2_with fail
                go_ret
                exact ⟨by rw [HG.out]; rfl, HT2.out⟩
              · skip
                cases t8
                · go_wp2_with fail
                  go_ret
                  exact ⟨by rw [HG.out]; rfl, HT2.out⟩
                · skip
                  cases t9
                  · go_wp2_with fail
                    go_ret
                    exact ⟨by rw [HG.out]; rfl, HT2.out⟩
                  · skip
                    go_wp2_with fail
                    go_ret
                    exact ⟨by rw [HG.out]; rfl, HT2.out⟩
end Go.Proofs.YtmknkecaeagmbaaGreatDoor

/- quirelaw8.light. -/
namespace Go.Proofs.YtmknkecaeagmbaaGreatDoor
open Go.RowKit
set_option linter.unusedVariables false
set_option linter.unusedSimpArgs false
set_option maxRecDepth 100000

def lightB (o : O) : Bool := decide (o.tx.size ≤ 20000) && (decide (o.ky.size ≤ 200) && decide (o.vs.size ≤ 6000))
theorem light_iff (o : O) : lightB o = true ↔ o.tx.size ≤ 20000 ∧ o.ky.size ≤ 200 ∧ o.vs.size ≤ 6000 := by unfold lightB; simp
set_option maxHeartbeats 2000000 in
theorem light_any (o : O) (w : World) : Calls Tryz.prog 10 #[o.val] w fun e w' => e = .returned (.bool (lightB o)) ∧ Touch (fun _ => False) w w' := by
  unfold lightB
  obtain ⟨n1, h1⟩ : ∃ n1, Hid (n1 = o.tx.size) := ⟨_, rfl⟩
  obtain ⟨n2, h2⟩ : ∃ n2, Hid (n2 = o.ky.size) := ⟨_, rfl⟩
  obtain ⟨n3, h3⟩ : ∃ n3, Hid (n3 = o.vs.size) := ⟨_, rfl⟩
  go_enter Tryz.func10, Tryz.ntmps10
  go_upto_region 1 with fail
  obtain ⟨W0, hW0⟩ : ∃ W0, Hid (W0 = w.alloc (opO o)) := ⟨_, Eq.refl _⟩
  have HT0 : Hid (Touch (fun _ => False) w W0) := by rw [hW0.out]; exact (Touch.refl _ _).alloc _
  have hA : OpAt w.heap.size o W0 := by rw [hW0.out]; exact heap_alloc_new _ _
  rw [← hW0.out]
  clear hW0
  have q8 := hA.q8
  have q12 := hA.q12
  have q13 := hA.q13
  clear hA
  by_cases c1 : o.tx.size ≤ 20000
  · by_cases c2 : o.ky.size ≤ 200
    · by_cases c3 : o.vs.size ≤ 6000
      · have d1 : (o.tx.size : Int) ≤ 20000 := by omega
        have d2 : (o.ky.size : Int) ≤ 200 := by omega
        have d3 : (o.vs.size : Int) ≤ 6000 := by omega
        go_wp2_with fail
        go_ret
        exact ⟨by simp [c1, c2, c3], HT0.out⟩
      · have d1 : (o.tx.size : Int) ≤ 20000 := by omega
        have d2 : (o.ky.size : Int) ≤ 200 := by omega
        have d3 : ¬ (o.vs.size : Int) ≤ 6000 := by omega
        go_wp2_with fail
        go_ret
        exact ⟨by simp [c1, c2, c3], HT0.out⟩
    · have d1 : (o.tx.size : Int) ≤ 20000 := by omega
      have d2 : ¬ (o.ky.size : Int) ≤ 200 := by omega
      go_wp2_with fail
      go_ret
      exact ⟨by simp [c1, c2], HT0.out⟩
  · have d1 : ¬ (o.tx.size : Int) ≤ 20000 := by omega
    go_wp2_with fail
    go_ret
    exact ⟨by simp [c1], HT0.out⟩
end Go.Proofs.YtmknkecaeagmbaaGreatDoor
