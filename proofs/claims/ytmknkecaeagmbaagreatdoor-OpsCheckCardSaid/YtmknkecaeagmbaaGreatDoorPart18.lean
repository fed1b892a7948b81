/- quirelaw8.light. -/
import Derived.Test.YtmknkecaeagmbaaGreatDoorPart10
import Derived.Test.YtmknkecaeagmbaaGreatDoorKnown8
import Derived.Test.YtmknkecaeagmbaaGreatDoorPart16
import Derived.Deep.RegionHeld3
import Derived.Deep.MidRow
import Derived.Test.YtmknkecaeagmbaaGreatDoorCards
import Derived.Test.YtmknkecaeagmbaaGreatDoorTie
import Derived.Deep.DeepHandedRow
import Derived.Lib.LaidTab
import Derived.WalkKit
import Derived.ProofKit
import Derived.OpenShut
import Derived.ChangeMaps5
import Derived.SizedLaws
namespace Go.Proofs.YtmknkecaeagmbaaGreatDoor
open Go.RowKit
set_option linter.unusedVariables false
set_option linter.unusedSimpArgs false
set_option maxRecDepth 100000

def lightB (o : O) : Bool := decide (o.tx.size ≤ 20000) && (decide (o.ky.size ≤ 200) && decide (o.vs.size ≤ 6000))
theorem light_iff (o : O) : lightB o = true ↔ o.tx.size ≤ 20000 ∧ o.ky.size ≤ 200 ∧ o.vs.size ≤ 6000 := by unfold lightB; simp
set_option maxHeartbeats 2000000 in
theorem light_any (o : O) (w : World) : Calls Tryz.prog 10 #[o.val] w fun e w' => e = .returned (.bool (lightB o)) ∧ Touch (fun _ => False) w w' := by
  unfold lightB
  obtain ⟨n1, h1⟩ : ∃ n1, Hid (n1 = o.tx.size) := ⟨_, rfl⟩
  obtain ⟨n2, h2⟩ : ∃ n2, Hid (n2 = o.ky.size) := ⟨_, rfl⟩
  obtain ⟨n3, h3⟩ : ∃ n3, Hid (n3 = o.vs.size) := ⟨_, rfl⟩
  go_enter Tryz.func10, Tryz.ntmps10
  go_upto_region 1 with fail
  obtain ⟨W0, hW0⟩ : ∃ W0, Hid (W0 = w.alloc (opO o)) := ⟨_, Eq.refl _⟩
  have HT0 : Hid (Touch (fun _ => False) w W0) := by rw [hW0.out]; exact (Touch.refl _ _).alloc _
  have hA : OpAt w.heap.size o W0 := by rw [hW0.out]; exact heap_alloc_new _ _
  rw [← hW0.out]
  clear hW0
  have q8 := hA.q8
  have q12 := hA.q12
  have q13 := hA.q13
  clear hA
  by_cases c1 : o.tx.size ≤ 20000
  · by_cases c2 : o.ky.size ≤ 200
    · by_cases c3 : o.vs.size ≤ 6000
      · have d1 : (o.tx.size : Int) ≤ 20000 := by omega
        have d2 : (o.ky.size : Int) ≤ 200 := by omega
        have d3 : (o.vs.size : Int) ≤ 6000 := by omega
        go_wp2_with fail
        go_ret
        exact ⟨by simp [c1, c2, c3], HT0.out⟩
      · have d1 : (o.tx.size : Int) ≤ 20000 := by omega
        have d2 : (o.ky.size : Int) ≤ 200 := by omega
        have d3 : ¬ (o.vs.size : Int) ≤ 6000 := by omega
        go_wp2_with fail
        go_ret
        exact ⟨by simp [c1, c2, c3], HT0.out⟩
    · have d1 : (o.tx.size : Int) ≤ 20000 := by omega
      have d2 : ¬ (o.ky.size : Int) ≤ 200 := by omega
      go_wp2_with fail
      go_ret
      exact ⟨by simp [c1, c2], HT0.out⟩
  · have d1 : ¬ (o.tx.size : Int) ≤ 20000 := by omega
    go_wp2_with fail
    go_ret
    exact ⟨by simp [c1], HT0.out⟩
end Go.Proofs.YtmknkecaeagmbaaGreatDoor

/- For every operation quirelaw8.OpsCheck answers true: the walk. -/
namespace Go.Proofs.YtmknkecaeagmbaaGreatDoor
open Go.RowKit
set_option linter.unusedVariables false
set_option linter.unusedSimpArgs false
set_option maxRecDepth 100000

set_option maxHeartbeats 4000000 in
theorem opsCheck_any (o : O) (hf : o.fits) (w : World) (hU : TabsU w) : Calls Tryz.prog 3 #[o.val] w fun e w' => e = .returned (.bool true) ∧ Touch (fun _ => False) w w' := by
  have HKn : Hid (∀ W, Touch (fun _ => False) w W → Calls Tryz.prog 9 #[] W fun e w' => e = .returned (.bool true) ∧ Touch (fun _ => False) W w') := fun W t => known_any W (hU.keep t)
  have HLi : Hid (∀ W, Touch (fun _ => False) w W → Calls Tryz.prog 10 #[o.val] W fun e w' => e = .returned (.bool (lightB o)) ∧ Touch (fun _ => False) W w') := fun W t => light_any o W
  have HLt : Hid (lightB o = true → o.tx.size ≤ 20000 ∧ o.ky.size ≤ 200 ∧ o.vs.size ≤ 6000) := fun h => (light_iff o).1 h
  have HFu : Hid (o.fits ∧ TabsU w) := ⟨hf, hU⟩
  clear hf hU
  generalize lightB o = lb at *
  go_enter Tryz.func3, Tryz.ntmps3
  go_upto_region 1 with fail
  obtain ⟨W0, hW0⟩ : ∃ W0, Hid (W0 = w.alloc (opO o)) := ⟨_, Eq.refl _⟩
  have HW0 : Hid (Touch (fun _ => False) w W0 ∧ OpAt w.heap.size o W0) := by rw [hW0.out]; exact ⟨(Touch.refl _ _).alloc _, heap_alloc_new _ _⟩
  rw [← hW0.out]
  clear hW0
  go_wp2_with fail
  refine (HKn.out _ HW0.out.1).mono ?_
  rintro e W1 ⟨rfl, t⟩
  have HW1 : Hid (Touch (fun _ => False) w W1 ∧ OpAt w.heap.size o W1) := ⟨HW0.out.1.trans t, HW0.out.2.keep t⟩
  clear t HW0
  go_upto_region 3 with fail
  refine wp_region_lit ?_
  refine wpList_load_mid rfl 31 (.tmp 1) rfl w.heap.size 0 rfl o.vals.toList _ (rangeAt_of HW1.out.2) Tryz.underlying31 rfl (by kernel_rfl) ?_
  simp only [Act.put, List.setIfInBounds_toArray, List.set_cons_succ, List.set_cons_zero]
  go_wp2_with fail
  refine (HLi.out _ HW1.out.1).mono ?_
  rintro e W3 ⟨rfl, t⟩
  have HW3 : Hid (Touch (fun _ => False) w W3.drew ∧ OpAt w.heap.size o W3.drew) := ⟨(HW1.out.1.trans t).drew, HW1.out.2.keep t.drew⟩
  have HW9 : Hid (Touch (fun _ => False) w W3) := HW1.out.1.trans t
  clear t HW1
  cases lb
  · go_wp2_with fail
    go_ret
    exact ⟨rfl, HW9.out⟩
  · obtain ⟨s1, s2, s3⟩ := HLt.out rfl
    have HC1 : Hid (∀ W, Touch (fun _ => False) w W → Calls Tryz.prog 11 #[o.val] W fun e w' => e = .returned (.int .i64 (opErr (checkB o))) ∧ Touch (fun _ => False) W w') := fun W t => ops_check o ⟨by omega, by omega, by omega, HFu.out.1.vf⟩ W (HFu.out.2.keep t)
    have HC2 : Hid (∀ W, Touch (fun _ => False) w W → Calls Tryz.prog 12 #[o.val] W fun e w' => e = .returned (.int .i64 (opErr (checkB o))) ∧ Touch (fun _ => False) W w') := fun W t => by
      rw [chk_eq o HFu.out.1 (by omega)]
      exact ref_checkO o ⟨by omega, by omega, by omega⟩ W
    clear s1 s2 s3
    generalize opErr (checkB o) = ce at *
    go_upto_region 5 with fail
    refine wp_region_held_drew (S := OpAt w.heap.size o) (by kernel_rfl) HW3.out.2 (fun hHeld => ?_)
    refine wpAnyH_take (i := 0) (oi := { dst := some 8, op := Go.Op.load 31 (Go.Operand.tmp 1), type := 31, pos := "law.go:58", after := #[], guard := none }) (v := o.val) rfl (by kernel_rfl) (by kernel_rfl) (by kernel_rfl) (fun _ _ _ h => h) (yieldsIf_load_mid (by rfl) 31 (.tmp 1) rfl w.heap.size 0 rfl o.vals.toList _ (fun w hw => rangeAt_of hw) Tryz.underlying31 rfl (by kernel_rfl)) hHeld ?_
    simp only [Act.put, List.setIfInBounds_toArray]
    refine wpAnyH_take (i := 2) (oi := { dst := some 10, op := Go.Op.load 31 (Go.Operand.tmp 1), type := 31, pos := "law.go:58", after := #[], guard := none }) (v := o.val) rfl (by kernel_rfl) (by kernel_rfl) (by kernel_rfl) (fun _ _ _ h => h) (yieldsIf_load_mid (by rfl) 31 (.tmp 1) rfl w.heap.size 0 rfl o.vals.toList _ (fun w hw => rangeAt_of hw) Tryz.underlying31 rfl (by kernel_rfl)) hHeld ?_
    simp only [Act.put, List.setIfInBounds_toArray]
    refine wpAnyH_ready (rs := [1]) (by kernel_rfl) (by simp) ?_
    refine AllReadyH.cons (o := { dst := some 9, op := Go.Op.call { callee := Go.Callee.value (Go.Operand.func 11), args := #[Go.Operand.tmp 8], argTypes := #[31] }, type := 34, pos := "law.go:58", after := #[{ on := 0, ground := Go.Ground.data }], guard := none }) rfl (fun K hK => ?_) AllReadyH.nil
    go_simp
    refine (HC1.out _ HW3.out.1).mono ?_
    rintro e W4 ⟨rfl, hT⟩
    have HW4 : Hid (Touch (fun _ => False) w W4 ∧ OpAt w.heap.size o W4) := ⟨HW3.out.1.trans hT, HW3.out.2.keep hT⟩
    have hS2 := HW4.out.2
    clear hT HW3
    refine hK.out _ _ hS2 (fun hHeld => ?_)
    clear hK K hS2
    refine wpAnyH_ready (rs := [3]) (by kernel_rfl) (by simp) ?_
    refine AllReadyH.cons (o := { dst := some 11, op := Go.Op.call { callee := Go.Callee.value (Go.Operand.func 12), args := #[Go.Operand.tmp 10], argTypes := #[31] }, type := 3, pos := "law.go:58", after := #[{ on := 2, ground := Go.Ground.data }, { on := 1, ground := Go.Ground.chain }], guard := none }) rfl (fun K hK => ?_) AllReadyH.nil
    go_simp
    refine (HC2.out _ HW4.out.1).mono ?_
    rintro e W5 ⟨rfl, hT⟩
    have HW5 : Hid (Touch (fun _ => False) w W5 ∧ OpAt w.heap.size o W5) := ⟨HW4.out.1.trans hT, HW4.out.2.keep hT⟩
    have hS2 := HW5.out.2
    clear hT HW4
    refine hK.out _ _ hS2 (fun hHeld => ?_)
    clear hK K hS2
    refine wpAnyH_take (i := 4) (oi := { dst := some 12, op := Go.Op.binOp Go.BinOp.eql 3 (Go.Operand.tmp 9) (Go.Operand.tmp 11) 3, type := 4, pos := "law.go:58", after := #[{ on := 1, ground := Go.Ground.data }, { on := 3, ground := Go.Ground.data }], guard := none }) (v := .bool true) rfl (by kernel_rfl) (by kernel_rfl) (by kernel_rfl) (fun _ _ _ h => h) (Or.inl ⟨by rfl, ?_⟩) hHeld ?_
    · intro w hSw; clear hSw; go_simp
    simp only [Act.put, List.setIfInBounds_toArray]
    refine wpAnyH_take (i := 5) (oi := { dst := some 2, op := Go.Op.assign (Go.Operand.tmp 12), type := 4, pos := "law.go:58", after := #[{ on := 4, ground := Go.Ground.data }, { on := 3, ground := Go.Ground.chain }, { on := 0, ground := Go.Ground.phase }, { on := 1, ground := Go.Ground.phase }, { on := 2, ground := Go.Ground.phase }, { on := 3, ground := Go.Ground.phase }, { on := 4, ground := Go.Ground.phase }], guard := none }) (v := .bool true) rfl (by kernel_rfl) (by kernel_rfl) (by kernel_rfl) (fun _ _ _ h => h) (Or.inl ⟨by rfl, ?_⟩) hHeld ?_
    · intro w hSw; clear hSw; go_simp
    simp only [Act.put, List.setIfInBounds_toArray]
    refine wpAnyH_done (by kernel_rfl) ?_ _
    try simp only [List.getElem_toArray, List.getElem_cons_succ, List.getElem_cons_zero, List.setIfInBounds_toArray, List.set_cons_succ, List.set_cons_zero]
    clear hHeld
    go_wp2_with fail
    go_ret
    exact ⟨rfl, HW5.out.1⟩
end Go.Proofs.YtmknkecaeagmbaaGreatDoor

/- A world that holds the listed tables as their initialisers lay them: for the witnesses. -/
namespace Go.Proofs.YtmknkecaeagmbaaGreatDoor
open Go.ChangeShapes Go.WideShapes Go.ChangeAt Go.RowKit
set_option linter.unusedVariables false

theorem own : ownKnob Tryz.prog.godebug = none := by kernel_rfl
theorem laidOut : laidOutB Tryz.prog = true := by kernel_rfl
def putTab (g : Nat) (k : IntKind) (zs : List Nat) (w : World) : World :=
  { w with heap := w.heap.modify g fun
      | .cells _ t frozen => .cells (zs.map fun z : Nat => Value.int k (z : Int)).toArray t frozen
      | o => o }
/-- A world with the tables laid. -/
def laidOn (w : World) : World :=
  putTab 2 .u8 [128, 191, 160, 191, 128, 159, 144, 191, 128, 143, 0, 0, 0, 0, 0, 0, 0, 0, 0, 0, 0, 0, 0, 0, 0, 0, 0, 0, 0, 0, 0, 0]
    (putTab 1 .u8 Go.Pinned.utf8FirstZ w)
end Go.Proofs.YtmknkecaeagmbaaGreatDoor
