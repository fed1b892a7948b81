/- ops.rightIds. -/
import Derived.Test.YtphcnjbiojdalaaGreatDoorPart14
import Derived.Test.YtphcnjbiojdalaaGreatDoorPart7
namespace Go.Proofs.YtphcnjbiojdalaaGreatDoor
open Go.RowKit
set_option linter.unusedVariables false
set_option linter.unusedSimpArgs false
set_option maxRecDepth 100000

def rgOf (o : O) : Rg := ⟨o.c, o.k, endO o⟩
/-- A name: no id, or a right one that is none of r's. -/
def nameOk (r : Rg) (p : Int × Int) : Bool := ((p.1 == 0) && (p.2 == 0)) || ((numOk p.1 && numOk p.2) && !hasB [r] p.1 p.2)
def idsB (o : O) : Bool := ((numOk o.c && numOk o.k) && decide (endO o ≤ 9007199254740992)) && (namesL o).all (nameOk (rgOf o))
theorem has_one (r : Rg) (c k : Int) (W : World) : Calls Tryz.prog 67 #[.slice (some ⟨W.heap.size, 0, none⟩) 1 1, idV c k] (W.alloc (rgO r)) fun e w' => e = .returned (.bool (hasB [r] c k)) ∧ Touch (fun _ => False) W w' :=
  (has_any [r] (.slice (some ⟨W.heap.size, 0, none⟩) 1 1) c k (W.alloc (rgO r)) ⟨some ⟨W.heap.size, 0, none⟩, 1, rfl, (fun h => by cases h), Nat.le_refl _, by decide, LiesR.new W r⟩ (by simp)).mono (by rintro e w2 ⟨rfl, t⟩; exact ⟨rfl, ((Touch.refl _ _).alloc _).trans t⟩)
theorem idx0 (o : O) (w : World) : (Instr.index 67 (Value.agg (namesA o)) (Value.int IntKind.i64 0)).run Tryz.prog w = .ok (.agg #[.int .u64 o.lc, .int .u64 o.lk]) w := by kernel_rfl
theorem idx1 (o : O) (w : World) : (Instr.index 67 (Value.agg (namesA o)) (Value.int IntKind.i64 1)).run Tryz.prog w = .ok (.agg #[.int .u64 o.rc, .int .u64 o.rk]) w := by kernel_rfl
theorem idx2 (o : O) (w : World) : (Instr.index 67 (Value.agg (namesA o)) (Value.int IntKind.i64 2)).run Tryz.prog w = .ok (.agg #[.int .u64 o.fc, .int .u64 o.fk]) w := by kernel_rfl
theorem idx3 (o : O) (w : World) : (Instr.index 67 (Value.agg (namesA o)) (Value.int IntKind.i64 3)).run Tryz.prog w = .ok (.agg #[.int .u64 o.tc, .int .u64 o.tk]) w := by kernel_rfl
theorem idx4 (o : O) (w : World) : (Instr.index 67 (Value.agg (namesA o)) (Value.int IntKind.i64 4)).run Tryz.prog w = .ok (.agg #[.int .u64 o.pc, .int .u64 o.pk]) w := by kernel_rfl
set_option maxHeartbeats 8000000 in
theorem ids_any (o : O) (h : o.tx.size ≤ 4611686018427387904) (w : World) (hU : TabsU w) : Calls Tryz.prog 36 #[o.val] w fun e w' => e = .returned (.bool (idsB o)) ∧ Touch (fun _ => False) w w' := by
  have HR : Hid (∀ W, Touch (fun _ => False) w W → Calls Tryz.prog 18 #[o.val] W fun e w' => e = .returned (rangeV o) ∧ Touch (fun _ => False) W w') := fun W t => ops_range o h W (hU.keep t)
  have HN : Hid (∀ W, Calls Tryz.prog 54 #[o.val] W fun e w' => e = .returned (.agg (namesA o)) ∧ Touch (fun _ => False) W w') := fun W => names_any o W
  have HRt : Hid (∀ (c k : Int) W, Calls Tryz.prog 66 #[idV c k] W fun e w' => e = .returned (.bool (numOk c && numOk k)) ∧ Touch (fun _ => False) W w') := fun c k W => (right_any c k W).mono (by rintro e w2 ⟨rfl, rfl⟩; exact ⟨rfl, (Touch.refl _ _).alloc _⟩)
  have HH : Hid (∀ (c k : Int) W, Calls Tryz.prog 67 #[.slice (some ⟨W.heap.size, 0, none⟩) 1 1, idV c k] (W.alloc (rgO (rgOf o))) fun e w' => e = .returned (.bool (hasB [rgOf o] c k)) ∧ Touch (fun _ => False) W w') := fun c k W => has_one (rgOf o) c k W
  have HRo := HRt.out o.c o.k
  have HG : Hid (idsB o = (((numOk o.c && numOk o.k) && decide (endO o ≤ 9007199254740992)) && (namesL o).all (nameOk (rgOf o)))) := rfl
  have HP : Hid (∀ c k, nameOk (rgOf o) (c, k) = (((c == 0) && (k == 0)) || ((numOk c && numOk k) && !hasB [rgOf o] c k))) := fun _ _ => rfl
  generalize nameOk (rgOf o) = P at *
  generalize (numOk o.c && numOk o.k) = a1 at *
  have HRo2 : Hid (∀ W, Calls Tryz.prog 66 #[idV o.c o.k] W fun e w' => e = .returned (.bool a1) ∧ Touch (fun _ => False) W w') := HRo
  clear HRo h hU
  obtain ⟨a2, g2⟩ : ∃ a2, decide (9007199254740992 < endO o) = a2 := ⟨_, rfl⟩
  have HG2 : Hid (decide (endO o ≤ 9007199254740992) = !a2) := by rw [← g2]; show decide (endO o ≤ 9007199254740992) = !decide (9007199254740992 < endO o); rw [← decide_not]; congr 1; simp
  rw [HG2.out] at HG
  have HE : Hid (decide (9007199254740992 < endO o) = a2) := g2
  clear g2 HG2
  go_enter Tryz.func36, Tryz.ntmps36
  go_upto_region 1 with fail
  have hA0 : OpAt w.heap.size o (w.alloc (opO o)) := heap_alloc_new _ _
  refine wp_region_lit ?_
  refine wpList_load_mid rfl 31 (.tmp 1) rfl w.heap.size 0 rfl o.vals.toList _ (rangeAt_of hA0) Tryz.underlying31 rfl (by kernel_rfl) ?_
  simp only [Act.put, List.setIfInBounds_toArray]
  have HA0 : Hid (OpAt w.heap.size o (w.alloc (opO o))) := hA0
  clear hA0
  go_wp2_with fail
  refine (HR.out _ ((Touch.refl _ _).alloc _)).mono ?_
  rintro e w1 ⟨rfl, t⟩
  have HA1 : Hid (OpAt w.heap.size o w1 ∧ Touch (fun _ => False) w w1) := ⟨HA0.out.keep t, ((Touch.refl _ _).alloc _).trans t⟩
  clear t HA0 HR
  go_upto_region 2 with fail
  obtain ⟨W2, hW2⟩ : ∃ W2, Hid (W2 = w1.alloc (.cells #[.int .u64 o.c, .int .u64 o.k, .int .u64 (endO o)] 41)) := ⟨_, Eq.refl _⟩
  have HA2 : Hid (OpAt w.heap.size o W2 ∧ Touch (fun _ => False) w W2 ∧ W2.heap[w1.heap.size]? = some (rgO (rgOf o))) := by rw [hW2.out]; exact ⟨HA1.out.1.keep ((Touch.refl _ _).alloc _), HA1.out.2.alloc _, heap_alloc_new _ _⟩
  rw [← hW2.out]
  clear hW2 HA1
  generalize w1.heap.size = R at *
  have q0 := HA2.out.1.q0
  have q1 := HA2.out.1.q1
  go_wp2_with fail
  refine (HRo2.out _).mono ?_
  rintro e w3 ⟨rfl, t⟩
  have HA3 : Hid (OpAt w.heap.size o w3 ∧ Touch (fun _ => False) w w3 ∧ w3.heap[R]? = some (rgO (rgOf o))) := ⟨HA2.out.1.keep t, HA2.out.2.1.trans t, (t.block R (lt_of_heap HA2.out.2.2) id).trans HA2.out.2.2⟩
  clear t HA2 q0 q1 HRo2
  have r2 : w3.cell? ⟨R, 2, none⟩ = some (.int .u64 (endO o)) := by rw [cell_of_block HA3.out.2.2]; rfl
  have ge := HE.out
  generalize endO o = E at r2 ge
  cases a1
  · go_wp2_with fail
    go_ret
    exact ⟨by rw [HG.out]; simp, HA3.out.2.1⟩
  · cases a2
    · go_upto_region 4 with fail
      clear ge r2
      refine wp_region_lit ?_
      refine wpList_load_mid rfl 31 (.tmp 1) rfl w.heap.size 0 rfl o.vals.toList _ (rangeAt_of HA3.out.1) Tryz.underlying31 rfl (by kernel_rfl) ?_
      simp only [Act.put, List.setIfInBounds_toArray]
      go_wp2_with fail
      refine (HN.out _).mono ?_
      rintro e w4 ⟨rfl, t⟩
      have HA4 : Hid (Touch (fun _ => False) w w4 ∧ w4.heap[R]? = some (rgO (rgOf o))) := ⟨HA3.out.2.1.trans t, (t.block R (lt_of_heap HA3.out.2.2) id).trans HA3.out.2.2⟩
      clear t HA3 HN
      go_wp2_with fail
      go_loopw [5, 19, 20, 21, 22, 23, 24, 25, 26, 27, 28, 29, 30, 31, 32, 33, 34] (fun _ i _ _ _ _ _ _ _ _ _ _ _ _ _ _ _  wr => ∃ x : Int, i = .int .i64 x ∧ 0 ≤ x ∧ x ≤ 5 ∧ Hid (((namesL o).take x.toNat).all P = true ∧ Touch (fun _ => False) w wr ∧ wr.heap[R]? = some (rgO (rgOf o)))) (fun _ i _ _ _ _ _ _ _ _ _ _ _ _ _ _ _  _ => (5 - intOf i).toNat)
      case atStart => exact ⟨0, rfl, by omega, by omega, ⟨rfl, HA4.out⟩⟩
      case round =>
        obtain ⟨x, rfl, hx0, hx5, HQ⟩ := hrel
        have hx : x = 0 ∨ x = 1 ∨ x = 2 ∨ x = 3 ∨ x = 4 ∨ x = 5 := by omega
        clear hx0 hx5 HA4
        rcases hx with rfl | rfl | rfl | rfl | rfl | rfl
        · have hI := idx0 o
          obtain ⟨z1, f1⟩ : ∃ z, (o.lc == 0) = z := ⟨_, rfl⟩
          obtain ⟨z2, f2⟩ : ∃ z, (o.lk == 0) = z := ⟨_, rfl⟩
          have HPi := HP.out o.lc o.lk
          have HRi := HRt.out o.lc o.lk
          have HHi := HH.out o.lc o.lk
          rw [f1, f2] at HPi
          generalize (numOk o.lc && numOk o.lk) = r at *
          generalize hasB [rgOf o] o.lc o.lk = hh at *
          have HP1 : Hid (P (o.lc, o.lk) = ((z1 && z2) || (r && !hh))) := HPi
          have HR1 : Hid (∀ W, Calls Tryz.prog 66 #[idV o.lc o.lk] W fun e w' => e = .returned (.bool r) ∧ Touch (fun _ => False) W w') := HRi
          have HH1 : Hid (∀ W, Calls Tryz.prog 67 #[.slice (some ⟨W.heap.size, 0, none⟩) 1 1, idV o.lc o.lk] (W.alloc (rgO (rgOf o))) fun e w' => e = .returned (.bool hh) ∧ Touch (fun _ => False) W w') := HHi
          clear HPi HRi HHi HP HRt HH
          cases z1
          · go_wp2_with fail
            refine (HR1.out _).mono ?_
            rintro e w5 ⟨rfl, t⟩
            have H5 : Hid (Touch (fun _ => False) w w5 ∧ w5.heap[R]? = some (rgO (rgOf o)) ∧ w5.heap[wr.heap.size]? = some (idO o.lc o.lk)) := ⟨(HQ.out.2.1.alloc _).trans t, (((((Touch.refl _ _).alloc _).trans t).block R (lt_of_heap HQ.out.2.2) id).trans HQ.out.2.2), (t.block wr.heap.size (by simp) id).trans (heap_alloc_new _ _)⟩
            clear t
            cases r
            · go_wp2_with fail
              go_ret
              exact ⟨by rw [HG.out]; simp [namesL, HP1.out], H5.out.1⟩
            · have i0 : (w5.alloc (.cells #[.int .u64 o.c, .int .u64 o.k, .int .u64 (endO o)] 41)).cell? ⟨wr.heap.size, 0, none⟩ = some (.int .u64 o.lc) := by rw [cell_of_block ((Below.heap_alloc _ _ _ (lt_of_heap H5.out.2.2)).trans H5.out.2.2)]; rfl
              have i1 : (w5.alloc (.cells #[.int .u64 o.c, .int .u64 o.k, .int .u64 (endO o)] 41)).cell? ⟨wr.heap.size, 1, none⟩ = some (.int .u64 o.lk) := by rw [cell_of_block ((Below.heap_alloc _ _ _ (lt_of_heap H5.out.2.2)).trans H5.out.2.2)]; rfl
              have r0 : w5.cell? ⟨R, 0, none⟩ = some (.int .u64 o.c) := by rw [cell_of_block H5.out.2.1]; rfl
              have r1 : w5.cell? ⟨R, 1, none⟩ = some (.int .u64 o.k) := by rw [cell_of_block H5.out.2.1]; rfl
              have r2 : w5.cell? ⟨R, 2, none⟩ = some (.int .u64 (endO o)) := by rw [cell_of_block H5.out.2.1]; rfl
              go_wp2_with fail
              refine (HH1.out _).mono ?_
              rintro e w6 ⟨rfl, t⟩
              have H6 : Hid (Touch (fun _ => False) w w6 ∧ w6.heap[R]? = some (rgO (rgOf o))) := ⟨H5.out.1.trans t, (t.block R (lt_of_heap H5.out.2.1) id).trans H5.out.2.1⟩
              clear t i0 i1 r0 r1 r2
              cases hh
              · go_wp2_with fail
                go_roundw
                case rel => exact ⟨1, by go_num, by omega, by omega, ⟨by have := HQ.out.1; simp [namesL] at this ⊢; simp [this, HP1.out], H6.out⟩⟩
                case measure => simp [intOf]
              · go_wp2_with fail
                go_ret
                exact ⟨by rw [HG.out]; simp [namesL, HP1.out], H6.out.1⟩
          · cases z2
            · go_wp2_with fail
              refine (HR1.out _).mono ?_
              rintro e w5 ⟨rfl, t⟩
              have H5 : Hid (Touch (fun _ => False) w w5 ∧ w5.heap[R]? = some (rgO (rgOf o)) ∧ w5.heap[wr.heap.size]? = some (idO o.lc o.lk)) := ⟨(HQ.out.2.1.alloc _).trans t, (((((Touch.refl _ _).alloc _).trans t).block R (lt_of_heap HQ.out.2.2) id).trans HQ.out.2.2), (t.block wr.heap.size (by simp) id).trans (heap_alloc_new _ _)⟩
              clear t
              cases r
              · go_wp2_with fail
                go_ret
                exact ⟨by rw [HG.out]; simp [namesL, HP1.out], H5.out.1⟩
              · have i0 : (w5.alloc (.cells #[.int .u64 o.c, .int .u64 o.k, .int .u64 (endO o)] 41)).cell? ⟨wr.heap.size, 0, none⟩ = some (.int .u64 o.lc) := by rw [cell_of_block ((Below.heap_alloc _ _ _ (lt_of_heap H5.out.2.2)).trans H5.out.2.2)]; rfl
                have i1 : (w5.alloc (.cells #[.int .u64 o.c, .int .u64 o.k, .int .u64 (endO o)] 41)).cell? ⟨wr.heap.size, 1, none⟩ = some (.int .u64 o.lk) := by rw [cell_of_block ((Below.heap_alloc _ _ _ (lt_of_heap H5.out.2.2)).trans H5.out.2.2)]; rfl
                have r0 : w5.cell? ⟨R, 0, none⟩ = some (.int .u64 o.c) := by rw [cell_of_block H5.out.2.1]; rfl
                have r1 : w5.cell? ⟨R, 1, none⟩ = some (.int .u64 o.k) := by rw [cell_of_block H5.out.2.1]; rfl
                have r2 : w5.cell? ⟨R, 2, none⟩ = some (.int .u64 (endO o)) := by rw [cell_of_block H5.out.2.1]; rfl
                go_wp2_with fail
                refine (HH1.out _).mono ?_
                rintro e w6 ⟨rfl, t⟩
                have H6 : Hid (Touch (fun _ => False) w w6 ∧ w6.heap[R]? = some (rgO (rgOf o))) := ⟨H5.out.1.trans t, (t.block R (lt_of_heap H5.out.2.1) id).trans H5.out.2.1⟩
                clear t i0 i1 r0 r1 r2
                cases hh
                · go_wp2_with fail
                  go_roundw
                  case rel => exact ⟨1, by go_num, by omega, by omega, ⟨by have := HQ.out.1; simp [namesL] at this ⊢; simp [this, HP1.out], H6.out⟩⟩
                  case measure => simp [intOf]
                · go_wp2_with fail
                  go_ret
                  exact ⟨by rw [HG.out]; simp [namesL, HP1.out], H6.out.1⟩
            · go_wp2_with fail
              go_roundw
              case rel => exact ⟨1, by go_num, by omega, by omega, ⟨by have := HQ.out.1; simp [namesL] at this ⊢; simp [this, HP1.out], HQ.out.2.1.alloc _, (Below.heap_alloc _ _ _ (lt_of_heap HQ.out.2.2)).trans HQ.out.2.2⟩⟩
              case measure => simp [intOf]
        · have hI := idx1 o
          obtain ⟨z1, f1⟩ : ∃ z, (o.rc == 0) = z := ⟨_, rfl⟩
          obtain ⟨z2, f2⟩ : ∃ z, (o.rk == 0) = z := ⟨_, rfl⟩
          have HPi := HP.out o.rc o.rk
          have HRi := HRt.out o.rc o.rk
          have HHi := HH.out o.rc o.rk
          rw [f1, f2] at HPi
          generalize (numOk o.rc && numOk o.rk) = r at *
          generalize hasB [rgOf o] o.rc o.rk = hh at *
          have HP1 : Hid (P (o.rc, o.rk) = ((z1 && z2) || (r && !hh))) := HPi
          have HR1 : Hid (∀ W, Calls Tryz.prog 66 #[idV o.rc o.rk] W fun e w' => e = .returned (.bool r) ∧ Touch (fun _ => False) W w') := HRi
          have HH1 : Hid (∀ W, Calls Tryz.prog 67 #[.slice (some ⟨W.heap.size, 0, none⟩) 1 1, idV o.rc o.rk] (W.alloc (rgO (rgOf o))) fun e w' => e = .returned (.bool hh) ∧ Touch (fun _ => False) W w') := HHi
          clear HPi HRi HHi HP HRt HH
          cases z1
          · go_wp2_with fail
            refine (HR1.out _).mono ?_
            rintro e w5 ⟨rfl, t⟩
            have H5 : Hid (Touch (fun _ => False) w w5 ∧ w5.heap[R]? = some (rgO (rgOf o)) ∧ w5.heap[wr.heap.size]? = some (idO o.rc o.rk)) := ⟨(HQ.out.2.1.alloc _).trans t, (((((Touch.refl _ _).alloc _).trans t).block R (lt_of_heap HQ.out.2.2) id).trans HQ.out.2.2), (t.block wr.heap.size (by simp) id).trans (heap_alloc_new _ _)⟩
            clear t
            cases r
            · go_wp2_with fail
              go_ret
              exact ⟨by rw [HG.out]; simp [namesL, HP1.out], H5.out.1⟩
            · have i0 : (w5.alloc (.cells #[.int .u64 o.c, .int .u64 o.k, .int .u64 (endO o)] 41)).cell? ⟨wr.heap.size, 0, none⟩ = some (.int .u64 o.rc) := by rw [cell_of_block ((Below.heap_alloc _ _ _ (lt_of_heap H5.out.2.2)).trans H5.out.2.2)]; rfl
              have i1 : (w5.alloc (.cells #[.int .u64 o.c, .int .u64 o.k, .int .u64 (endO o)] 41)).cell? ⟨wr.heap.size, 1, none⟩ = some (.int .u64 o.rk) := by rw [cell_of_block ((Below.heap_alloc _ _ _ (lt_of_heap H5.out.2.2)).trans H5.out.2.2)]; rfl
              have r0 : w5.cell? ⟨R, 0, none⟩ = some (.int .u64 o.c) := by rw [cell_of_block H5.out.2.1]; rfl
              have r1 : w5.cell? ⟨R, 1, none⟩ = some (.int .u64 o.k) := by rw [cell_of_block H5.out.2.1]; rfl
              have r2 : w5.cell? ⟨R, 2, none⟩ = some (.int .u64 (endO o)) := by rw [cell_of_block H5.out.2.1]; rfl
              go_wp2_with fail
              refine (HH1.out _).mono ?_
              rintro e w6 ⟨rfl, t⟩
              have H6 : Hid (Touch (fun _ => False) w w6 ∧ w6.heap[R]? = some (rgO (rgOf o))) := ⟨H5.out.1.trans t, (t.block R (lt_of_heap H5.out.2.1) id).trans H5.out.2.1⟩
              clear t i0 i1 r0 r1 r2
              cases hh
              · go_wp2_with fail
                go_roundw
                case rel => exact ⟨2, by go_num, by omega, by omega, ⟨by have := HQ.out.1; simp [namesL] at this ⊢; simp [this, HP1.out], H6.out⟩⟩
                case measure => simp [intOf]
              · go_wp2_with fail
                go_ret
                exact ⟨by rw [HG.out]; simp [namesL, HP1.out], H6.out.1⟩
          · cases z2
            · go_wp2_with fail
              refine (HR1.out _).mono ?_
              rintro e w5 ⟨rfl, t⟩
              have H5 : Hid (Touch (fun _ => False) w w5 ∧ w5.heap[R]? = some (rgO (rgOf o)) ∧ w5.heap[wr.heap.size]? = some (idO o.rc o.rk)) := ⟨(HQ.out.2.1.alloc _).trans t, (((((Touch.refl _ _).alloc _).trans t).block R (lt_of_heap HQ.out.2.2) id).trans HQ.out.2.2), (t.block wr.heap.size (by simp) id).trans (heap_alloc_new _ _)⟩
              clear t
              cases r
              · go_wp2_with fail
                go_ret
                exact ⟨by rw [HG.out]; simp [namesL, HP1.out], H5.out.1⟩
              · have i0 : (w5.alloc (.cells #[.int .u64 o.c, .int .u64 o.k, .int .u64 (endO o)] 41)).cell? ⟨wr.heap.size, 0, none⟩ = some (.int .u64 o.rc) := by rw [cell_of_block ((Below.heap_alloc _ _ _ (lt_of_heap H5.out.2.2)).trans H5.out.2.2)]; rfl
                have i1 : (w5.alloc (.cells #[.int .u64 o.c, .int .u64 o.k, .int .u64 (endO o)] 41)).cell? ⟨wr.heap.size, 1, none⟩ = some (.int .u64 o.rk) := by rw [cell_of_block ((Below.heap_alloc _ _ _ (lt_of_heap H5.out.2.2)).trans H5.out.2.2)]; rfl
                have r0 : w5.cell? ⟨R, 0, none⟩ = some (.int .u64 o.c) := by rw [cell_of_block H5.out.2.1]; rfl
                have r1 : w5.cell? ⟨R, 1, none⟩ = some (.int .u64 o.k) := by rw [cell_of_block H5.out.2.1]; rfl
                have r2 : w5.cell? ⟨R, 2, none⟩ = some (.int .u64 (endO o)) := by rw [cell_of_block H5.out.2.1]; rfl
                go_wp2_with fail
                refine (HH1.out _).mono ?_
                rintro e w6 ⟨rfl, t⟩
                have H6 : Hid (Touch (fun _ => False) w w6 ∧ w6.heap[R]? = some (rgO (rgOf o))) := ⟨H5.out.1.trans t, (t.block R (lt_of_heap H5.out.2.1) id).trans H5.out.2.1⟩
                clear t i0 i1 r0 r1 r2
                cases hh
                · go_wp2_with fail
                  go_roundw
                  case rel => exact ⟨2, by go_num, by omega, by omega, ⟨by have := HQ.out.1; simp [namesL] at this ⊢; simp [this, HP1.out], H6.out⟩⟩
                  case measure => simp [intOf]
                · go_wp2_with fail
                  go_ret
                  exact ⟨by rw [HG.out]; simp [namesL, HP1.out], H6.out.1⟩
            · go_wp2_with fail
              go_roundw
              case rel => exact ⟨2, by go_num, by omega, by omega, ⟨by have := HQ.out.1; simp [namesL] at this ⊢; simp [this, HP1.out], HQ.out.2.1.alloc _, (Below.heap_alloc _ _ _ (lt_of_heap HQ.out.2.2)).trans HQ.out.2.2⟩⟩
              case measure => simp [intOf]
        · have hI := idx2 o
          obtain ⟨z1, f1⟩ : ∃ z, (o.fc == 0) = z := ⟨_, rfl⟩
          obtain ⟨z2, f2⟩ : ∃ z, (o.fk == 0) = z := ⟨_, rfl⟩
          have HPi := HP.out o.fc o.fk
          have HRi := HRt.out o.fc o.fk
          have HHi := HH.out o.fc o.fk
          rw [f1, f2] at HPi
          generalize (numOk o.fc && numOk o.fk) = r at *
          generalize hasB [rgOf o] o.fc o.fk = hh at *
          have HP1 : Hid (P (o.fc, o.fk) = ((z1 && z2) || (r && !hh))) := HPi
          have HR1 : Hid (∀ W, Calls Tryz.prog 66 #[idV o.fc o.fk] W fun e w' => e = .returned (.bool r) ∧ Touch (fun _ => False) W w') := HRi
          have HH1 : Hid (∀ W, Calls Tryz.prog 67 #[.slice (some ⟨W.heap.size, 0, none⟩) 1 1, idV o.fc o.fk] (W.alloc (rgO (rgOf o))) fun e w' => e = .returned (.bool hh) ∧ Touch (fun _ => False) W w') := HHi
          clear HPi HRi HHi HP HRt HH
          cases z1
          · go_wp2_with fail
            refine (HR1.out _).mono ?_
            rintro e w5 ⟨rfl, t⟩
            have H5 : Hid (Touch (fun _ => False) w w5 ∧ w5.heap[R]? = some (rgO (rgOf o)) ∧ w5.heap[wr.heap.size]? = some (idO o.fc o.fk)) := ⟨(HQ.out.2.1.alloc _).trans t, (((((Touch.refl _ _).alloc _).trans t).block R (lt_of_heap HQ.out.2.2) id).trans HQ.out.2.2), (t.block wr.heap.size (by simp) id).trans (heap_alloc_new _ _)⟩
            clear t
            cases r
            · go_wp2_with fail
              go_ret
              exact ⟨by rw [HG.out]; simp [namesL, HP1.out], H5.out.1⟩
            · have i0 : (w5.alloc (.cells #[.int .u64 o.c, .int .u64 o.k, .int .u64 (endO o)] 41)).cell? ⟨wr.heap.size, 0, none⟩ = some (.int .u64 o.fc) := by rw [cell_of_block ((Below.heap_alloc _ _ _ (lt_of_heap H5.out.2.2)).trans H5.out.2.2)]; rfl
              have i1 : (w5.alloc (.cells #[.int .u64 o.c, .int .u64 o.k, .int .u64 (endO o)] 41)).cell? ⟨wr.heap.size, 1, none⟩ = some (.int .u64 o.fk) := by rw [cell_of_block ((Below.heap_alloc _ _ _ (lt_of_heap H5.out.2.2)).trans H5.out.2.2)]; rfl
              have r0 : w5.cell? ⟨R, 0, none⟩ = some (.int .u64 o.c) := by rw [cell_of_block H5.out.2.1]; rfl
              have r1 : w5.cell? ⟨R, 1, none⟩ = some (.int .u64 o.k) := by rw [cell_of_block H5.out.2.1]; rfl
              have r2 : w5.cell? ⟨R, 2, none⟩ = some (.int .u64 (endO o)) := by rw [cell_of_block H5.out.2.1]; rfl
              go_wp2_with fail
              refine (HH1.out _).mono ?_
              rintro e w6 ⟨rfl, t⟩
              have H6 : Hid (Touch (fun _ => False) w w6 ∧ w6.heap[R]? = some (rgO (rgOf o))) := ⟨H5.out.1.trans t, (t.block R (lt_of_heap H5.out.2.1) id).trans H5.out.2.1⟩
              clear t i0 i1 r0 r1 r2
              cases hh
              · go_wp2_with fail
                go_roundw
                case rel => exact ⟨3, by go_num, by omega, by omega, ⟨by have := HQ.out.1; simp [namesL] at this ⊢; simp [this, HP1.out], H6.out⟩⟩
                case measure => simp [intOf]
              · go_wp2_with fail
                go_ret
                exact ⟨by rw [HG.out]; simp [namesL, HP1.out], H6.out.1⟩
          · cases z2
            · go_wp2_with fail
              refine (HR1.out _).mono ?_
              rintro e w5 ⟨rfl, t⟩
              have H5 : Hid (Touch (fun _ => False) w w5 ∧ w5.heap[R]? = some (rgO (rgOf o)) ∧ w5.heap[wr.heap.size]? = some (idO o.fc o.fk)) := ⟨(HQ.out.2.1.alloc _).trans t, (((((Touch.refl _ _).alloc _).trans t).block R (lt_of_heap HQ.out.2.2) id).trans HQ.out.2.2), (t.block wr.heap.size (by simp) id).trans (heap_alloc_new _ _)⟩
              clear t
              cases r
              · go_wp2_with fail
                go_ret
                exact ⟨by rw [HG.out]; simp [namesL, HP1.out], H5.out.1⟩
              · have i0 : (w5.alloc (.cells #[.int .u64 o.c, .int .u64 o.k, .int .u64 (endO o)] 41)).cell? ⟨wr.heap.size, 0, none⟩ = some (.int .u64 o.fc) := by rw [cell_of_block ((Below.heap_alloc _ _ _ (lt_of_heap H5.out.2.2)).trans H5.out.2.2)]; rfl
                have i1 : (w5.alloc (.cells #[.int .u64 o.c, .int .u64 o.k, .int .u64 (endO o)] 41)).cell? ⟨wr.heap.size, 1, none⟩ = some (.int .u64 o.fk) := by rw [cell_of_block ((Below.heap_alloc _ _ _ (lt_of_heap H5.out.2.2)).trans H5.out.2.2)]; rfl
                have r0 : w5.cell? ⟨R, 0, none⟩ = some (.int .u64 o.c) := by rw [cell_of_block H5.out.2.1]; rfl
                have r1 : w5.cell? ⟨R, 1, none⟩ = some (.int .u64 o.k) := by rw [cell_of_block H5.out.2.1]; rfl
                have r2 : w5.cell? ⟨R, 2, none⟩ = some (.int .u64 (endO o)) := by rw [cell_of_block H5.out.2.1]; rfl
                go_wp2_with fail
                refine (HH1.out _).mono ?_
                rintro e w6 ⟨rfl, t⟩
                have H6 : Hid (Touch (fun _ => False) w w6 ∧ w6.heap[R]? = some (rgO (rgOf o))) := ⟨H5.out.1.trans t, (t.block R (lt_of_heap H5.out.2.1) id).trans H5.out.2.1⟩
                clear t i0 i1 r0 r1 r2
                cases hh
                · go_wp2_with fail
                  go_roundw
                  case rel => exact ⟨3, by go_num, by omega, by omega, ⟨by have := HQ.out.1; simp [namesL] at this ⊢; simp [this, HP1.out], H6.out⟩⟩
                  case measure => simp [intOf]
                · go_wp2_with fail
                  go_ret
                  exact ⟨by rw [HG.out]; simp [namesL, HP1.out], H6.out.1⟩
            · go_wp2_with fail
              go_roundw
              case rel => exact ⟨3, by go_num, by omega, by omega, ⟨by have := HQ.out.1; simp [namesL] at this ⊢; simp [this, HP1.out], HQ.out.2.1.alloc _, (Below.heap_alloc _ _ _ (lt_of_heap HQ.out.2.2)).trans HQ.out.2.2⟩⟩
              case measure => simp [intOf]
        · have hI := idx3 o
          obtain ⟨z1, f1⟩ : ∃ z, (o.tc == 0) = z := ⟨_, rfl⟩
          obtain ⟨z2, f2⟩ : ∃ z, (o.tk == 0) = z := ⟨_, rfl⟩
          have HPi := HP.out o.tc o.tk
          have HRi := HRt.out o.tc o.tk
          have HHi := HH.out o.tc o.tk
          rw [f1, f2] at HPi
          generalize (numOk o.tc && numOk o.tk) = r at *
          generalize hasB [rgOf o] o.tc o.tk = hh at *
          have HP1 : Hid (P (o.tc, o.tk) = ((z1 && z2) || (r && !hh))) := HPi
          have HR1 : Hid (∀ W, Calls Tryz.prog 66 #[idV o.tc o.tk] W fun e w' => e = .returned (.bool r) ∧ Touch (fun _ => False) W w') := HRi
          have HH1 : Hid (∀ W, Calls Tryz.prog 67 #[.slice (some ⟨W.heap.size, 0, none⟩) 1 1, idV o.tc o.tk] (W.alloc (rgO (rgOf o))) fun e w' => e = .returned (.bool hh) ∧ Touch (fun _ => False) W w') := HHi
          clear HPi HRi HHi HP HRt HH
          cases z1
          · go_wp2_with fail
            refine (HR1.out _).mono ?_
            rintro e w5 ⟨rfl, t⟩
            have H5 : Hid (Touch (fun _ => False) w w5 ∧ w5.heap[R]? = some (rgO (rgOf o)) ∧ w5.heap[wr.heap.size]? = some (idO o.tc o.tk)) := ⟨(HQ.out.2.1.alloc _).trans t, (((((Touch.refl _ _).alloc _).trans t).block R (lt_of_heap HQ.out.2.2) id).trans HQ.out.2.2), (t.block wr.heap.size (by simp) id).trans (heap_alloc_new _ _)⟩
            clear t
            cases r
            · go_wp2_with fail
              go_ret
              exact ⟨by rw [HG.out]; simp [namesL, HP1.out], H5.out.1⟩
            · have i0 : (w5.alloc (.cells #[.int .u64 o.c, .int .u64 o.k, .int .u64 (endO o)] 41)).cell? ⟨wr.heap.size, 0, none⟩ = some (.int .u64 o.tc) := by rw [cell_of_block ((Below.heap_alloc _ _ _ (lt_of_heap H5.out.2.2)).trans H5.out.2.2)]; rfl
              have i1 : (w5.alloc (.cells #[.int .u64 o.c, .int .u64 o.k, .int .u64 (endO o)] 41)).cell? ⟨wr.heap.size, 1, none⟩ = some (.int .u64 o.tk) := by rw [cell_of_block ((Below.heap_alloc _ _ _ (lt_of_heap H5.out.2.2)).trans H5.out.2.2)]; rfl
              have r0 : w5.cell? ⟨R, 0, none⟩ = some (.int .u64 o.c) := by rw [cell_of_block H5.out.2.1]; rfl
              have r1 : w5.cell? ⟨R, 1, none⟩ = some (.int .u64 o.k) := by rw [cell_of_block H5.out.2.1]; rfl
              have r2 : w5.cell? ⟨R, 2, none⟩ = some (.int .u64 (endO o)) := by rw [cell_of_block H5.out.2.1]; rfl
              go_wp2_with fail
              refine (HH1.out _).mono ?_
              rintro e w6 ⟨rfl, t⟩
              have H6 : Hid (Touch (fun _ => False) w w6 ∧ w6.heap[R]? = some (rgO (rgOf o))) := ⟨H5.out.1.trans t, (t.block R (lt_of_heap H5.out.2.1) id).trans H5.out.2.1⟩
              clear t i0 i1 r0 r1 r2
              cases hh
              · go_wp2_with fail
                go_roundw
                case rel => exact ⟨4, by go_num, by omega, by omega, ⟨by have := HQ.out.1; simp [namesL] at this ⊢; simp [this, HP1.out], H6.out⟩⟩
                case measure => simp [intOf]
              · go_wp2_with fail
                go_ret
                exact ⟨by rw [HG.out]; simp [namesL, HP1.out], H6.out.1⟩
          · cases z2
            · go_wp2_with fail
              refine (HR1.out _).mono ?_
              rintro e w5 ⟨rfl, t⟩
              have H5 : Hid (Touch (fun _ => False) w w5 ∧ w5.heap[R]? = some (rgO (rgOf o)) ∧ w5.heap[wr.heap.size]? = some (idO o.tc o.tk)) := ⟨(HQ.out.2.1.alloc _).trans t, (((((Touch.refl _ _).alloc _).trans t).block R (lt_of_heap HQ.out.2.2) id).trans HQ.out.2.2), (t.block wr.heap.size (by simp) id).trans (heap_alloc_new _ _)⟩
              clear t
              cases r
              · go_wp2_with fail
                go_ret
                exact ⟨by rw [HG.out]; simp [namesL, HP1.out], H5.out.1⟩
              · have i0 : (w5.alloc (.cells #[.int .u64 o.c, .int .u64 o.k, .int .u64 (endO o)] 41)).cell? ⟨wr.heap.size, 0, none⟩ = some (.int .u64 o.tc) := by rw [cell_of_block ((Below.heap_alloc _ _ _ (lt_of_heap H5.out.2.2)).trans H5.out.2.2)]; rfl
                have i1 : (w5.alloc (.cells #[.int .u64 o.c, .int .u64 o.k, .int .u64 (endO o)] 41)).cell? ⟨wr.heap.size, 1, none⟩ = some (.int .u64 o.tk) := by rw [cell_of_block ((Below.heap_alloc _ _ _ (lt_of_heap H5.out.2.2)).trans H5.out.2.2)]; rfl
                have r0 : w5.cell? ⟨R, 0, none⟩ = some (.int .u64 o.c) := by rw [cell_of_block H5.out.2.1]; rfl
                have r1 : w5.cell? ⟨R, 1, none⟩ = some (.int .u64 o.k) := by rw [cell_of_block H5.out.2.1]; rfl
                have r2 : w5.cell? ⟨R, 2, none⟩ = some (.int .u64 (endO o)) := by rw [cell_of_block H5.out.2.1]; rfl
                go_wp2_with fail
                refine (HH1.out _).mono ?_
                rintro e w6 ⟨rfl, t⟩
                have H6 : Hid (Touch (fun _ => False) w w6 ∧ w6.heap[R]? = some (rgO (rgOf o))) := ⟨H5.out.1.trans t, (t.block R (lt_of_heap H5.out.2.1) id).trans H5.out.2.1⟩
                clear t i0 i1 r0 r1 r2
                cases hh
                · go_wp2_with fail
                  go_roundw
                  case rel => exact ⟨4, by go_num, by omega, by omega, ⟨by have := HQ.out.1; simp [namesL] at this ⊢; simp [this, HP1.out], H6.out⟩⟩
                  case measure => simp [intOf]
                · go_wp2_with fail
                  go_ret
                  exact ⟨by rw [HG.out]; simp [namesL, HP1.out], H6.out.1⟩
            · go_wp2_with fail
              go_roundw
              case rel => exact ⟨4, by go_num, by omega, by omega, ⟨by have := HQ.out.1; simp [namesL] at this ⊢; simp [this, HP1.out], HQ.out.2.1.alloc _, (Below.heap_alloc _ _ _ (lt_of_heap HQ.out.2.2)).trans HQ.out.2.2⟩⟩
              case measure => simp [intOf]
        · have hI := idx4 o
          obtain ⟨z1, f1⟩ : ∃ z, (o.pc == 0) = z := ⟨_, rfl⟩
          obtain ⟨z2, f2⟩ : ∃ z, (o.pk == 0) = z := ⟨_, rfl⟩
          have HPi := HP.out o.pc o.pk
          have HRi := HRt.out o.pc o.pk
          have HHi := HH.out o.pc o.pk
          rw [f1, f2] at HPi
          generalize (numOk o.pc && numOk o.pk) = r at *
          generalize hasB [rgOf o] o.pc o.pk = hh at *
          have HP1 : Hid (P (o.pc, o.pk) = ((z1 && z2) || (r && !hh))) := HPi
          have HR1 : Hid (∀ W, Calls Tryz.prog 66 #[idV o.pc o.pk] W fun e w' => e = .returned (.bool r) ∧ Touch (fun _ => False) W w') := HRi
          have HH1 : Hid (∀ W, Calls Tryz.prog 67 #[.slice (some ⟨W.heap.size, 0, none⟩) 1 1, idV o.pc o.pk] (W.alloc (rgO (rgOf o))) fun e w' => e = .returned (.bool hh) ∧ Touch (fun _ => False) W w') := HHi
          clear HPi HRi HHi HP HRt HH
          cases z1
          · go_wp2_with fail
            refine (HR1.out _).mono ?_
            rintro e w5 ⟨rfl, t⟩
            have H5 : Hid (Touch (fun _ => False) w w5 ∧ w5.heap[R]? = some (rgO (rgOf o)) ∧ w5.heap[wr.heap.size]? = some (idO o.pc o.pk)) := ⟨(HQ.out.2.1.alloc _).trans t, (((((Touch.refl _ _).alloc _).trans t).block R (lt_of_heap HQ.out.2.2) id).trans HQ.out.2.2), (t.block wr.heap.size (by simp) id).trans (heap_alloc_new _ _)⟩
            clear t
            cases r
            · go_wp2_with fail
              go_ret
              exact ⟨by rw [HG.out]; simp [namesL, HP1.out], H5.out.1⟩
            · have i0 : (w5.alloc (.cells #[.int .u64 o.c, .int .u64 o.k, .int .u64 (endO o)] 41)).cell? ⟨wr.heap.size, 0, none⟩ = some (.int .u64 o.pc) := by rw [cell_of_block ((Below.heap_alloc _ _ _ (lt_of_heap H5.out.2.2)).trans H5.out.2.2)]; rfl
              have i1 : (w5.alloc (.cells #[.int .u64 o.c, .int .u64 o.k, .int .u64 (endO o)] 41)).cell? ⟨wr.heap.size, 1, none⟩ = some (.int .u64 o.pk) := by rw [cell_of_block ((Below.heap_alloc _ _ _ (lt_of_heap H5.out.2.2)).trans H5.out.2.2)]; rfl
              have r0 : w5.cell? ⟨R, 0, none⟩ = some (.int .u64 o.c) := by rw [cell_of_block H5.out.2.1]; rfl
              have r1 : w5.cell? ⟨R, 1, none⟩ = some (.int .u64 o.k) := by rw [cell_of_block H5.out.2.1]; rfl
              have r2 : w5.cell? ⟨R, 2, none⟩ = some (.int .u64 (endO o)) := by rw [cell_of_block H5.out.2.1]; rfl
              go_wp2_with fail
              refine (HH1.out _).mono ?_
              rintro e w6 ⟨rfl, t⟩
              have H6 : Hid (Touch (fun _ => False) w w6 ∧ w6.heap[R]? = some (rgO (rgOf o))) := ⟨H5.out.1.trans t, (t.block R (lt_of_heap H5.out.2.1) id).trans H5.out.2.1⟩
              clear t i0 i1 r0 r1 r2
              cases hh
              · go_wp2_with fail
                go_roundw
                case rel => exact ⟨5, by go_num, by omega, by omega, ⟨by have := HQ.out.1; simp [namesL] at this ⊢; simp [this, HP1.out], H6.out⟩⟩
                case measure => simp [intOf]
              · go_wp2_with fail
                go_ret
                exact ⟨by rw [HG.out]; simp [namesL, HP1.out], H6.out.1⟩
          · cases z2
            · go_wp2_with fail
              refine (HR1.out _).mono ?_
              rintro e w5 ⟨rfl, t⟩
              have H5 : Hid (Touch (fun _ => False) w w5 ∧ w5.heap[R]? = some (rgO (rgOf o)) ∧ w5.heap[wr.heap.size]? = some (idO o.pc o.pk)) := ⟨(HQ.out.2.1.alloc _).trans t, (((((Touch.refl _ _).alloc _).trans t).block R (lt_of_heap HQ.out.2.2) id).trans HQ.out.2.2), (t.block wr.heap.size (by simp) id).trans (heap_alloc_new _ _)⟩
              clear t
              cases r
              · go_wp2_with fail
                go_ret
                exact ⟨by rw [HG.out]; simp [namesL, HP1.out], H5.out.1⟩
              · have i0 : (w5.alloc (.cells #[.int .u64 o.c, .int .u64 o.k, .int .u64 (endO o)] 41)).cell? ⟨wr.heap.size, 0, none⟩ = some (.int .u64 o.pc) := by rw [cell_of_block ((Below.heap_alloc _ _ _ (lt_of_heap H5.out.2.2)).trans H5.out.2.2)]; rfl
                have i1 : (w5.alloc (.cells #[.int .u64 o.c, .int .u64 o.k, .int .u64 (endO o)] 41)).cell? ⟨wr.heap.size, 1, none⟩ = some (.int .u64 o.pk) := by rw [cell_of_block ((Below.heap_alloc _ _ _ (lt_of_heap H5.out.2.2)).trans H5.out.2.2)]; rfl
                have r0 : w5.cell? ⟨R, 0, none⟩ = some (.int .u64 o.c) := by rw [cell_of_block H5.out.2.1]; rfl
                have r1 : w5.cell? ⟨R, 1, none⟩ = some (.int .u64 o.k) := by rw [cell_of_block H5.out.2.1]; rfl
                have r2 : w5.cell? ⟨R, 2, none⟩ = some (.int .u64 (endO o)) := by rw [cell_of_block H5.out.2.1]; rfl
                go_wp2_with fail
                refine (HH1.out _).mono ?_
                rintro e w6 ⟨rfl, t⟩
                have H6 : Hid (Touch (fun _ => False) w w6 ∧ w6.heap[R]? = some (rgO (rgOf o))) := ⟨H5.out.1.trans t, (t.block R (lt_of_heap H5.out.2.1) id).trans H5.out.2.1⟩
                clear t i0 i1 r0 r1 r2
                cases hh
                · go_wp2_with fail
                  go_roundw
                  case rel => exact ⟨5, by go_num, by omega, by omega, ⟨by have := HQ.out.1; simp [namesL] at this ⊢; simp [this, HP1.out], H6.out⟩⟩
                  case measure => simp [intOf]
                · go_wp2_with fail
                  go_ret
                  exact ⟨by rw [HG.out]; simp [namesL, HP1.out], H6.out.1⟩
            · go_wp2_with fail
              go_roundw
              case rel => exact ⟨5, by go_num, by omega, by omega, ⟨by have := HQ.out.1; simp [namesL] at this ⊢; simp [this, HP1.out], HQ.out.2.1.alloc _, (Below.heap_alloc _ _ _ (lt_of_heap HQ.out.2.2)).trans HQ.out.2.2⟩⟩
              case measure => simp [intOf]
        · go_wp2_with fail
          go_ret
          exact ⟨by have := HQ.out.1; rw [HG.out]; simp [namesL] at this ⊢; simp [this], HQ.out.2.1⟩
    · go_wp2_with fail
      go_ret
      exact ⟨by rw [HG.out]; simp, HA3.out.2.1⟩
end Go.Proofs.YtphcnjbiojdalaaGreatDoor
