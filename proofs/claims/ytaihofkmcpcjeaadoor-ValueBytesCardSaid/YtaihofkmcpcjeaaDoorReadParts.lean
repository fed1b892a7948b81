/- The contract of value's readParts, on bytes that Write wrote. -/
import Derived.Test.YtaihofkmcpcjeaaDoorRoundTrip
import Derived.Test.YtaihofkmcpcjeaaDoorTextLaws2
import Derived.Test.YtaihofkmcpcjeaaDoorPart4
namespace Go.Proofs.YtaihofkmcpcjeaaDoor
open Go.RowKit
set_option linter.unusedVariables false
set_option linter.unusedSimpArgs false
set_option maxRecDepth 100000

/-- Four cells laid anew. -/
theorem put4 {w : World} {R : Nat} {x0 x1 x2 x3 : Value} {t : TypeId} (a0 a1 a2 a3 : Value) (h : w.heap[R]? = some (.cells #[x0, x1, x2, x3] t (0, 0))) :
    ((((w.setCell ⟨R, 0, none⟩ a0).setCell ⟨R, 1, none⟩ a1).setCell ⟨R, 2, none⟩ a2).setCell ⟨R, 3, none⟩ a3).heap[R]? = some (.cells #[a0, a1, a2, a3] t (0, 0)) := by
  have h0 := heap_setCell_same w R 0 a0 h
  have h1 := heap_setCell_same _ R 1 a1 h0
  have h2 := heap_setCell_same _ R 2 a2 h1
  have h3 := heap_setCell_same _ R 3 a3 h2
  rw [h3]; rfl
theorem touch4 (w : World) (R : Nat) (a0 a1 a2 a3 : Value) : Touch (· = R) w ((((w.setCell ⟨R, 0, none⟩ a0).setCell ⟨R, 1, none⟩ a1).setCell ⟨R, 2, none⟩ a2).setCell ⟨R, 3, none⟩ a3) := by
  have t0 : Touch (· = R) w (w.setCell ⟨R, 0, none⟩ a0) := (Touch.refl _ w).setCell ⟨R, 0, none⟩ a0 (fun _ => rfl)
  have t1 := t0.setCell ⟨R, 1, none⟩ a1 (fun _ => rfl)
  have t2 := t1.setCell ⟨R, 2, none⟩ a2 (fun _ => rfl)
  exact t2.setCell ⟨R, 3, none⟩ a3 (fun _ => rfl)
theorem touch4_new {S : Nat → Prop} {v w : World} (h : Touch S v w) (R : Nat) (hR : v.heap.size ≤ R) (a0 a1 a2 a3 : Value) : Touch S v ((((w.setCell ⟨R, 0, none⟩ a0).setCell ⟨R, 1, none⟩ a1).setCell ⟨R, 2, none⟩ a2).setCell ⟨R, 3, none⟩ a3) :=
  h.then (touch4 w R a0 a1 a2 a3) (fun k hk e => by omega)

set_option maxHeartbeats 1000000 in
theorem parts_null (p g : Nat) (more : List UInt8) (w : World) (h : Rd w p g (0 :: (more)) 0) :
    Calls Tryd.prog 58 #[.pointer (some ⟨p, 0, none⟩)] w fun e w' => e = .returned (.agg #[.int .i64 0, .int .i64 0, .float .f64 0, .string ⟨#[]⟩]) ∧ Rd w' p g more 0 ∧ Touch (· = p) w w' := by
  have hp := h.lt
  have hg := h.ltBytes
  have HR0 : Hid (Rd (w.alloc (.cells #[.int .i64 0, .int .i64 0, .float .f64 0, .string ⟨#[]⟩] 24)) p g (0 :: (more)) 0) := h.alloc _
  clear h
  have hst := run_store_f64 Tryd.prog
  go_enter Tryd.func58, Tryd.ntmps58
  go_wp2_with fail
  refine (byte_any p g _ 0 _ HR0.out).mono ?_
  rw [rdByte_put]
  rintro e w1 ⟨rfl, hR1, hT1⟩
  have hz := hT1.size
  have hb1 : w1.heap[w.heap.size]? = some (.cells #[.int .i64 0, .int .i64 0, .float .f64 0, .string ⟨#[]⟩] 24) := (hT1.block _ (by simp) (by omega)).trans (heap_alloc_new _ _)
  have hlt1 := lt_of_heap hb1
  have HR1 : Hid (Rd w1 p g (more) 0) := hR1
  have HB1 : Hid (w1.heap[w.heap.size]? = some (.cells #[.int .i64 0, .int .i64 0, .float .f64 0, .string ⟨#[]⟩] 24)) := hb1
  have HT1 : Hid (Touch (· = p) w w1) := (((Touch.refl _ w).alloc _)).then hT1 (fun _ _ h => h)
  clear hR1 hT1 hb1 HR0 hz
  have hB : (w1.alloc (.cells #[.int .i64 0, .int .i64 0, .float .f64 0, .string ⟨#[]⟩] 24)).heap[w.heap.size]? = some (.cells #[.int .i64 0, .int .i64 0, .float .f64 0, .string ⟨#[]⟩] 24) := (Below.heap_alloc _ _ _ hlt1).trans HB1.out
  have r0 : (w1.alloc (.cells #[.int .i64 0, .int .i64 0, .float .f64 0, .string ⟨#[]⟩] 24)).cell? ⟨w.heap.size, 0, none⟩ = some (.int .i64 0) := by rw [cell_of_block hB]; rfl
  have r1 : (w1.alloc (.cells #[.int .i64 0, .int .i64 0, .float .f64 0, .string ⟨#[]⟩] 24)).cell? ⟨w.heap.size, 1, none⟩ = some (.int .i64 0) := by rw [cell_of_block hB]; rfl
  have r2 : (w1.alloc (.cells #[.int .i64 0, .int .i64 0, .float .f64 0, .string ⟨#[]⟩] 24)).cell? ⟨w.heap.size, 2, none⟩ = some (.float .f64 0) := by rw [cell_of_block hB]; rfl
  have r3 : (w1.alloc (.cells #[.int .i64 0, .int .i64 0, .float .f64 0, .string ⟨#[]⟩] 24)).cell? ⟨w.heap.size, 3, none⟩ = some (.string ⟨#[]⟩) := by rw [cell_of_block hB]; rfl
  have y0 : (w1.alloc (.cells #[.int .i64 0, .int .i64 0, .float .f64 0, .string ⟨#[]⟩] 24)).frozen? ⟨w.heap.size, 0, none⟩ = false := free_of_block hB
  have y1 : (w1.alloc (.cells #[.int .i64 0, .int .i64 0, .float .f64 0, .string ⟨#[]⟩] 24)).frozen? ⟨w.heap.size, 1, none⟩ = false := free_of_block hB
  have y2 : (w1.alloc (.cells #[.int .i64 0, .int .i64 0, .float .f64 0, .string ⟨#[]⟩] 24)).frozen? ⟨w.heap.size, 2, none⟩ = false := free_of_block hB
  have y3 : (w1.alloc (.cells #[.int .i64 0, .int .i64 0, .float .f64 0, .string ⟨#[]⟩] 24)).frozen? ⟨w.heap.size, 3, none⟩ = false := free_of_block hB
  have HF : Hid (((((((w1.alloc (.cells #[.int .i64 0, .int .i64 0, .float .f64 0, .string ⟨#[]⟩] 24))).setCell ⟨w.heap.size, 0, none⟩ (.int .i64 0)).setCell ⟨w.heap.size, 1, none⟩ (.int .i64 0)).setCell ⟨w.heap.size, 2, none⟩ (.float .f64 0)).setCell ⟨w.heap.size, 3, none⟩ (.string ⟨#[]⟩)).heap[w.heap.size]? = some (.cells #[.int .i64 0, .int .i64 0, .float .f64 0, .string ⟨#[]⟩] 24 (0, 0))) := put4 _ _ _ _ hB
  have HT : Hid (Touch (· = p) w ((((((w1.alloc (.cells #[.int .i64 0, .int .i64 0, .float .f64 0, .string ⟨#[]⟩] 24))).setCell ⟨w.heap.size, 0, none⟩ (.int .i64 0)).setCell ⟨w.heap.size, 1, none⟩ (.int .i64 0)).setCell ⟨w.heap.size, 2, none⟩ (.float .f64 0)).setCell ⟨w.heap.size, 3, none⟩ (.string ⟨#[]⟩))) :=
    touch4_new (HT1.out.alloc _) _ (Nat.le_refl _) _ _ _ _
  have HR : Hid (Rd ((((((w1.alloc (.cells #[.int .i64 0, .int .i64 0, .float .f64 0, .string ⟨#[]⟩] 24))).setCell ⟨w.heap.size, 0, none⟩ (.int .i64 0)).setCell ⟨w.heap.size, 1, none⟩ (.int .i64 0)).setCell ⟨w.heap.size, 2, none⟩ (.float .f64 0)).setCell ⟨w.heap.size, 3, none⟩ (.string ⟨#[]⟩)) p g more 0) :=
    (HR1.out.alloc (.cells #[.int .i64 0, .int .i64 0, .float .f64 0, .string ⟨#[]⟩] 24)).keep (touch4 _ _ _ _ _ _) (by omega) (fun _ => by omega)
  clear hB hp hg hlt1 HR1 HB1 HT1
  go_wp2_with fail
  have f0 := cell_of_block (i := 0) HF.out
  have f1 := cell_of_block (i := 1) HF.out
  have f2 := cell_of_block (i := 2) HF.out
  have f3 := cell_of_block (i := 3) HF.out
  refine bodyPost_ret (v := .agg #[.int .i64 0, .int .i64 0, .float .f64 0, .string ⟨#[]⟩]) ?_ rfl ⟨rfl, HR.out, HT.out⟩
  simp [results, Tryd.results58, go_sem, f0, f1, f2, f3]

set_option maxHeartbeats 1000000 in
theorem parts_map (p g : Nat) (more : List UInt8) (w : World) (h : Rd w p g (5 :: (more)) 0) :
    Calls Tryd.prog 58 #[.pointer (some ⟨p, 0, none⟩)] w fun e w' => e = .returned (.agg #[.int .i64 5, .int .i64 0, .float .f64 0, .string ⟨#[]⟩]) ∧ Rd w' p g more 0 ∧ Touch (· = p) w w' := by
  have hp := h.lt
  have hg := h.ltBytes
  have HR0 : Hid (Rd (w.alloc (.cells #[.int .i64 0, .int .i64 0, .float .f64 0, .string ⟨#[]⟩] 24)) p g (5 :: (more)) 0) := h.alloc _
  clear h
  have hst := run_store_f64 Tryd.prog
  go_enter Tryd.func58, Tryd.ntmps58
  go_wp2_with fail
  refine (byte_any p g _ 0 _ HR0.out).mono ?_
  rw [rdByte_put]
  rintro e w1 ⟨rfl, hR1, hT1⟩
  have hz := hT1.size
  have hb1 : w1.heap[w.heap.size]? = some (.cells #[.int .i64 0, .int .i64 0, .float .f64 0, .string ⟨#[]⟩] 24) := (hT1.block _ (by simp) (by omega)).trans (heap_alloc_new _ _)
  have hlt1 := lt_of_heap hb1
  have HR1 : Hid (Rd w1 p g (more) 0) := hR1
  have HB1 : Hid (w1.heap[w.heap.size]? = some (.cells #[.int .i64 0, .int .i64 0, .float .f64 0, .string ⟨#[]⟩] 24)) := hb1
  have HT1 : Hid (Touch (· = p) w w1) := (((Touch.refl _ w).alloc _)).then hT1 (fun _ _ h => h)
  clear hR1 hT1 hb1 HR0 hz
  have hB : (w1.alloc (.cells #[.int .i64 5, .int .i64 0, .float .f64 0, .string ⟨#[]⟩] 24)).heap[w.heap.size]? = some (.cells #[.int .i64 0, .int .i64 0, .float .f64 0, .string ⟨#[]⟩] 24) := (Below.heap_alloc _ _ _ hlt1).trans HB1.out
  have r0 : (w1.alloc (.cells #[.int .i64 5, .int .i64 0, .float .f64 0, .string ⟨#[]⟩] 24)).cell? ⟨w.heap.size, 0, none⟩ = some (.int .i64 0) := by rw [cell_of_block hB]; rfl
  have r1 : (w1.alloc (.cells #[.int .i64 5, .int .i64 0, .float .f64 0, .string ⟨#[]⟩] 24)).cell? ⟨w.heap.size, 1, none⟩ = some (.int .i64 0) := by rw [cell_of_block hB]; rfl
  have r2 : (w1.alloc (.cells #[.int .i64 5, .int .i64 0, .float .f64 0, .string ⟨#[]⟩] 24)).cell? ⟨w.heap.size, 2, none⟩ = some (.float .f64 0) := by rw [cell_of_block hB]; rfl
  have r3 : (w1.alloc (.cells #[.int .i64 5, .int .i64 0, .float .f64 0, .string ⟨#[]⟩] 24)).cell? ⟨w.heap.size, 3, none⟩ = some (.string ⟨#[]⟩) := by rw [cell_of_block hB]; rfl
  have y0 : (w1.alloc (.cells #[.int .i64 5, .int .i64 0, .float .f64 0, .string ⟨#[]⟩] 24)).frozen? ⟨w.heap.size, 0, none⟩ = false := free_of_block hB
  have y1 : (w1.alloc (.cells #[.int .i64 5, .int .i64 0, .float .f64 0, .string ⟨#[]⟩] 24)).frozen? ⟨w.heap.size, 1, none⟩ = false := free_of_block hB
  have y2 : (w1.alloc (.cells #[.int .i64 5, .int .i64 0, .float .f64 0, .string ⟨#[]⟩] 24)).frozen? ⟨w.heap.size, 2, none⟩ = false := free_of_block hB
  have y3 : (w1.alloc (.cells #[.int .i64 5, .int .i64 0, .float .f64 0, .string ⟨#[]⟩] 24)).frozen? ⟨w.heap.size, 3, none⟩ = false := free_of_block hB
  have HF : Hid (((((((w1.alloc (.cells #[.int .i64 5, .int .i64 0, .float .f64 0, .string ⟨#[]⟩] 24))).setCell ⟨w.heap.size, 0, none⟩ (.int .i64 5)).setCell ⟨w.heap.size, 1, none⟩ (.int .i64 0)).setCell ⟨w.heap.size, 2, none⟩ (.float .f64 0)).setCell ⟨w.heap.size, 3, none⟩ (.string ⟨#[]⟩)).heap[w.heap.size]? = some (.cells #[.int .i64 5, .int .i64 0, .float .f64 0, .string ⟨#[]⟩] 24 (0, 0))) := put4 _ _ _ _ hB
  have HT : Hid (Touch (· = p) w ((((((w1.alloc (.cells #[.int .i64 5, .int .i64 0, .float .f64 0, .string ⟨#[]⟩] 24))).setCell ⟨w.heap.size, 0, none⟩ (.int .i64 5)).setCell ⟨w.heap.size, 1, none⟩ (.int .i64 0)).setCell ⟨w.heap.size, 2, none⟩ (.float .f64 0)).setCell ⟨w.heap.size, 3, none⟩ (.string ⟨#[]⟩))) :=
    touch4_new (HT1.out.alloc _) _ (Nat.le_refl _) _ _ _ _
  have HR : Hid (Rd ((((((w1.alloc (.cells #[.int .i64 5, .int .i64 0, .float .f64 0, .string ⟨#[]⟩] 24))).setCell ⟨w.heap.size, 0, none⟩ (.int .i64 5)).setCell ⟨w.heap.size, 1, none⟩ (.int .i64 0)).setCell ⟨w.heap.size, 2, none⟩ (.float .f64 0)).setCell ⟨w.heap.size, 3, none⟩ (.string ⟨#[]⟩)) p g more 0) :=
    (HR1.out.alloc (.cells #[.int .i64 5, .int .i64 0, .float .f64 0, .string ⟨#[]⟩] 24)).keep (touch4 _ _ _ _ _ _) (by omega) (fun _ => by omega)
  clear hB hp hg hlt1 HR1 HB1 HT1
  go_wp2_with fail
  have f0 := cell_of_block (i := 0) HF.out
  have f1 := cell_of_block (i := 1) HF.out
  have f2 := cell_of_block (i := 2) HF.out
  have f3 := cell_of_block (i := 3) HF.out
  refine bodyPost_ret (v := .agg #[.int .i64 5, .int .i64 0, .float .f64 0, .string ⟨#[]⟩]) ?_ rfl ⟨rfl, HR.out, HT.out⟩
  simp [results, Tryd.results58, go_sem, f0, f1, f2, f3]

set_option maxHeartbeats 1000000 in
theorem parts_false (p g : Nat) (more : List UInt8) (w : World) (h : Rd w p g (1 :: (0 :: more)) 0) :
    Calls Tryd.prog 58 #[.pointer (some ⟨p, 0, none⟩)] w fun e w' => e = .returned (.agg #[.int .i64 1, .int .i64 0, .float .f64 0, .string ⟨#[]⟩]) ∧ Rd w' p g more 0 ∧ Touch (· = p) w w' := by
  have hp := h.lt
  have hg := h.ltBytes
  have HR0 : Hid (Rd (w.alloc (.cells #[.int .i64 0, .int .i64 0, .float .f64 0, .string ⟨#[]⟩] 24)) p g (1 :: (0 :: more)) 0) := h.alloc _
  clear h
  have hst := run_store_f64 Tryd.prog
  go_enter Tryd.func58, Tryd.ntmps58
  go_wp2_with fail
  refine (byte_any p g _ 0 _ HR0.out).mono ?_
  rw [rdByte_put]
  rintro e w1 ⟨rfl, hR1, hT1⟩
  have hz := hT1.size
  have hb1 : w1.heap[w.heap.size]? = some (.cells #[.int .i64 0, .int .i64 0, .float .f64 0, .string ⟨#[]⟩] 24) := (hT1.block _ (by simp) (by omega)).trans (heap_alloc_new _ _)
  have hlt1 := lt_of_heap hb1
  have HR1 : Hid (Rd w1 p g (0 :: more) 0) := hR1
  have HB1 : Hid (w1.heap[w.heap.size]? = some (.cells #[.int .i64 0, .int .i64 0, .float .f64 0, .string ⟨#[]⟩] 24)) := hb1
  have HT1 : Hid (Touch (· = p) w w1) := (((Touch.refl _ w).alloc _)).then hT1 (fun _ _ h => h)
  clear hR1 hT1 hb1 HR0 hz
  have HPG : Hid (p < w.heap.size ∧ g < w.heap.size ∧ w.heap.size < w1.heap.size) := ⟨hp, hg, hlt1⟩
  clear hp hg hlt1
  go_wp2_with fail
  refine (byte_any p g _ 0 _ (HR1.out.alloc _)).mono ?_
  rw [rdByte_put]
  rintro e w2 ⟨rfl, hR2, hT2⟩
  obtain ⟨hp, hg, hlt1⟩ := HPG.out
  clear HPG
  have hz2 := hT2.size
  have hb2 : w2.heap[w.heap.size]? = some (.cells #[.int .i64 0, .int .i64 0, .float .f64 0, .string ⟨#[]⟩] 24) := (hT2.block _ (by simp; omega) (by omega)).trans ((Below.heap_alloc _ _ _ hlt1).trans HB1.out)
  have hl2 : w2.heap[w1.heap.size]? = some (.cells #[.int .i64 1, .int .i64 0, .float .f64 0, .string ⟨#[]⟩] 24) := (hT2.block _ (by simp) (by omega)).trans (heap_alloc_new _ _)
  have hne : w1.heap.size ≠ w.heap.size := by omega
  have m0 : w2.cell? ⟨w1.heap.size, 0, none⟩ = some (.int .i64 1) := by rw [cell_of_block hl2]; rfl
  have m1 : w2.cell? ⟨w1.heap.size, 1, none⟩ = some (.int .i64 0) := by rw [cell_of_block hl2]; rfl
  have m2 : w2.cell? ⟨w1.heap.size, 2, none⟩ = some (.float .f64 0) := by rw [cell_of_block hl2]; rfl
  have m3 : w2.cell? ⟨w1.heap.size, 3, none⟩ = some (.string ⟨#[]⟩) := by rw [cell_of_block hl2]; rfl
  have zm : w2.frozen? ⟨w1.heap.size, 1, none⟩ = false := free_of_block hl2
  have hl3 : (w2.setCell ⟨w1.heap.size, 1, none⟩ (.int .i64 0)).heap[w1.heap.size]? = some (.cells #[.int .i64 1, .int .i64 0, .float .f64 0, .string ⟨#[]⟩] 24) := by rw [heap_setCell_same _ _ _ _ hl2]; rfl
  have q0 : (w2.setCell ⟨w1.heap.size, 1, none⟩ (.int .i64 0)).cell? ⟨w1.heap.size, 0, none⟩ = some (.int .i64 1) := by rw [cell_of_block hl3]; rfl
  have q1 : (w2.setCell ⟨w1.heap.size, 1, none⟩ (.int .i64 0)).cell? ⟨w1.heap.size, 1, none⟩ = some (.int .i64 0) := by rw [cell_of_block hl3]; rfl
  have q2 : (w2.setCell ⟨w1.heap.size, 1, none⟩ (.int .i64 0)).cell? ⟨w1.heap.size, 2, none⟩ = some (.float .f64 0) := by rw [cell_of_block hl3]; rfl
  have q3 : (w2.setCell ⟨w1.heap.size, 1, none⟩ (.int .i64 0)).cell? ⟨w1.heap.size, 3, none⟩ = some (.string ⟨#[]⟩) := by rw [cell_of_block hl3]; rfl
  have hB : (w2.setCell ⟨w1.heap.size, 1, none⟩ (.int .i64 0)).heap[w.heap.size]? = some (.cells #[.int .i64 0, .int .i64 0, .float .f64 0, .string ⟨#[]⟩] 24) := (heap_setCell_other _ _ _ _ hne).trans hb2
  have hT3 : Touch (· = p) w (w2.setCell ⟨w1.heap.size, 1, none⟩ (.int .i64 0)) := ((HT1.out.alloc _).then hT2 (fun _ _ h => h)).setCell _ _ (fun h => absurd h (by simp only; omega))
  have hR3 : Rd (w2.setCell ⟨w1.heap.size, 1, none⟩ (.int .i64 0)) p g more 0 := hR2.keep (S := (· = w1.heap.size)) ((Touch.refl _ _).setCell _ _ (fun _ => rfl)) (by omega) (fun _ => by omega)
  have r0 : (w2.setCell ⟨w1.heap.size, 1, none⟩ (.int .i64 0)).cell? ⟨w.heap.size, 0, none⟩ = some (.int .i64 0) := by rw [cell_of_block hB]; rfl
  have r1 : (w2.setCell ⟨w1.heap.size, 1, none⟩ (.int .i64 0)).cell? ⟨w.heap.size, 1, none⟩ = some (.int .i64 0) := by rw [cell_of_block hB]; rfl
  have r2 : (w2.setCell ⟨w1.heap.size, 1, none⟩ (.int .i64 0)).cell? ⟨w.heap.size, 2, none⟩ = some (.float .f64 0) := by rw [cell_of_block hB]; rfl
  have r3 : (w2.setCell ⟨w1.heap.size, 1, none⟩ (.int .i64 0)).cell? ⟨w.heap.size, 3, none⟩ = some (.string ⟨#[]⟩) := by rw [cell_of_block hB]; rfl
  have y0 : (w2.setCell ⟨w1.heap.size, 1, none⟩ (.int .i64 0)).frozen? ⟨w.heap.size, 0, none⟩ = false := free_of_block hB
  have y1 : (w2.setCell ⟨w1.heap.size, 1, none⟩ (.int .i64 0)).frozen? ⟨w.heap.size, 1, none⟩ = false := free_of_block hB
  have y2 : (w2.setCell ⟨w1.heap.size, 1, none⟩ (.int .i64 0)).frozen? ⟨w.heap.size, 2, none⟩ = false := free_of_block hB
  have y3 : (w2.setCell ⟨w1.heap.size, 1, none⟩ (.int .i64 0)).frozen? ⟨w.heap.size, 3, none⟩ = false := free_of_block hB
  have HF : Hid (((((((w2.setCell ⟨w1.heap.size, 1, none⟩ (.int .i64 0))).setCell ⟨w.heap.size, 0, none⟩ (.int .i64 1)).setCell ⟨w.heap.size, 1, none⟩ (.int .i64 0)).setCell ⟨w.heap.size, 2, none⟩ (.float .f64 0)).setCell ⟨w.heap.size, 3, none⟩ (.string ⟨#[]⟩)).heap[w.heap.size]? = some (.cells #[.int .i64 1, .int .i64 0, .float .f64 0, .string ⟨#[]⟩] 24 (0, 0))) := put4 _ _ _ _ hB
  have HT : Hid (Touch (· = p) w ((((((w2.setCell ⟨w1.heap.size, 1, none⟩ (.int .i64 0))).setCell ⟨w.heap.size, 0, none⟩ (.int .i64 1)).setCell ⟨w.heap.size, 1, none⟩ (.int .i64 0)).setCell ⟨w.heap.size, 2, none⟩ (.float .f64 0)).setCell ⟨w.heap.size, 3, none⟩ (.string ⟨#[]⟩))) :=
    touch4_new hT3 _ (Nat.le_refl _) _ _ _ _
  have HR : Hid (Rd ((((((w2.setCell ⟨w1.heap.size, 1, none⟩ (.int .i64 0))).setCell ⟨w.heap.size, 0, none⟩ (.int .i64 1)).setCell ⟨w.heap.size, 1, none⟩ (.int .i64 0)).setCell ⟨w.heap.size, 2, none⟩ (.float .f64 0)).setCell ⟨w.heap.size, 3, none⟩ (.string ⟨#[]⟩)) p g more 0) :=
    hR3.keep (touch4 _ _ _ _ _ _) (by omega) (fun _ => by omega)
  clear hB hT3 hR3 hR2 hT2 hb2 hl2 hl3 HR1 HB1 HT1 hz2 hp hg hlt1
  go_wp2_with fail
  have f0 := cell_of_block (i := 0) HF.out
  have f1 := cell_of_block (i := 1) HF.out
  have f2 := cell_of_block (i := 2) HF.out
  have f3 := cell_of_block (i := 3) HF.out
  refine bodyPost_ret (v := .agg #[.int .i64 1, .int .i64 0, .float .f64 0, .string ⟨#[]⟩]) ?_ rfl ⟨rfl, HR.out, HT.out⟩
  simp [results, Tryd.results58, go_sem, f0, f1, f2, f3]

set_option maxHeartbeats 1000000 in
theorem parts_true (p g : Nat) (more : List UInt8) (w : World) (h : Rd w p g (1 :: (1 :: more)) 0) :
    Calls Tryd.prog 58 #[.pointer (some ⟨p, 0, none⟩)] w fun e w' => e = .returned (.agg #[.int .i64 1, .int .i64 1, .float .f64 0, .string ⟨#[]⟩]) ∧ Rd w' p g more 0 ∧ Touch (· = p) w w' := by
  have hp := h.lt
  have hg := h.ltBytes
  have HR0 : Hid (Rd (w.alloc (.cells #[.int .i64 0, .int .i64 0, .float .f64 0, .string ⟨#[]⟩] 24)) p g (1 :: (1 :: more)) 0) := h.alloc _
  clear h
  have hst := run_store_f64 Tryd.prog
  go_enter Tryd.func58, Tryd.ntmps58
  go_wp2_with fail
  refine (byte_any p g _ 0 _ HR0.out).mono ?_
  rw [rdByte_put]
  rintro e w1 ⟨rfl, hR1, hT1⟩
  have hz := hT1.size
  have hb1 : w1.heap[w.heap.size]? = some (.cells #[.int .i64 0, .int .i64 0, .float .f64 0, .string ⟨#[]⟩] 24) := (hT1.block _ (by simp) (by omega)).trans (heap_alloc_new _ _)
  have hlt1 := lt_of_heap hb1
  have HR1 : Hid (Rd w1 p g (1 :: more) 0) := hR1
  have HB1 : Hid (w1.heap[w.heap.size]? = some (.cells #[.int .i64 0, .int .i64 0, .float .f64 0, .string ⟨#[]⟩] 24)) := hb1
  have HT1 : Hid (Touch (· = p) w w1) := (((Touch.refl _ w).alloc _)).then hT1 (fun _ _ h => h)
  clear hR1 hT1 hb1 HR0 hz
  have HPG : Hid (p < w.heap.size ∧ g < w.heap.size ∧ w.heap.size < w1.heap.size) := ⟨hp, hg, hlt1⟩
  clear hp hg hlt1
  go_wp2_with fail
  refine (byte_any p g _ 0 _ (HR1.out.alloc _)).mono ?_
  rw [rdByte_put]
  rintro e w2 ⟨rfl, hR2, hT2⟩
  obtain ⟨hp, hg, hlt1⟩ := HPG.out
  clear HPG
  have hz2 := hT2.size
  have hb2 : w2.heap[w.heap.size]? = some (.cells #[.int .i64 0, .int .i64 0, .float .f64 0, .string ⟨#[]⟩] 24) := (hT2.block _ (by simp; omega) (by omega)).trans ((Below.heap_alloc _ _ _ hlt1).trans HB1.out)
  have hl2 : w2.heap[w1.heap.size]? = some (.cells #[.int .i64 1, .int .i64 0, .float .f64 0, .string ⟨#[]⟩] 24) := (hT2.block _ (by simp) (by omega)).trans (heap_alloc_new _ _)
  have hne : w1.heap.size ≠ w.heap.size := by omega
  have m0 : w2.cell? ⟨w1.heap.size, 0, none⟩ = some (.int .i64 1) := by rw [cell_of_block hl2]; rfl
  have m1 : w2.cell? ⟨w1.heap.size, 1, none⟩ = some (.int .i64 0) := by rw [cell_of_block hl2]; rfl
  have m2 : w2.cell? ⟨w1.heap.size, 2, none⟩ = some (.float .f64 0) := by rw [cell_of_block hl2]; rfl
  have m3 : w2.cell? ⟨w1.heap.size, 3, none⟩ = some (.string ⟨#[]⟩) := by rw [cell_of_block hl2]; rfl
  have zm : w2.frozen? ⟨w1.heap.size, 1, none⟩ = false := free_of_block hl2
  have hl3 : (w2.setCell ⟨w1.heap.size, 1, none⟩ (.int .i64 1)).heap[w1.heap.size]? = some (.cells #[.int .i64 1, .int .i64 1, .float .f64 0, .string ⟨#[]⟩] 24) := by rw [heap_setCell_same _ _ _ _ hl2]; rfl
  have q0 : (w2.setCell ⟨w1.heap.size, 1, none⟩ (.int .i64 1)).cell? ⟨w1.heap.size, 0, none⟩ = some (.int .i64 1) := by rw [cell_of_block hl3]; rfl
  have q1 : (w2.setCell ⟨w1.heap.size, 1, none⟩ (.int .i64 1)).cell? ⟨w1.heap.size, 1, none⟩ = some (.int .i64 1) := by rw [cell_of_block hl3]; rfl
  have q2 : (w2.setCell ⟨w1.heap.size, 1, none⟩ (.int .i64 1)).cell? ⟨w1.heap.size, 2, none⟩ = some (.float .f64 0) := by rw [cell_of_block hl3]; rfl
  have q3 : (w2.setCell ⟨w1.heap.size, 1, none⟩ (.int .i64 1)).cell? ⟨w1.heap.size, 3, none⟩ = some (.string ⟨#[]⟩) := by rw [cell_of_block hl3]; rfl
  have hB : (w2.setCell ⟨w1.heap.size, 1, none⟩ (.int .i64 1)).heap[w.heap.size]? = some (.cells #[.int .i64 0, .int .i64 0, .float .f64 0, .string ⟨#[]⟩] 24) := (heap_setCell_other _ _ _ _ hne).trans hb2
  have hT3 : Touch (· = p) w (w2.setCell ⟨w1.heap.size, 1, none⟩ (.int .i64 1)) := ((HT1.out.alloc _).then hT2 (fun _ _ h => h)).setCell _ _ (fun h => absurd h (by simp only; omega))
  have hR3 : Rd (w2.setCell ⟨w1.heap.size, 1, none⟩ (.int .i64 1)) p g more 0 := hR2.keep (S := (· = w1.heap.size)) ((Touch.refl _ _).setCell _ _ (fun _ => rfl)) (by omega) (fun _ => by omega)
  have r0 : (w2.setCell ⟨w1.heap.size, 1, none⟩ (.int .i64 1)).cell? ⟨w.heap.size, 0, none⟩ = some (.int .i64 0) := by rw [cell_of_block hB]; rfl
  have r1 : (w2.setCell ⟨w1.heap.size, 1, none⟩ (.int .i64 1)).cell? ⟨w.heap.size, 1, none⟩ = some (.int .i64 0) := by rw [cell_of_block hB]; rfl
  have r2 : (w2.setCell ⟨w1.heap.size, 1, none⟩ (.int .i64 1)).cell? ⟨w.heap.size, 2, none⟩ = some (.float .f64 0) := by rw [cell_of_block hB]; rfl
  have r3 : (w2.setCell ⟨w1.heap.size, 1, none⟩ (.int .i64 1)).cell? ⟨w.heap.size, 3, none⟩ = some (.string ⟨#[]⟩) := by rw [cell_of_block hB]; rfl
  have y0 : (w2.setCell ⟨w1.heap.size, 1, none⟩ (.int .i64 1)).frozen? ⟨w.heap.size, 0, none⟩ = false := free_of_block hB
  have y1 : (w2.setCell ⟨w1.heap.size, 1, none⟩ (.int .i64 1)).frozen? ⟨w.heap.size, 1, none⟩ = false := free_of_block hB
  have y2 : (w2.setCell ⟨w1.heap.size, 1, none⟩ (.int .i64 1)).frozen? ⟨w.heap.size, 2, none⟩ = false := free_of_block hB
  have y3 : (w2.setCell ⟨w1.heap.size, 1, none⟩ (.int .i64 1)).frozen? ⟨w.heap.size, 3, none⟩ = false := free_of_block hB
  have HF : Hid (((((((w2.setCell ⟨w1.heap.size, 1, none⟩ (.int .i64 1))).setCell ⟨w.heap.size, 0, none⟩ (.int .i64 1)).setCell ⟨w.heap.size, 1, none⟩ (.int .i64 1)).setCell ⟨w.heap.size, 2, none⟩ (.float .f64 0)).setCell ⟨w.heap.size, 3, none⟩ (.string ⟨#[]⟩)).heap[w.heap.size]? = some (.cells #[.int .i64 1, .int .i64 1, .float .f64 0, .string ⟨#[]⟩] 24 (0, 0))) := put4 _ _ _ _ hB
  have HT : Hid (Touch (· = p) w ((((((w2.setCell ⟨w1.heap.size, 1, none⟩ (.int .i64 1))).setCell ⟨w.heap.size, 0, none⟩ (.int .i64 1)).setCell ⟨w.heap.size, 1, none⟩ (.int .i64 1)).setCell ⟨w.heap.size, 2, none⟩ (.float .f64 0)).setCell ⟨w.heap.size, 3, none⟩ (.string ⟨#[]⟩))) :=
    touch4_new hT3 _ (Nat.le_refl _) _ _ _ _
  have HR : Hid (Rd ((((((w2.setCell ⟨w1.heap.size, 1, none⟩ (.int .i64 1))).setCell ⟨w.heap.size, 0, none⟩ (.int .i64 1)).setCell ⟨w.heap.size, 1, none⟩ (.int .i64 1)).setCell ⟨w.heap.size, 2, none⟩ (.float .f64 0)).setCell ⟨w.heap.size, 3, none⟩ (.string ⟨#[]⟩)) p g more 0) :=
    hR3.keep (touch4 _ _ _ _ _ _) (by omega) (fun _ => by omega)
  clear hB hT3 hR3 hR2 hT2 hb2 hl2 hl3 HR1 HB1 HT1 hz2 hp hg hlt1
  go_wp2_with fail
  have f0 := cell_of_block (i := 0) HF.out
  have f1 := cell_of_block (i := 1) HF.out
  have f2 := cell_of_block (i := 2) HF.out
  have f3 := cell_of_block (i := 3) HF.out
  refine bodyPost_ret (v := .agg #[.int .i64 1, .int .i64 1, .float .f64 0, .string ⟨#[]⟩]) ?_ rfl ⟨rfl, HR.out, HT.out⟩
  simp [results, Tryd.results58, go_sem, f0, f1, f2, f3]

set_option maxHeartbeats 1000000 in
theorem parts_int (p g : Nat) (n : Int) (h0 : -9223372036854775808 ≤ n) (h1 : n < 9223372036854775808) (more : List UInt8) (w : World) (h : Rd w p g (2 :: (putU (unzz n) ++ more)) 0) :
    Calls Tryd.prog 58 #[.pointer (some ⟨p, 0, none⟩)] w fun e w' => e = .returned (.agg #[.int .i64 2, .int .i64 n, .float .f64 0, .string ⟨#[]⟩]) ∧ Rd w' p g more 0 ∧ Touch (· = p) w w' := by
  have hp := h.lt
  have hg := h.ltBytes
  have HR0 : Hid (Rd (w.alloc (.cells #[.int .i64 0, .int .i64 0, .float .f64 0, .string ⟨#[]⟩] 24)) p g (2 :: (putU (unzz n) ++ more)) 0) := h.alloc _
  clear h
  have hst := run_store_f64 Tryd.prog
  go_enter Tryd.func58, Tryd.ntmps58
  go_wp2_with fail
  refine (byte_any p g _ 0 _ HR0.out).mono ?_
  rw [rdByte_put]
  rintro e w1 ⟨rfl, hR1, hT1⟩
  have hz := hT1.size
  have hb1 : w1.heap[w.heap.size]? = some (.cells #[.int .i64 0, .int .i64 0, .float .f64 0, .string ⟨#[]⟩] 24) := (hT1.block _ (by simp) (by omega)).trans (heap_alloc_new _ _)
  have hlt1 := lt_of_heap hb1
  have HR1 : Hid (Rd w1 p g (putU (unzz n) ++ more) 0) := hR1
  have HB1 : Hid (w1.heap[w.heap.size]? = some (.cells #[.int .i64 0, .int .i64 0, .float .f64 0, .string ⟨#[]⟩] 24)) := hb1
  have HT1 : Hid (Touch (· = p) w w1) := (((Touch.refl _ w).alloc _)).then hT1 (fun _ _ h => h)
  clear hR1 hT1 hb1 HR0 hz
  have HPG : Hid (p < w.heap.size ∧ g < w.heap.size ∧ w.heap.size < w1.heap.size) := ⟨hp, hg, hlt1⟩
  clear hp hg hlt1
  go_wp2_with fail
  refine (int_any p g _ 0 _ (HR1.out.alloc _)).mono ?_
  rw [rdInt_put n _ h0 h1]
  rintro e w2 ⟨rfl, hR2, hT2⟩
  obtain ⟨hp, hg, hlt1⟩ := HPG.out
  clear HPG
  have hz2 := hT2.size
  have hb2 : w2.heap[w.heap.size]? = some (.cells #[.int .i64 0, .int .i64 0, .float .f64 0, .string ⟨#[]⟩] 24) := (hT2.block _ (by simp; omega) (by omega)).trans ((Below.heap_alloc _ _ _ hlt1).trans HB1.out)
  have hl2 : w2.heap[w1.heap.size]? = some (.cells #[.int .i64 2, .int .i64 0, .float .f64 0, .string ⟨#[]⟩] 24) := (hT2.block _ (by simp) (by omega)).trans (heap_alloc_new _ _)
  have hne : w1.heap.size ≠ w.heap.size := by omega
  have m0 : w2.cell? ⟨w1.heap.size, 0, none⟩ = some (.int .i64 2) := by rw [cell_of_block hl2]; rfl
  have m1 : w2.cell? ⟨w1.heap.size, 1, none⟩ = some (.int .i64 0) := by rw [cell_of_block hl2]; rfl
  have m2 : w2.cell? ⟨w1.heap.size, 2, none⟩ = some (.float .f64 0) := by rw [cell_of_block hl2]; rfl
  have m3 : w2.cell? ⟨w1.heap.size, 3, none⟩ = some (.string ⟨#[]⟩) := by rw [cell_of_block hl2]; rfl
  have zm : w2.frozen? ⟨w1.heap.size, 1, none⟩ = false := free_of_block hl2
  have hl3 : (w2.setCell ⟨w1.heap.size, 1, none⟩ (.int .i64 n)).heap[w1.heap.size]? = some (.cells #[.int .i64 2, .int .i64 n, .float .f64 0, .string ⟨#[]⟩] 24) := by rw [heap_setCell_same _ _ _ _ hl2]; rfl
  have q0 : (w2.setCell ⟨w1.heap.size, 1, none⟩ (.int .i64 n)).cell? ⟨w1.heap.size, 0, none⟩ = some (.int .i64 2) := by rw [cell_of_block hl3]; rfl
  have q1 : (w2.setCell ⟨w1.heap.size, 1, none⟩ (.int .i64 n)).cell? ⟨w1.heap.size, 1, none⟩ = some (.int .i64 n) := by rw [cell_of_block hl3]; rfl
  have q2 : (w2.setCell ⟨w1.heap.size, 1, none⟩ (.int .i64 n)).cell? ⟨w1.heap.size, 2, none⟩ = some (.float .f64 0) := by rw [cell_of_block hl3]; rfl
  have q3 : (w2.setCell ⟨w1.heap.size, 1, none⟩ (.int .i64 n)).cell? ⟨w1.heap.size, 3, none⟩ = some (.string ⟨#[]⟩) := by rw [cell_of_block hl3]; rfl
  have hB : (w2.setCell ⟨w1.heap.size, 1, none⟩ (.int .i64 n)).heap[w.heap.size]? = some (.cells #[.int .i64 0, .int .i64 0, .float .f64 0, .string ⟨#[]⟩] 24) := (heap_setCell_other _ _ _ _ hne).trans hb2
  have hT3 : Touch (· = p) w (w2.setCell ⟨w1.heap.size, 1, none⟩ (.int .i64 n)) := ((HT1.out.alloc _).then hT2 (fun _ _ h => h)).setCell _ _ (fun h => absurd h (by simp only; omega))
  have hR3 : Rd (w2.setCell ⟨w1.heap.size, 1, none⟩ (.int .i64 n)) p g more 0 := hR2.keep (S := (· = w1.heap.size)) ((Touch.refl _ _).setCell _ _ (fun _ => rfl)) (by omega) (fun _ => by omega)
  have r0 : (w2.setCell ⟨w1.heap.size, 1, none⟩ (.int .i64 n)).cell? ⟨w.heap.size, 0, none⟩ = some (.int .i64 0) := by rw [cell_of_block hB]; rfl
  have r1 : (w2.setCell ⟨w1.heap.size, 1, none⟩ (.int .i64 n)).cell? ⟨w.heap.size, 1, none⟩ = some (.int .i64 0) := by rw [cell_of_block hB]; rfl
  have r2 : (w2.setCell ⟨w1.heap.size, 1, none⟩ (.int .i64 n)).cell? ⟨w.heap.size, 2, none⟩ = some (.float .f64 0) := by rw [cell_of_block hB]; rfl
  have r3 : (w2.setCell ⟨w1.heap.size, 1, none⟩ (.int .i64 n)).cell? ⟨w.heap.size, 3, none⟩ = some (.string ⟨#[]⟩) := by rw [cell_of_block hB]; rfl
  have y0 : (w2.setCell ⟨w1.heap.size, 1, none⟩ (.int .i64 n)).frozen? ⟨w.heap.size, 0, none⟩ = false := free_of_block hB
  have y1 : (w2.setCell ⟨w1.heap.size, 1, none⟩ (.int .i64 n)).frozen? ⟨w.heap.size, 1, none⟩ = false := free_of_block hB
  have y2 : (w2.setCell ⟨w1.heap.size, 1, none⟩ (.int .i64 n)).frozen? ⟨w.heap.size, 2, none⟩ = false := free_of_block hB
  have y3 : (w2.setCell ⟨w1.heap.size, 1, none⟩ (.int .i64 n)).frozen? ⟨w.heap.size, 3, none⟩ = false := free_of_block hB
  have HF : Hid (((((((w2.setCell ⟨w1.heap.size, 1, none⟩ (.int .i64 n))).setCell ⟨w.heap.size, 0, none⟩ (.int .i64 2)).setCell ⟨w.heap.size, 1, none⟩ (.int .i64 n)).setCell ⟨w.heap.size, 2, none⟩ (.float .f64 0)).setCell ⟨w.heap.size, 3, none⟩ (.string ⟨#[]⟩)).heap[w.heap.size]? = some (.cells #[.int .i64 2, .int .i64 n, .float .f64 0, .string ⟨#[]⟩] 24 (0, 0))) := put4 _ _ _ _ hB
  have HT : Hid (Touch (· = p) w ((((((w2.setCell ⟨w1.heap.size, 1, none⟩ (.int .i64 n))).setCell ⟨w.heap.size, 0, none⟩ (.int .i64 2)).setCell ⟨w.heap.size, 1, none⟩ (.int .i64 n)).setCell ⟨w.heap.size, 2, none⟩ (.float .f64 0)).setCell ⟨w.heap.size, 3, none⟩ (.string ⟨#[]⟩))) :=
    touch4_new hT3 _ (Nat.le_refl _) _ _ _ _
  have HR : Hid (Rd ((((((w2.setCell ⟨w1.heap.size, 1, none⟩ (.int .i64 n))).setCell ⟨w.heap.size, 0, none⟩ (.int .i64 2)).setCell ⟨w.heap.size, 1, none⟩ (.int .i64 n)).setCell ⟨w.heap.size, 2, none⟩ (.float .f64 0)).setCell ⟨w.heap.size, 3, none⟩ (.string ⟨#[]⟩)) p g more 0) :=
    hR3.keep (touch4 _ _ _ _ _ _) (by omega) (fun _ => by omega)
  clear hB hT3 hR3 hR2 hT2 hb2 hl2 hl3 HR1 HB1 HT1 hz2 hp hg hlt1
  go_wp2_with fail
  have f0 := cell_of_block (i := 0) HF.out
  have f1 := cell_of_block (i := 1) HF.out
  have f2 := cell_of_block (i := 2) HF.out
  have f3 := cell_of_block (i := 3) HF.out
  refine bodyPost_ret (v := .agg #[.int .i64 2, .int .i64 n, .float .f64 0, .string ⟨#[]⟩]) ?_ rfl ⟨rfl, HR.out, HT.out⟩
  simp [results, Tryd.results58, go_sem, f0, f1, f2, f3]

set_option maxHeartbeats 1000000 in
theorem parts_float (p g : Nat) (G : Nat) (hG : G < 18446744073709551616) (more : List UInt8) (w : World) (h : Rd w p g (3 :: (putF G ++ more)) 0) :
    Calls Tryd.prog 58 #[.pointer (some ⟨p, 0, none⟩)] w fun e w' => e = .returned (.agg #[.int .i64 3, .int .i64 0, .float .f64 G, .string ⟨#[]⟩]) ∧ Rd w' p g more 0 ∧ Touch (· = p) w w' := by
  have hp := h.lt
  have hg := h.ltBytes
  have hfb := f64frombits_run
  have HR0 : Hid (Rd (w.alloc (.cells #[.int .i64 0, .int .i64 0, .float .f64 0, .string ⟨#[]⟩] 24)) p g (3 :: (putF G ++ more)) 0) := h.alloc _
  clear h
  have hst := run_store_f64 Tryd.prog
  go_enter Tryd.func58, Tryd.ntmps58
  go_wp2_with fail
  refine (byte_any p g _ 0 _ HR0.out).mono ?_
  rw [rdByte_put]
  rintro e w1 ⟨rfl, hR1, hT1⟩
  have hz := hT1.size
  have hb1 : w1.heap[w.heap.size]? = some (.cells #[.int .i64 0, .int .i64 0, .float .f64 0, .string ⟨#[]⟩] 24) := (hT1.block _ (by simp) (by omega)).trans (heap_alloc_new _ _)
  have hlt1 := lt_of_heap hb1
  have HR1 : Hid (Rd w1 p g (putF G ++ more) 0) := hR1
  have HB1 : Hid (w1.heap[w.heap.size]? = some (.cells #[.int .i64 0, .int .i64 0, .float .f64 0, .string ⟨#[]⟩] 24)) := hb1
  have HT1 : Hid (Touch (· = p) w w1) := (((Touch.refl _ w).alloc _)).then hT1 (fun _ _ h => h)
  clear hR1 hT1 hb1 HR0 hz
  have HPG : Hid (p < w.heap.size ∧ g < w.heap.size ∧ w.heap.size < w1.heap.size) := ⟨hp, hg, hlt1⟩
  clear hp hg hlt1
  go_wp2_with fail
  refine (fixed_any p g _ 0 _ (HR1.out.alloc _)).mono ?_
  rw [rdFixed_put G _ hG]
  rintro e w2 ⟨rfl, hR2, hT2⟩
  obtain ⟨hp, hg, hlt1⟩ := HPG.out
  clear HPG
  have hz2 := hT2.size
  have hb2 : w2.heap[w.heap.size]? = some (.cells #[.int .i64 0, .int .i64 0, .float .f64 0, .string ⟨#[]⟩] 24) := (hT2.block _ (by simp; omega) (by omega)).trans ((Below.heap_alloc _ _ _ hlt1).trans HB1.out)
  have hl2 : w2.heap[w1.heap.size]? = some (.cells #[.int .i64 3, .int .i64 0, .float .f64 0, .string ⟨#[]⟩] 24) := (hT2.block _ (by simp) (by omega)).trans (heap_alloc_new _ _)
  have hne : w1.heap.size ≠ w.heap.size := by omega
  have m0 : w2.cell? ⟨w1.heap.size, 0, none⟩ = some (.int .i64 3) := by rw [cell_of_block hl2]; rfl
  have m1 : w2.cell? ⟨w1.heap.size, 1, none⟩ = some (.int .i64 0) := by rw [cell_of_block hl2]; rfl
  have m2 : w2.cell? ⟨w1.heap.size, 2, none⟩ = some (.float .f64 0) := by rw [cell_of_block hl2]; rfl
  have m3 : w2.cell? ⟨w1.heap.size, 3, none⟩ = some (.string ⟨#[]⟩) := by rw [cell_of_block hl2]; rfl
  have zm : w2.frozen? ⟨w1.heap.size, 2, none⟩ = false := free_of_block hl2
  have hl3 : (w2.setCell ⟨w1.heap.size, 2, none⟩ (.float .f64 G)).heap[w1.heap.size]? = some (.cells #[.int .i64 3, .int .i64 0, .float .f64 G, .string ⟨#[]⟩] 24) := by rw [heap_setCell_same _ _ _ _ hl2]; rfl
  have q0 : (w2.setCell ⟨w1.heap.size, 2, none⟩ (.float .f64 G)).cell? ⟨w1.heap.size, 0, none⟩ = some (.int .i64 3) := by rw [cell_of_block hl3]; rfl
  have q1 : (w2.setCell ⟨w1.heap.size, 2, none⟩ (.float .f64 G)).cell? ⟨w1.heap.size, 1, none⟩ = some (.int .i64 0) := by rw [cell_of_block hl3]; rfl
  have q2 : (w2.setCell ⟨w1.heap.size, 2, none⟩ (.float .f64 G)).cell? ⟨w1.heap.size, 2, none⟩ = some (.float .f64 G) := by rw [cell_of_block hl3]; rfl
  have q3 : (w2.setCell ⟨w1.heap.size, 2, none⟩ (.float .f64 G)).cell? ⟨w1.heap.size, 3, none⟩ = some (.string ⟨#[]⟩) := by rw [cell_of_block hl3]; rfl
  have hB : (w2.setCell ⟨w1.heap.size, 2, none⟩ (.float .f64 G)).heap[w.heap.size]? = some (.cells #[.int .i64 0, .int .i64 0, .float .f64 0, .string ⟨#[]⟩] 24) := (heap_setCell_other _ _ _ _ hne).trans hb2
  have hT3 : Touch (· = p) w (w2.setCell ⟨w1.heap.size, 2, none⟩ (.float .f64 G)) := ((HT1.out.alloc _).then hT2 (fun _ _ h => h)).setCell _ _ (fun h => absurd h (by simp only; omega))
  have hR3 : Rd (w2.setCell ⟨w1.heap.size, 2, none⟩ (.float .f64 G)) p g more 0 := hR2.keep (S := (· = w1.heap.size)) ((Touch.refl _ _).setCell _ _ (fun _ => rfl)) (by omega) (fun _ => by omega)
  have r0 : (w2.setCell ⟨w1.heap.size, 2, none⟩ (.float .f64 G)).cell? ⟨w.heap.size, 0, none⟩ = some (.int .i64 0) := by rw [cell_of_block hB]; rfl
  have r1 : (w2.setCell ⟨w1.heap.size, 2, none⟩ (.float .f64 G)).cell? ⟨w.heap.size, 1, none⟩ = some (.int .i64 0) := by rw [cell_of_block hB]; rfl
  have r2 : (w2.setCell ⟨w1.heap.size, 2, none⟩ (.float .f64 G)).cell? ⟨w.heap.size, 2, none⟩ = some (.float .f64 0) := by rw [cell_of_block hB]; rfl
  have r3 : (w2.setCell ⟨w1.heap.size, 2, none⟩ (.float .f64 G)).cell? ⟨w.heap.size, 3, none⟩ = some (.string ⟨#[]⟩) := by rw [cell_of_block hB]; rfl
  have y0 : (w2.setCell ⟨w1.heap.size, 2, none⟩ (.float .f64 G)).frozen? ⟨w.heap.size, 0, none⟩ = false := free_of_block hB
  have y1 : (w2.setCell ⟨w1.heap.size, 2, none⟩ (.float .f64 G)).frozen? ⟨w.heap.size, 1, none⟩ = false := free_of_block hB
  have y2 : (w2.setCell ⟨w1.heap.size, 2, none⟩ (.float .f64 G)).frozen? ⟨w.heap.size, 2, none⟩ = false := free_of_block hB
  have y3 : (w2.setCell ⟨w1.heap.size, 2, none⟩ (.float .f64 G)).frozen? ⟨w.heap.size, 3, none⟩ = false := free_of_block hB
  have HF : Hid (((((((w2.setCell ⟨w1.heap.size, 2, none⟩ (.float .f64 G))).setCell ⟨w.heap.size, 0, none⟩ (.int .i64 3)).setCell ⟨w.heap.size, 1, none⟩ (.int .i64 0)).setCell ⟨w.heap.size, 2, none⟩ (.float .f64 G)).setCell ⟨w.heap.size, 3, none⟩ (.string ⟨#[]⟩)).heap[w.heap.size]? = some (.cells #[.int .i64 3, .int .i64 0, .float .f64 G, .string ⟨#[]⟩] 24 (0, 0))) := put4 _ _ _ _ hB
  have HT : Hid (Touch (· = p) w ((((((w2.setCell ⟨w1.heap.size, 2, none⟩ (.float .f64 G))).setCell ⟨w.heap.size, 0, none⟩ (.int .i64 3)).setCell ⟨w.heap.size, 1, none⟩ (.int .i64 0)).setCell ⟨w.heap.size, 2, none⟩ (.float .f64 G)).setCell ⟨w.heap.size, 3, none⟩ (.string ⟨#[]⟩))) :=
    touch4_new hT3 _ (Nat.le_refl _) _ _ _ _
  have HR : Hid (Rd ((((((w2.setCell ⟨w1.heap.size, 2, none⟩ (.float .f64 G))).setCell ⟨w.heap.size, 0, none⟩ (.int .i64 3)).setCell ⟨w.heap.size, 1, none⟩ (.int .i64 0)).setCell ⟨w.heap.size, 2, none⟩ (.float .f64 G)).setCell ⟨w.heap.size, 3, none⟩ (.string ⟨#[]⟩)) p g more 0) :=
    hR3.keep (touch4 _ _ _ _ _ _) (by omega) (fun _ => by omega)
  clear hB hT3 hR3 hR2 hT2 hb2 hl2 hl3 HR1 HB1 HT1 hz2 hp hg hlt1
  go_wp2_with fail
  have f0 := cell_of_block (i := 0) HF.out
  have f1 := cell_of_block (i := 1) HF.out
  have f2 := cell_of_block (i := 2) HF.out
  have f3 := cell_of_block (i := 3) HF.out
  refine bodyPost_ret (v := .agg #[.int .i64 3, .int .i64 0, .float .f64 G, .string ⟨#[]⟩]) ?_ rfl ⟨rfl, HR.out, HT.out⟩
  simp [results, Tryd.results58, go_sem, f0, f1, f2, f3]

set_option maxHeartbeats 1000000 in
theorem parts_text (p g : Nat) (s : ByteArray) (hs : s.size ≤ 4096) (more : List UInt8) (w : World) (h : Rd w p g (4 :: (putT s ++ more)) 0) :
    Calls Tryd.prog 58 #[.pointer (some ⟨p, 0, none⟩)] w fun e w' => e = .returned (.agg #[.int .i64 4, .int .i64 0, .float .f64 0, .string s]) ∧ Rd w' p g more 0 ∧ Touch (· = p) w w' := by
  have hp := h.lt
  have hg := h.ltBytes
  have HR0 : Hid (Rd (w.alloc (.cells #[.int .i64 0, .int .i64 0, .float .f64 0, .string ⟨#[]⟩] 24)) p g (4 :: (putT s ++ more)) 0) := h.alloc _
  clear h
  have hst := run_store_f64 Tryd.prog
  go_enter Tryd.func58, Tryd.ntmps58
  go_wp2_with fail
  refine (byte_any p g _ 0 _ HR0.out).mono ?_
  rw [rdByte_put]
  rintro e w1 ⟨rfl, hR1, hT1⟩
  have hz := hT1.size
  have hb1 : w1.heap[w.heap.size]? = some (.cells #[.int .i64 0, .int .i64 0, .float .f64 0, .string ⟨#[]⟩] 24) := (hT1.block _ (by simp) (by omega)).trans (heap_alloc_new _ _)
  have hlt1 := lt_of_heap hb1
  have HR1 : Hid (Rd w1 p g (putT s ++ more) 0) := hR1
  have HB1 : Hid (w1.heap[w.heap.size]? = some (.cells #[.int .i64 0, .int .i64 0, .float .f64 0, .string ⟨#[]⟩] 24)) := hb1
  have HT1 : Hid (Touch (· = p) w w1) := (((Touch.refl _ w).alloc _)).then hT1 (fun _ _ h => h)
  clear hR1 hT1 hb1 HR0 hz
  have HPG : Hid (p < w.heap.size ∧ g < w.heap.size ∧ w.heap.size < w1.heap.size) := ⟨hp, hg, hlt1⟩
  clear hp hg hlt1
  go_wp2_with fail
  refine (text_any p g _ 0 4096 _ (HR1.out.alloc _) (by decide)).mono ?_
  rw [show (max (4096 : Int) 0).toNat = 4096 from rfl, rdText_put s _ hs]
  rintro e w2 ⟨rfl, hR2, hT2⟩
  obtain ⟨hp, hg, hlt1⟩ := HPG.out
  clear HPG
  have hz2 := hT2.size
  have hb2 : w2.heap[w.heap.size]? = some (.cells #[.int .i64 0, .int .i64 0, .float .f64 0, .string ⟨#[]⟩] 24) := (hT2.block _ (by simp; omega) (by omega)).trans ((Below.heap_alloc _ _ _ hlt1).trans HB1.out)
  have hl2 : w2.heap[w1.heap.size]? = some (.cells #[.int .i64 4, .int .i64 0, .float .f64 0, .string ⟨#[]⟩] 24) := (hT2.block _ (by simp) (by omega)).trans (heap_alloc_new _ _)
  have hne : w1.heap.size ≠ w.heap.size := by omega
  have m0 : w2.cell? ⟨w1.heap.size, 0, none⟩ = some (.int .i64 4) := by rw [cell_of_block hl2]; rfl
  have m1 : w2.cell? ⟨w1.heap.size, 1, none⟩ = some (.int .i64 0) := by rw [cell_of_block hl2]; rfl
  have m2 : w2.cell? ⟨w1.heap.size, 2, none⟩ = some (.float .f64 0) := by rw [cell_of_block hl2]; rfl
  have m3 : w2.cell? ⟨w1.heap.size, 3, none⟩ = some (.string ⟨#[]⟩) := by rw [cell_of_block hl2]; rfl
  have zm : w2.frozen? ⟨w1.heap.size, 3, none⟩ = false := free_of_block hl2
  have hl3 : (w2.setCell ⟨w1.heap.size, 3, none⟩ (.string s)).heap[w1.heap.size]? = some (.cells #[.int .i64 4, .int .i64 0, .float .f64 0, .string s] 24) := by rw [heap_setCell_same _ _ _ _ hl2]; rfl
  have q0 : (w2.setCell ⟨w1.heap.size, 3, none⟩ (.string s)).cell? ⟨w1.heap.size, 0, none⟩ = some (.int .i64 4) := by rw [cell_of_block hl3]; rfl
  have q1 : (w2.setCell ⟨w1.heap.size, 3, none⟩ (.string s)).cell? ⟨w1.heap.size, 1, none⟩ = some (.int .i64 0) := by rw [cell_of_block hl3]; rfl
  have q2 : (w2.setCell ⟨w1.heap.size, 3, none⟩ (.string s)).cell? ⟨w1.heap.size, 2, none⟩ = some (.float .f64 0) := by rw [cell_of_block hl3]; rfl
  have q3 : (w2.setCell ⟨w1.heap.size, 3, none⟩ (.string s)).cell? ⟨w1.heap.size, 3, none⟩ = some (.string s) := by rw [cell_of_block hl3]; rfl
  have hB : (w2.setCell ⟨w1.heap.size, 3, none⟩ (.string s)).heap[w.heap.size]? = some (.cells #[.int .i64 0, .int .i64 0, .float .f64 0, .string ⟨#[]⟩] 24) := (heap_setCell_other _ _ _ _ hne).trans hb2
  have hT3 : Touch (· = p) w (w2.setCell ⟨w1.heap.size, 3, none⟩ (.string s)) := ((HT1.out.alloc _).then hT2 (fun _ _ h => h)).setCell _ _ (fun h => absurd h (by simp only; omega))
  have hR3 : Rd (w2.setCell ⟨w1.heap.size, 3, none⟩ (.string s)) p g more 0 := hR2.keep (S := (· = w1.heap.size)) ((Touch.refl _ _).setCell _ _ (fun _ => rfl)) (by omega) (fun _ => by omega)
  have r0 : (w2.setCell ⟨w1.heap.size, 3, none⟩ (.string s)).cell? ⟨w.heap.size, 0, none⟩ = some (.int .i64 0) := by rw [cell_of_block hB]; rfl
  have r1 : (w2.setCell ⟨w1.heap.size, 3, none⟩ (.string s)).cell? ⟨w.heap.size, 1, none⟩ = some (.int .i64 0) := by rw [cell_of_block hB]; rfl
  have r2 : (w2.setCell ⟨w1.heap.size, 3, none⟩ (.string s)).cell? ⟨w.heap.size, 2, none⟩ = some (.float .f64 0) := by rw [cell_of_block hB]; rfl
  have r3 : (w2.setCell ⟨w1.heap.size, 3, none⟩ (.string s)).cell? ⟨w.heap.size, 3, none⟩ = some (.string ⟨#[]⟩) := by rw [cell_of_block hB]; rfl
  have y0 : (w2.setCell ⟨w1.heap.size, 3, none⟩ (.string s)).frozen? ⟨w.heap.size, 0, none⟩ = false := free_of_block hB
  have y1 : (w2.setCell ⟨w1.heap.size, 3, none⟩ (.string s)).frozen? ⟨w.heap.size, 1, none⟩ = false := free_of_block hB
  have y2 : (w2.setCell ⟨w1.heap.size, 3, none⟩ (.string s)).frozen? ⟨w.heap.size, 2, none⟩ = false := free_of_block hB
  have y3 : (w2.setCell ⟨w1.heap.size, 3, none⟩ (.string s)).frozen? ⟨w.heap.size, 3, none⟩ = false := free_of_block hB
  have HF : Hid (((((((w2.setCell ⟨w1.heap.size, 3, none⟩ (.string s))).setCell ⟨w.heap.size, 0, none⟩ (.int .i64 4)).setCell ⟨w.heap.size, 1, none⟩ (.int .i64 0)).setCell ⟨w.heap.size, 2, none⟩ (.float .f64 0)).setCell ⟨w.heap.size, 3, none⟩ (.string s)).heap[w.heap.size]? = some (.cells #[.int .i64 4, .int .i64 0, .float .f64 0, .string s] 24 (0, 0))) := put4 _ _ _ _ hB
  have HT : Hid (Touch (· = p) w ((((((w2.setCell ⟨w1.heap.size, 3, none⟩ (.string s))).setCell ⟨w.heap.size, 0, none⟩ (.int .i64 4)).setCell ⟨w.heap.size, 1, none⟩ (.int .i64 0)).setCell ⟨w.heap.size, 2, none⟩ (.float .f64 0)).setCell ⟨w.heap.size, 3, none⟩ (.string s))) :=
    touch4_new hT3 _ (Nat.le_refl _) _ _ _ _
  have HR : Hid (Rd ((((((w2.setCell ⟨w1.heap.size, 3, none⟩ (.string s))).setCell ⟨w.heap.size, 0, none⟩ (.int .i64 4)).setCell ⟨w.heap.size, 1, none⟩ (.int .i64 0)).setCell ⟨w.heap.size, 2, none⟩ (.float .f64 0)).setCell ⟨w.heap.size, 3, none⟩ (.string s)) p g more 0) :=
    hR3.keep (touch4 _ _ _ _ _ _) (by omega) (fun _ => by omega)
  clear hB hT3 hR3 hR2 hT2 hb2 hl2 hl3 HR1 HB1 HT1 hz2 hp hg hlt1
  go_wp2_with fail
  have f0 := cell_of_block (i := 0) HF.out
  have f1 := cell_of_block (i := 1) HF.out
  have f2 := cell_of_block (i := 2) HF.out
  have f3 := cell_of_block (i := 3) HF.out
  refine bodyPost_ret (v := .agg #[.int .i64 4, .int .i64 0, .float .f64 0, .string s]) ?_ rfl ⟨rfl, HR.out, HT.out⟩
  simp [results, Tryd.results58, go_sem, f0, f1, f2, f3]

/-- All that Write writes of a value that is taken is read back, a NaN as the one there is. -/
theorem parts_any (p g : Nat) (v : V) (hv : v.taken) (hs : v.s.size ≤ 4096) (more : List UInt8) (w : World) (h : Rd w p g (writeOf v ++ more) 0) :
    Calls Tryd.prog 58 #[.pointer (some ⟨p, 0, none⟩)] w fun e w' => e = .returned (V.val ⟨v.k, v.n, refBits v.f, v.s⟩) ∧ Rd w' p g more 0 ∧ Touch (· = p) w w' := by
  obtain ⟨fit, kind, hn, bool, hf, hss⟩ := hv
  obtain ⟨k, n, f, s⟩ := v
  simp only at *
  have hb0 : refBits 0 = 0 := by decide
  rcases kind with e | e | e | e | e | e <;> subst e
  · have e1 := hn (by decide) (by decide); have e2 := hf (by decide); have e3 := hss (by decide)
    subst e1 e2 e3
    rw [hb0]
    exact parts_null p g more w h
  · have e2 := hf (by decide); have e3 := hss (by decide)
    subst e2 e3
    rw [hb0]
    rcases bool rfl with e | e <;> subst e
    · exact parts_false p g more w h
    · exact parts_true p g more w h
  · have e2 := hf (by decide); have e3 := hss (by decide)
    subst e2 e3
    rw [hb0]
    exact parts_int p g n fit.n0 fit.n1 more w h
  · have e1 := hn (by decide) (by decide); have e3 := hss (by decide)
    subst e1 e3
    have hG : refBits f < 18446744073709551616 := by
      unfold refBits; split
      · decide
      · exact fit.f1
    exact parts_float p g (refBits f) hG more w h
  · have e1 := hn (by decide) (by decide); have e2 := hf (by decide)
    subst e1 e2
    rw [hb0]
    exact parts_text p g s hs more w h
  · have e1 := hn (by decide) (by decide); have e2 := hf (by decide); have e3 := hss (by decide)
    subst e1 e2 e3
    rw [hb0]
    exact parts_map p g more w h
end Go.Proofs.YtaihofkmcpcjeaaDoor
