/- The contract of quirelaw2.ValueAdds. -/
import Derived.Test.YtaihofkmcpcjeabDoorKnown2
import Derived.Test.YtaihofkmcpcjeabDoorLight
import Derived.Test.YtaihofkmcpcjeabDoorBoxes
import Derived.Test.YtaihofkmcpcjeabDoorLBits
import Derived.Test.YtaihofkmcpcjeabDoorAddComm
import Derived.Test.YtaihofkmcpcjeabDoorRef2d
import Derived.Test.YtaihofkmcpcjeabDoorIsVal
namespace Go.Proofs.YtaihofkmcpcjeabDoor
open Go.RowKit
set_option linter.unusedVariables false
set_option maxRecDepth 100000

theorem v_check_sum (a b : V) (w : World) : Calls Tryd.prog 11 #[(refAdd a b).val] w fun e w' => e = .returned (.int .i64 0) ∧ Touch (fun _ => False) w w' := by
  have e : (ByteArray.mk #[]).toList.isEmpty = true := by decide +kernel
  unfold refAdd
  split
  · split
    · have h := v_check_int (wrap64 (a.n + b.n)) 0 ⟨#[]⟩ w
      rw [e] at h
      exact h
    · have h := v_check_float 0 (sumBits (vFloat a) (vFloat b)) ⟨#[]⟩ w
      rw [e] at h
      exact h
  · have h := v_check_null 0 0 ⟨#[]⟩ w
    rw [e] at h
    exact h

set_option maxHeartbeats 4000000 in
theorem valueAdds_any (a : V) (fa : a.fits) (b : V) (fb : b.fits) (w : World) : Calls Tryd.prog 3 #[a.val, b.val] w fun e w' => e = .returned (.bool true) ∧ Touch (fun _ => False) w w' := by
  have HAB : Hid (∀ w, Calls Tryd.prog 8 #[a.val, b.val] w fun e w' => e = .returned (refAdd a b).val ∧ Touch (fun _ => False) w w') := v_add a b
  have HBA : Hid (∀ w, Calls Tryd.prog 8 #[b.val, a.val] w fun e w' => e = .returned (refAdd a b).val ∧ Touch (fun _ => False) w w') := by
    intro w
    have h := v_add b a w
    rw [refAdd_comm b a] at h
    exact h
  have HR : Hid (∀ w, Calls Tryd.prog 10 #[a.val, b.val] w fun e w' => e = .returned (refAdd a b).val ∧ Touch (fun _ => False) w w') := ref_add a b
  have HCk : Hid (∀ w, Calls Tryd.prog 11 #[(refAdd a b).val] w fun e w' => e = .returned (.int .i64 0) ∧ Touch (fun _ => False) w w') := v_check_sum a b
  generalize refAdd a b = X at *
  clear fa fb
  obtain ⟨k, n, f, s⟩ := a
  obtain ⟨k2, n2, f2, s2⟩ := b
  obtain ⟨kx, nx, fx, sx⟩ := X
  simp only [V.val] at *
  have HBits : Hid (∀ w, Calls Tryd.prog 9 #[.agg #[.int .i64 kx, .int .i64 nx, .float .f64 fx, .string sx], .agg #[.int .i64 kx, .int .i64 nx, .float .f64 fx, .string sx]] w fun e w' => e = .returned (.bool true) ∧ Touch (fun _ => False) w w') := l_bits kx nx fx sx
  have hnot : ∀ (x : Bool) (w : World), (Op.unary .not (.bool x)).run Tryd.prog w = .ok (.bool (!x)) w := fun _ _ => rfl
  have hs := run_store_f64 Tryd.prog
  go_enter Tryd.func3, Tryd.ntmps3
  go_wp2_with fail
  refine (known2 _).mono ?_
  rintro e w1 ⟨rfl, hT⟩
  have hbox := boxes2_keep (w0 := w) (A := w.heap.size) (B := w.heap.size + 1) (k := k) (n := n) (f := f) (s := s) (k2 := k2) (n2 := n2) (f2 := f2) (s2 := s2)
    ⟨old1 _ (new1 w _ _ 0), old1 _ (new1 w _ _ 1), old1 _ (new1 w _ _ 2), old1 _ (new1 w _ _ 3), (show (w.alloc (.cells #[.int .i64 k, .int .i64 n, .float .f64 f, .string s] 24)).heap.size = w.heap.size + 1 by simp) ▸ new1 _ _ _ 0, (show (w.alloc (.cells #[.int .i64 k, .int .i64 n, .float .f64 f, .string s] 24)).heap.size = w.heap.size + 1 by simp) ▸ new1 _ _ _ 1, (show (w.alloc (.cells #[.int .i64 k, .int .i64 n, .float .f64 f, .string s] 24)).heap.size = w.heap.size + 1 by simp) ▸ new1 _ _ _ 2, (show (w.alloc (.cells #[.int .i64 k, .int .i64 n, .float .f64 f, .string s] 24)).heap.size = w.heap.size + 1 by simp) ▸ new1 _ _ _ 3, ((Touch.refl _ _).alloc _).alloc _⟩ hT
  clear hT
  obtain ⟨c1, c2, c3, c4, c5, c6, c7, c8, HT1⟩ := hbox
  by_cases l1 : s.size ≤ 6000
  case neg =>
    go_wp2_with fail
    refine (l_light _ _ _ _ _).mono ?_
    rintro e w2 ⟨rfl, rfl⟩
    rw [decide_eq_false l1]
    have HT2 : Hid (Touch (fun _ => False) w (w1.alloc (.cells #[.int .i64 k, .int .i64 n, .float .f64 f, .string s] 24))) := HT1.out.alloc _
    clear l1
    go_wp2_with fail
    go_ret
    exact ⟨rfl, HT2.out⟩
  go_wp2_with fail
  refine (l_light _ _ _ _ _).mono ?_
  rintro e w2 ⟨rfl, hw⟩
  rw [decide_eq_true l1]
  have hbox := boxes2_keep ⟨c1, c2, c3, c4, c5, c6, c7, c8, HT1⟩ (show Touch (fun _ => False) w1 w2 by rw [hw]; exact (Touch.refl _ _).alloc _)
  clear hw c1 c2 c3 c4 c5 c6 c7 c8 HT1 l1
  obtain ⟨c1, c2, c3, c4, c5, c6, c7, c8, HT1⟩ := hbox
  by_cases l2 : s2.size ≤ 6000
  case neg =>
    go_wp2_with fail
    refine (l_light _ _ _ _ _).mono ?_
    rintro e w3 ⟨rfl, rfl⟩
    rw [decide_eq_false l2]
    have HT2 : Hid (Touch (fun _ => False) w (w2.alloc (.cells #[.int .i64 k2, .int .i64 n2, .float .f64 f2, .string s2] 24))) := HT1.out.alloc _
    clear l2
    go_wp2_with fail
    go_ret
    exact ⟨rfl, HT2.out⟩
  go_wp2_with fail
  refine (l_light _ _ _ _ _).mono ?_
  rintro e w3 ⟨rfl, hw⟩
  rw [decide_eq_true l2]
  have hbox := boxes2_keep ⟨c1, c2, c3, c4, c5, c6, c7, c8, HT1⟩ (show Touch (fun _ => False) w2 w3 by rw [hw]; exact (Touch.refl _ _).alloc _)
  clear hw c1 c2 c3 c4 c5 c6 c7 c8 HT1 l2
  obtain ⟨c1, c2, c3, c4, c5, c6, c7, c8, HT1⟩ := hbox
  go_wp2_with fail
  refine (HAB.out _).mono ?_
  rintro e w4 ⟨rfl, hT⟩
  have hbox := boxes2_keep ⟨c1, c2, c3, c4, c5, c6, c7, c8, HT1⟩ hT
  clear hT c1 c2 c3 c4 c5 c6 c7 c8 HT1
  obtain ⟨c1, c2, c3, c4, c5, c6, c7, c8, HT1⟩ := hbox
  go_wp2_with fail
  have hb3 := boxes3_keep (w0 := w) (A := w.heap.size) (B := w.heap.size + 1) (C := w4.heap.size) (w := w4.alloc (.cells #[.int .i64 kx, .int .i64 nx, .float .f64 fx, .string sx] 24)) (w' := (w4.alloc (.cells #[.int .i64 kx, .int .i64 nx, .float .f64 fx, .string sx] 24)).drew)
    ⟨old1 _ c1, old1 _ c2, old1 _ c3, old1 _ c4, old1 _ c5, old1 _ c6, old1 _ c7, old1 _ c8, new1 _ _ _ 0, new1 _ _ _ 1, new1 _ _ _ 2, new1 _ _ _ 3, HT1.out.alloc _⟩ (Touch.refl _ _).drew
  clear c1 c2 c3 c4 c5 c6 c7 c8 HT1
  go_region_held (fun w' => w'.cell? ⟨w.heap.size, 0, none⟩ = some (.int .i64 k) ∧ w'.cell? ⟨w.heap.size, 1, none⟩ = some (.int .i64 n) ∧ w'.cell? ⟨w.heap.size, 2, none⟩ = some (.float .f64 f) ∧ w'.cell? ⟨w.heap.size, 3, none⟩ = some (.string s) ∧ w'.cell? ⟨w.heap.size + 1, 0, none⟩ = some (.int .i64 k2) ∧ w'.cell? ⟨w.heap.size + 1, 1, none⟩ = some (.int .i64 n2) ∧ w'.cell? ⟨w.heap.size + 1, 2, none⟩ = some (.float .f64 f2) ∧ w'.cell? ⟨w.heap.size + 1, 3, none⟩ = some (.string s2) ∧ w'.cell? ⟨w4.heap.size, 0, none⟩ = some (.int .i64 kx) ∧ w'.cell? ⟨w4.heap.size, 1, none⟩ = some (.int .i64 nx) ∧ w'.cell? ⟨w4.heap.size, 2, none⟩ = some (.float .f64 fx) ∧ w'.cell? ⟨w4.heap.size, 3, none⟩ = some (.string sx) ∧ Hid (Touch (fun _ => False) w w')) (assumption)
    (first
      | (go_at_call 10; with_reducible refine (HR.out _).mono ?_; rintro e w' ⟨rfl, hT⟩; have hS2 := boxes3_keep (by assumption) hT; clear hT)
      | (go_at_call 9; with_reducible refine (HBits.out _).mono ?_; rintro e w' ⟨rfl, hT⟩; have hS2 := boxes3_keep (by assumption) hT; clear hT)
      | (go_at_call 8; with_reducible refine (HBA.out _).mono ?_; rintro e w' ⟨rfl, hT⟩; have hS2 := boxes3_keep (by assumption) hT; clear hT)
      | (go_at_call 11; with_reducible refine (HCk.out _).mono ?_; rintro e w' ⟨rfl, hT⟩; have hS2 := boxes3_keep (by assumption) hT; clear hT))
  obtain ⟨d1, d2, d3, d4, d5, d6, d7, d8, d9, d10, d11, d12, HT5⟩ := hS2
  clear d1 d2 d3 d4 d5 d6 d7 d8 d9 d10 d11 d12
  go_wp2_with fail
  go_ret
  exact ⟨rfl, HT5.out⟩
end Go.Proofs.YtaihofkmcpcjeabDoor
