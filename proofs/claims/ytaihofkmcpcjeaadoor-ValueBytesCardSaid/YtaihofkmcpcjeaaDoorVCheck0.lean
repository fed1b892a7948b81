/- The contract of value.Check, but for texts. -/
import Derived.Test.YtaihofkmcpcjeaaDoorPart4
namespace Go.Proofs.YtaihofkmcpcjeaaDoor
open Go.RowKit
set_option linter.unusedVariables false
set_option maxRecDepth 100000

theorem v_empty_of (k n : Int) (f : Nat) (s : ByteArray) (E : Bool) (hE : ((n == 0) && ((f : Int) == 0) && s.toList.isEmpty) = E) (w : World) : Calls Tryd.prog 39 #[.agg #[.int .i64 k, .int .i64 n, .float .f64 f, .string s]] w fun e w' => e = .returned (.bool E) ∧ w' = w.alloc (.cells #[.int .i64 k, .int .i64 n, .float .f64 f, .string s] 24) := by
  subst hE
  exact v_empty ⟨k, n, f, s⟩ w

/-- What Check answers. -/
def errOf (b : Bool) : Int := if b then 0 else 20

set_option maxHeartbeats 1000000 in
theorem v_check_null (n : Int) (f : Nat) (s : ByteArray) (w : World) : Calls Tryd.prog 12 #[.agg #[.int .i64 0, .int .i64 n, .float .f64 f, .string s]] w fun e w' => e = .returned (.int .i64 (errOf ((n == 0) && ((f : Int) == 0) && s.toList.isEmpty))) ∧ Touch (fun _ => False) w w' := by
  have h2 := run_store_f64 Tryd.prog
  have hnot : ∀ (x : Bool) (w : World), (Op.unary .not (.bool x)).run Tryd.prog w = .ok (.bool (!x)) w := fun _ _ => rfl
  generalize hE : ((n == 0) && ((f : Int) == 0) && s.toList.isEmpty) = E
  have HE : Hid (((n == 0) && ((f : Int) == 0) && s.toList.isEmpty) = E) := hE
  clear hE
  go_enter Tryd.func12, Tryd.ntmps12
  go_wp2_with fail
  refine (v_empty_of 0 n f s E HE.out _).mono ?_
  rintro e w1 ⟨rfl, rfl⟩
  cases E
  · go_wp2_with fail
    go_ret
    refine ⟨rfl, ?_⟩
    repeat (with_reducible first | exact Touch.refl _ _ | refine Touch.alloc ?_ _ | refine Touch.drewN ?_ _ | refine Touch.setCell ?_ _ _ (fun h => by simp only at h; omega))
  · go_wp2_with fail
    go_ret
    refine ⟨rfl, ?_⟩
    repeat (with_reducible first | exact Touch.refl _ _ | refine Touch.alloc ?_ _ | refine Touch.drewN ?_ _ | refine Touch.setCell ?_ _ _ (fun h => by simp only at h; omega))

set_option maxHeartbeats 1000000 in
theorem v_check_map (n : Int) (f : Nat) (s : ByteArray) (w : World) : Calls Tryd.prog 12 #[.agg #[.int .i64 5, .int .i64 n, .float .f64 f, .string s]] w fun e w' => e = .returned (.int .i64 (errOf ((n == 0) && ((f : Int) == 0) && s.toList.isEmpty))) ∧ Touch (fun _ => False) w w' := by
  have h2 := run_store_f64 Tryd.prog
  have hnot : ∀ (x : Bool) (w : World), (Op.unary .not (.bool x)).run Tryd.prog w = .ok (.bool (!x)) w := fun _ _ => rfl
  generalize hE : ((n == 0) && ((f : Int) == 0) && s.toList.isEmpty) = E
  have HE : Hid (((n == 0) && ((f : Int) == 0) && s.toList.isEmpty) = E) := hE
  clear hE
  go_enter Tryd.func12, Tryd.ntmps12
  go_wp2_with fail
  refine (v_empty_of 5 n f s E HE.out _).mono ?_
  rintro e w1 ⟨rfl, rfl⟩
  cases E
  · go_wp2_with fail
    go_ret
    refine ⟨rfl, ?_⟩
    repeat (with_reducible first | exact Touch.refl _ _ | refine Touch.alloc ?_ _ | refine Touch.drewN ?_ _ | refine Touch.setCell ?_ _ _ (fun h => by simp only at h; omega))
  · go_wp2_with fail
    go_ret
    refine ⟨rfl, ?_⟩
    repeat (with_reducible first | exact Touch.refl _ _ | refine Touch.alloc ?_ _ | refine Touch.drewN ?_ _ | refine Touch.setCell ?_ _ _ (fun h => by simp only at h; omega))

set_option maxHeartbeats 1000000 in
theorem v_check_int (n : Int) (f : Nat) (s : ByteArray) (w : World) : Calls Tryd.prog 12 #[.agg #[.int .i64 2, .int .i64 n, .float .f64 f, .string s]] w fun e w' => e = .returned (.int .i64 (errOf (((0 : Int) == 0) && ((f : Int) == 0) && s.toList.isEmpty))) ∧ Touch (fun _ => False) w w' := by
  have h2 := run_store_f64 Tryd.prog
  have hnot : ∀ (x : Bool) (w : World), (Op.unary .not (.bool x)).run Tryd.prog w = .ok (.bool (!x)) w := fun _ _ => rfl
  generalize hE : (((0 : Int) == 0) && ((f : Int) == 0) && s.toList.isEmpty) = E
  have HE : Hid ((((0 : Int) == 0) && ((f : Int) == 0) && s.toList.isEmpty) = E) := hE
  clear hE
  go_enter Tryd.func12, Tryd.ntmps12
  go_wp2_with fail
  refine (v_empty_of 2 0 f s E HE.out _).mono ?_
  rintro e w1 ⟨rfl, rfl⟩
  cases E
  · go_wp2_with fail
    go_ret
    refine ⟨rfl, ?_⟩
    repeat (with_reducible first | exact Touch.refl _ _ | refine Touch.alloc ?_ _ | refine Touch.drewN ?_ _ | refine Touch.setCell ?_ _ _ (fun h => by simp only at h; omega))
  · go_wp2_with fail
    go_ret
    refine ⟨rfl, ?_⟩
    repeat (with_reducible first | exact Touch.refl _ _ | refine Touch.alloc ?_ _ | refine Touch.drewN ?_ _ | refine Touch.setCell ?_ _ _ (fun h => by simp only at h; omega))

set_option maxHeartbeats 1000000 in
theorem v_check_float (n : Int) (f : Nat) (s : ByteArray) (w : World) : Calls Tryd.prog 12 #[.agg #[.int .i64 3, .int .i64 n, .float .f64 f, .string s]] w fun e w' => e = .returned (.int .i64 (errOf ((n == 0) && (((0 : Nat) : Int) == 0) && s.toList.isEmpty))) ∧ Touch (fun _ => False) w w' := by
  have h2 := run_store_f64 Tryd.prog
  have hnot : ∀ (x : Bool) (w : World), (Op.unary .not (.bool x)).run Tryd.prog w = .ok (.bool (!x)) w := fun _ _ => rfl
  generalize hE : ((n == 0) && (((0 : Nat) : Int) == 0) && s.toList.isEmpty) = E
  have HE : Hid (((n == 0) && (((0 : Nat) : Int) == 0) && s.toList.isEmpty) = E) := hE
  clear hE
  go_enter Tryd.func12, Tryd.ntmps12
  go_wp2_with fail
  refine (v_empty_of 3 n 0 s E HE.out _).mono ?_
  rintro e w1 ⟨rfl, rfl⟩
  cases E
  · go_wp2_with fail
    go_ret
    refine ⟨rfl, ?_⟩
    repeat (with_reducible first | exact Touch.refl _ _ | refine Touch.alloc ?_ _ | refine Touch.drewN ?_ _ | refine Touch.setCell ?_ _ _ (fun h => by simp only at h; omega))
  · go_wp2_with fail
    go_ret
    refine ⟨rfl, ?_⟩
    repeat (with_reducible first | exact Touch.refl _ _ | refine Touch.alloc ?_ _ | refine Touch.drewN ?_ _ | refine Touch.setCell ?_ _ _ (fun h => by simp only at h; omega))

set_option maxHeartbeats 1000000 in
theorem v_check_bool (n : Int) (f : Nat) (s : ByteArray) (w : World) : Calls Tryd.prog 12 #[.agg #[.int .i64 1, .int .i64 n, .float .f64 f, .string s]] w fun e w' => e = .returned (.int .i64 (errOf (((n == 0) || (n == 1)) && (((0 : Int) == 0) && ((f : Int) == 0) && s.toList.isEmpty)))) ∧ Touch (fun _ => False) w w' := by
  have h2 := run_store_f64 Tryd.prog
  have hnot : ∀ (x : Bool) (w : World), (Op.unary .not (.bool x)).run Tryd.prog w = .ok (.bool (!x)) w := fun _ _ => rfl
  generalize hE : (((0 : Int) == 0) && ((f : Int) == 0) && s.toList.isEmpty) = E
  have HE : Hid ((((0 : Int) == 0) && ((f : Int) == 0) && s.toList.isEmpty) = E) := hE
  clear hE
  cases t0 : (n == 0)
  · cases t1 : (n == 1)
    · simp only [Bool.false_or, Bool.false_and]
      go_enter Tryd.func12, Tryd.ntmps12
      go_wp2_with fail
      go_ret
      refine ⟨rfl, ?_⟩
      repeat (with_reducible first | exact Touch.refl _ _ | refine Touch.alloc ?_ _ | refine Touch.drewN ?_ _ | refine Touch.setCell ?_ _ _ (fun h => by simp only at h; omega))
    · simp only [Bool.false_or, Bool.true_and]
      go_enter Tryd.func12, Tryd.ntmps12
      go_wp2_with fail
      refine (v_empty_of 1 0 f s E HE.out _).mono ?_
      rintro e w1 ⟨rfl, rfl⟩
      cases E
      · go_wp2_with fail
        go_ret
        refine ⟨rfl, ?_⟩
        repeat (with_reducible first | exact Touch.refl _ _ | refine Touch.alloc ?_ _ | refine Touch.drewN ?_ _ | refine Touch.setCell ?_ _ _ (fun h => by simp only at h; omega))
      · go_wp2_with fail
        go_ret
        refine ⟨rfl, ?_⟩
        repeat (with_reducible first | exact Touch.refl _ _ | refine Touch.alloc ?_ _ | refine Touch.drewN ?_ _ | refine Touch.setCell ?_ _ _ (fun h => by simp only at h; omega))
  · simp only [Bool.true_or, Bool.true_and]
    go_enter Tryd.func12, Tryd.ntmps12
    go_wp2_with fail
    refine (v_empty_of 1 0 f s E HE.out _).mono ?_
    rintro e w1 ⟨rfl, rfl⟩
    cases E
    · go_wp2_with fail
      go_ret
      refine ⟨rfl, ?_⟩
      repeat (with_reducible first | exact Touch.refl _ _ | refine Touch.alloc ?_ _ | refine Touch.drewN ?_ _ | refine Touch.setCell ?_ _ _ (fun h => by simp only at h; omega))
    · go_wp2_with fail
      go_ret
      refine ⟨rfl, ?_⟩
      repeat (with_reducible first | exact Touch.refl _ _ | refine Touch.alloc ?_ _ | refine Touch.drewN ?_ _ | refine Touch.setCell ?_ _ _ (fun h => by simp only at h; omega))

set_option maxHeartbeats 1000000 in
theorem v_check_other (k n : Int) (f : Nat) (s : ByteArray) (h0 : k ≠ 0) (h1 : k ≠ 1) (h2 : k ≠ 2) (h3 : k ≠ 3) (h4 : k ≠ 4) (h5 : k ≠ 5) (w : World) : Calls Tryd.prog 12 #[.agg #[.int .i64 k, .int .i64 n, .float .f64 f, .string s]] w fun e w' => e = .returned (.int .i64 (errOf false)) ∧ Touch (fun _ => False) w w' := by
  have t0 : (k == 0) = false := by rw [beq_eq_false_iff_ne]; exact h0
  have t1 : (k == 1) = false := by rw [beq_eq_false_iff_ne]; exact h1
  have t2 : (k == 2) = false := by rw [beq_eq_false_iff_ne]; exact h2
  have t3 : (k == 3) = false := by rw [beq_eq_false_iff_ne]; exact h3
  have t4 : (k == 4) = false := by rw [beq_eq_false_iff_ne]; exact h4
  have t5 : (k == 5) = false := by rw [beq_eq_false_iff_ne]; exact h5
  clear h0 h1 h2 h3 h4 h5
  have h2 := run_store_f64 Tryd.prog
  have hnot : ∀ (x : Bool) (w : World), (Op.unary .not (.bool x)).run Tryd.prog w = .ok (.bool (!x)) w := fun _ _ => rfl
  go_enter Tryd.func12, Tryd.ntmps12
  go_wp2_with fail
  go_ret
  refine ⟨rfl, ?_⟩
  repeat (with_reducible first | exact Touch.refl _ _ | refine Touch.alloc ?_ _ | refine Touch.drewN ?_ _ | refine Touch.setCell ?_ _ _ (fun h => by simp only at h; omega))
end Go.Proofs.YtaihofkmcpcjeaaDoor
