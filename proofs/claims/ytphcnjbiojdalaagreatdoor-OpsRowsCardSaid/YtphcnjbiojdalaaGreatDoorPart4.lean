/- Floats stored and added; a sum as the document has it. It speaks of no function. -/
import Derived.Test.YtphcnjbiojdalaaGreatDoorPart3
import Derived.Laws.FloatArith
namespace Go.Proofs.YtphcnjbiojdalaaGreatDoor
open Go.RowKit
set_option linter.unusedVariables false

/-- A float is stored (a law of the walk that the library has for the other kinds). -/
theorem run_store_f64 (P : Program) (w : World) (a : Addr) (m : Mode) (b : Nat) : (store a (.float .f64 b) m).run P w = stored P w a (.float .f64 b) m := run_store P w a _ m rfl

def refClean (v : V) : V := if v.k = 3 then ⟨v.k, v.n, refBits v.f, v.s⟩ else v

def isNum (v : V) : Bool := v.k == 2 || v.k == 3

/-- The float that a number stands for; the sum of two. -/
def vFloat (v : V) : Nat := if v.k == 2 then floatOfInt .f64 v.n else v.f
def sumBits (x y : Nat) : Nat := match Ieee.double.add x y with
  | some r => refBits r
  | none => nanBits
def refAdd (a b : V) : V := if isNum a && isNum b then (if a.k == 2 && b.k == 2 then ⟨2, wrap64 (a.n + b.n), 0, .empty⟩ else ⟨3, 0, sumBits (vFloat a) (vFloat b), .empty⟩) else ⟨0, 0, 0, .empty⟩

/-- x + y of floats: the bits (drawn, where it is no number), and how much is drawn. -/
def addR (x y : Nat) (w : World) : Nat := match Ieee.double.add x y with
  | some r => r
  | none => Question.cut (.nanBits .f64 x y) (w.tape w.drawn (.nanBits .f64 x y))
def addN (x y : Nat) : Nat := match Ieee.double.add x y with
  | some _ => 0
  | none => 1
theorem addR_bits (x y : Nat) (w : World) : refBits (addR x y w) = sumBits x y := by
  unfold addR sumBits
  cases h : Ieee.double.add x y with
  | some r => rfl
  | none =>
    have : isNaN (Question.cut (.nanBits .f64 x y) (w.tape w.drawn (.nanBits .f64 x y))) = true := by
      simp only [Question.cut, isNaN, rung, fS, fI]
      generalize w.tape w.drawn (.nanBits .f64 x y) = t
      refine decide_eq_true ?_
      rcases Nat.mod_two_eq_zero_or_one t with e | e <;> rw [e] <;> omega
    simp only [refBits, this, if_true]
theorem run_add_f64 (P : Program) (x y : Nat) (t : TypeId) (w : World) : (binOp .add t (.float .f64 x) (.float .f64 y)).run P w = .ok (.float .f64 (addR x y w)) (w.drewN (addN x y)) := by
  unfold addR addN
  cases h : Ieee.double.add x y with
  | some r => exact run_float_arith w .add t .f64 x y r h
  | none =>
    simp [binOp, Op.floatArith, FloatKind.format, h, Question.forced]
    rfl
end Go.Proofs.YtphcnjbiojdalaaGreatDoor

/- The contracts of value's empty, asFloat. -/
namespace Go.Proofs.YtphcnjbiojdalaaGreatDoor
open Go.RowKit
set_option linter.unusedVariables false
set_option maxRecDepth 100000

/-- Nothing but a kind. -/
def vEmpty (v : V) : Bool := (v.n == 0) && ((v.f : Int) == 0) && v.s.toList.isEmpty
set_option maxHeartbeats 400000 in
theorem v_empty (v : V) (w : World) : Calls Tryz.prog 90 #[v.val] w fun e w' => e = .returned (.bool (vEmpty v)) ∧ w' = w.alloc (.cells v.cells 27) := by
  have HE : Hid (vEmpty v = ((v.n == 0) && ((v.f : Int) == 0) && v.s.toList.isEmpty)) := rfl
  generalize vEmpty v = E at *
  obtain ⟨k, n, f, s⟩ := v
  simp only [V.val, V.cells] at *
  have hb := f64bits_run
  cases h0 : (n == 0) <;> cases h1 : ((f : Int) == 0) <;> cases h2 : s.toList.isEmpty
  all_goals
    have HR2 := HE.out
    rw [h0, h1, h2] at HR2
    have HF : Hid (E = _) := HR2
    clear HR2 HE
    go_enter Tryz.func90, Tryz.ntmps90
    go_wp2_with fail
    go_ret
    exact ⟨by rw [HF.out]; rfl, rfl⟩

/-- The number as a float, and whether it is one. -/
def vNum (v : V) : Nat := if isNum v then vFloat v else 0
end Go.Proofs.YtphcnjbiojdalaaGreatDoor

/- The contract of value.Check, but for texts. -/
namespace Go.Proofs.YtphcnjbiojdalaaGreatDoor
open Go.RowKit
set_option linter.unusedVariables false
set_option maxRecDepth 100000

theorem v_empty_of (k n : Int) (f : Nat) (s : ByteArray) (E : Bool) (hE : ((n == 0) && ((f : Int) == 0) && s.toList.isEmpty) = E) (w : World) : Calls Tryz.prog 90 #[.agg #[.int .i64 k, .int .i64 n, .float .f64 f, .string s]] w fun e w' => e = .returned (.bool E) ∧ w' = w.alloc (.cells #[.int .i64 k, .int .i64 n, .float .f64 f, .string s] 27) := by
  subst hE
  exact v_empty ⟨k, n, f, s⟩ w

/-- What Check answers. -/
def errOf (b : Bool) : Int := if b then 0 else 20

set_option maxHeartbeats 1000000 in
theorem v_check_null (n : Int) (f : Nat) (s : ByteArray) (w : World) : Calls Tryz.prog 64 #[.agg #[.int .i64 0, .int .i64 n, .float .f64 f, .string s]] w fun e w' => e = .returned (.int .i64 (errOf ((n == 0) && ((f : Int) == 0) && s.toList.isEmpty))) ∧ Touch (fun _ => False) w w' := by
  have h2 := run_store_f64 Tryz.prog
  have hnot : ∀ (x : Bool) (w : World), (Op.unary .not (.bool x)).run Tryz.prog w = .ok (.bool (!x)) w := fun _ _ => rfl
  generalize hE : ((n == 0) && ((f : Int) == 0) && s.toList.isEmpty) = E
  have HE : Hid (((n == 0) && ((f : Int) == 0) && s.toList.isEmpty) = E) := hE
  clear hE
  go_enter Tryz.func64, Tryz.ntmps64
  go_wp2_with fail
  refine (v_empty_of 0 n f s E HE.out _).mono ?_
  rintro e w1 ⟨rfl, rfl⟩
  cases E
  · go_wp2_with fail
    go_ret
    refine ⟨rfl, ?_⟩
    repeat (with_reducible first | exact Touch.refl _ _ | refine Touch.alloc ?_ _ | refine Touch.drewN ?_ _ | refine Touch.setCell ?_ _ _ (fun h => by simp only at h; omega))
  · go_wp2_with fail
    go_ret
    refine ⟨rfl, ?_⟩
    repeat (with_reducible first | exact Touch.refl _ _ | refine Touch.alloc ?_ _ | refine Touch.drewN ?_ _ | refine Touch.setCell ?_ _ _ (fun h => by simp only at h; omega))

set_option maxHeartbeats 1000000 in
theorem v_check_map (n : Int) (f : Nat) (s : ByteArray) (w : World) : Calls Tryz.prog 64 #[.agg #[.int .i64 5, .int .i64 n, .float .f64 f, .string s]] w fun e w' => e = .returned (.int .i64 (errOf ((n == 0) && ((f : Int) == 0) && s.toList.isEmpty))) ∧ Touch (fun _ => False) w w' := by
  have h2 := run_store_f64 Tryz.prog
  have hnot : ∀ (x : Bool) (w : World), (Op.unary .not (.bool x)).run Tryz.prog w = .ok (.bool (!x)) w := fun _ _ => rfl
  generalize hE : ((n == 0) && ((f : Int) == 0) && s.toList.isEmpty) = E
  have HE : Hid (((n == 0) && ((f : Int) == 0) && s.toList.isEmpty) = E) := hE
  clear hE
  go_enter Tryz.func64, Tryz.ntmps64
  go_wp2_with fail
  refine (v_empty_of 5 n f s E HE.out _).mono ?_
  rintro e w1 ⟨rfl, rfl⟩
  cases E
  · go_wp2_with fail
    go_ret
    refine ⟨rfl, ?_⟩
    repeat (with_reducible first | exact Touch.refl _ _ | refine Touch.alloc ?_ _ | refine Touch.drewN ?_ _ | refine Touch.setCell ?_ _ _ (fun h => by simp only at h; omega))
  · go_wp2_with fail
    go_ret
    refine ⟨rfl, ?_⟩
    repeat (with_reducible first | exact Touch.refl _ _ | refine Touch.alloc ?_ _ | refine Touch.drewN ?_ _ | refine Touch.setCell ?_ _ _ (fun h => by simp only at h; omega))

set_option maxHeartbeats 1000000 in
theorem v_check_int (n : Int) (f : Nat) (s : ByteArray) (w : World) : Calls Tryz.prog 64 #[.agg #[.int .i64 2, .int .i64 n, .float .f64 f, .string s]] w fun e w' => e = .returned (.int .i64 (errOf (((0 : Int) == 0) && ((f : Int) == 0) && s.toList.isEmpty))) ∧ Touch (fun _ => False) w w' := by
  have h2 := run_store_f64 Tryz.prog
  have hnot : ∀ (x : Bool) (w : World), (Op.unary .not (.bool x)).run Tryz.prog w = .ok (.bool (!x)) w := fun _ _ => rfl
  generalize hE : (((0 : Int) == 0) && ((f : Int) == 0) && s.toList.isEmpty) = E
  have HE : Hid ((((0 : Int) == 0) && ((f : Int) == 0) && s.toList.isEmpty) = E) := hE
  clear hE
  go_enter Tryz.func64, Tryz.ntmps64
  go_wp2_with fail
  refine (v_empty_of 2 0 f s E HE.out _).mono ?_
  rintro e w1 ⟨rfl, rfl⟩
  cases E
  · go_wp2_with fail
    go_ret
    refine ⟨rfl, ?_⟩
    repeat (with_reducible first | exact Touch.refl _ _ | refine Touch.alloc ?_ _ | refine Touch.drewN ?_ _ | refine Touch.setCell ?_ _ _ (fun h => by simp only at h; omega))
  · go_wp2_with fail
    go_ret
    refine ⟨rfl, ?_⟩
    repeat (with_reducible first | exact Touch.refl _ _ | refine Touch.alloc ?_ _ | refine Touch.drewN ?_ _ | refine Touch.setCell ?_ _ _ (fun h => by simp only at h; omega))

set_option maxHeartbeats 1000000 in
theorem v_check_float (n : Int) (f : Nat) (s : ByteArray) (w : World) : Calls Tryz.prog 64 #[.agg #[.int .i64 3, .int .i64 n, .float .f64 f, .string s]] w fun e w' => e = .returned (.int .i64 (errOf ((n == 0) && (((0 : Nat) : Int) == 0) && s.toList.isEmpty))) ∧ Touch (fun _ => False) w w' := by
  have h2 := run_store_f64 Tryz.prog
  have hnot : ∀ (x : Bool) (w : World), (Op.unary .not (.bool x)).run Tryz.prog w = .ok (.bool (!x)) w := fun _ _ => rfl
  generalize hE : ((n == 0) && (((0 : Nat) : Int) == 0) && s.toList.isEmpty) = E
  have HE : Hid (((n == 0) && (((0 : Nat) : Int) == 0) && s.toList.isEmpty) = E) := hE
  clear hE
  go_enter Tryz.func64, Tryz.ntmps64
  go_wp2_with fail
  refine (v_empty_of 3 n 0 s E HE.out _).mono ?_
  rintro e w1 ⟨rfl, rfl⟩
  cases E
  · go_wp2_with fail
    go_ret
    refine ⟨rfl, ?_⟩
    repeat (with_reducible first | exact Touch.refl _ _ | refine Touch.alloc ?_ _ | refine Touch.drewN ?_ _ | refine Touch.setCell ?_ _ _ (fun h => by simp only at h; omega))
  · go_wp2_with fail
    go_ret
    refine ⟨rfl, ?_⟩
    repeat (with_reducible first | exact Touch.refl _ _ | refine Touch.alloc ?_ _ | refine Touch.drewN ?_ _ | refine Touch.setCell ?_ _ _ (fun h => by simp only at h; omega))

set_option maxHeartbeats 1000000 in
theorem v_check_bool (n : Int) (f : Nat) (s : ByteArray) (w : World) : Calls Tryz.prog 64 #[.agg #[.int .i64 1, .int .i64 n, .float .f64 f, .string s]] w fun e w' => e = .returned (.int .i64 (errOf (((n == 0) || (n == 1)) && (((0 : Int) == 0) && ((f : Int) == 0) && s.toList.isEmpty)))) ∧ Touch (fun _ => False) w w' := by
  have h2 := run_store_f64 Tryz.prog
  have hnot : ∀ (x : Bool) (w : World), (Op.unary .not (.bool x)).run Tryz.prog w = .ok (.bool (!x)) w := fun _ _ => rfl
  generalize hE : (((0 : Int) == 0) && ((f : Int) == 0) && s.toList.isEmpty) = E
  have HE : Hid ((((0 : Int) == 0) && ((f : Int) == 0) && s.toList.isEmpty) = E) := hE
  clear hE
  cases t0 : (n == 0)
  · cases t1 : (n == 1)
    · simp only [Bool.false_or, Bool.false_and]
      go_enter Tryz.func64, Tryz.ntmps64
      go_wp2_with fail
      go_ret
      refine ⟨rfl, ?_⟩
      repeat (with_reducible first | exact Touch.refl _ _ | refine Touch.alloc ?_ _ | refine Touch.drewN ?_ _ | refine Touch.setCell ?_ _ _ (fun h => by simp only at h; omega))
    · simp only [Bool.false_or, Bool.true_and]
      go_enter Tryz.func64, Tryz.ntmps64
      go_wp2_with fail
      refine (v_empty_of 1 0 f s E HE.out _).mono ?_
      rintro e w1 ⟨rfl, rfl⟩
      cases E
      · go_wp2_with fail
        go_ret
        refine ⟨rfl, ?_⟩
        repeat (with_reducible first | exact Touch.refl _ _ | refine Touch.alloc ?_ _ | refine Touch.drewN ?_ _ | refine Touch.setCell ?_ _ _ (fun h => by simp only at h; omega))
      · go_wp2_with fail
        go_ret
        refine ⟨rfl, ?_⟩
        repeat (with_reducible first | exact Touch.refl _ _ | refine Touch.alloc ?_ _ | refine Touch.drewN ?_ _ | refine Touch.setCell ?_ _ _ (fun h => by simp only at h; omega))
  · simp only [Bool.true_or, Bool.true_and]
    go_enter Tryz.func64, Tryz.ntmps64
    go_wp2_with fail
    refine (v_empty_of 1 0 f s E HE.out _).mono ?_
    rintro e w1 ⟨rfl, rfl⟩
    cases E
    · go_wp2_with fail
      go_ret
      refine ⟨rfl, ?_⟩
      repeat (with_reducible first | exact Touch.refl _ _ | refine Touch.alloc ?_ _ | refine Touch.drewN ?_ _ | refine Touch.setCell ?_ _ _ (fun h => by simp only at h; omega))
    · go_wp2_with fail
      go_ret
      refine ⟨rfl, ?_⟩
      repeat (with_reducible first | exact Touch.refl _ _ | refine Touch.alloc ?_ _ | refine Touch.drewN ?_ _ | refine Touch.setCell ?_ _ _ (fun h => by simp only at h; omega))

set_option maxHeartbeats 1000000 in
theorem v_check_other (k n : Int) (f : Nat) (s : ByteArray) (h0 : k ≠ 0) (h1 : k ≠ 1) (h2 : k ≠ 2) (h3 : k ≠ 3) (h4 : k ≠ 4) (h5 : k ≠ 5) (w : World) : Calls Tryz.prog 64 #[.agg #[.int .i64 k, .int .i64 n, .float .f64 f, .string s]] w fun e w' => e = .returned (.int .i64 (errOf false)) ∧ Touch (fun _ => False) w w' := by
  have t0 : (k == 0) = false := by rw [beq_eq_false_iff_ne]; exact h0
  have t1 : (k == 1) = false := by rw [beq_eq_false_iff_ne]; exact h1
  have t2 : (k == 2) = false := by rw [beq_eq_false_iff_ne]; exact h2
  have t3 : (k == 3) = false := by rw [beq_eq_false_iff_ne]; exact h3
  have t4 : (k == 4) = false := by rw [beq_eq_false_iff_ne]; exact h4
  have t5 : (k == 5) = false := by rw [beq_eq_false_iff_ne]; exact h5
  clear h0 h1 h2 h3 h4 h5
  have h2 := run_store_f64 Tryz.prog
  have hnot : ∀ (x : Bool) (w : World), (Op.unary .not (.bool x)).run Tryz.prog w = .ok (.bool (!x)) w := fun _ _ => rfl
  go_enter Tryz.func64, Tryz.ntmps64
  go_wp2_with fail
  go_ret
  refine ⟨rfl, ?_⟩
  repeat (with_reducible first | exact Touch.refl _ _ | refine Touch.alloc ?_ _ | refine Touch.drewN ?_ _ | refine Touch.setCell ?_ _ _ (fun h => by simp only at h; omega))
end Go.Proofs.YtphcnjbiojdalaaGreatDoor
