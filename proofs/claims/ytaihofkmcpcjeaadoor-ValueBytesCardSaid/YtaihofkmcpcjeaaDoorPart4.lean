/- Floats as values stand as their ranks do. It speaks of no function. -/
import Derived.Test.YtaihofkmcpcjeaaDoorPart3
import Derived.Laws.FloatArith
import Derived.Test.YtaihofkmcpcjeaaDoorVBase
namespace Go.Proofs.YtaihofkmcpcjeaaDoor
open Go.RowKit
set_option linter.unusedVariables false
set_option maxRecDepth 100000

abbrev fl (f : Nat) : V := ⟨3, 0, f, ⟨#[]⟩⟩
theorem refText_same (s : ByteArray) : refText s s = 0 := by
  have h : Op.bytesLess s.toList s.toList = false := by
    generalize s.toList = l
    induction l with
    | nil => rfl
    | cons x r ih => simp [Op.bytesLess, ih]
  unfold refText
  rw [h]
  simp
theorem refInts_same (a : Int) : refInts a a = 0 := by
  unfold refInts; rw [if_neg (by omega), if_neg (by omega)]
theorem refCmp_fl (a b : Nat) : refCmp (fl a) (fl b) = refInts (refOrder a) (refOrder b) := by
  unfold refCmp
  simp only [refInts_same, refText_same, ne_eq, not_true, if_false]
  split
  · rfl
  · rename_i h; simpa using Eq.symm (by simpa using h)

theorem refOrder_num (f : Nat) (h : isNaN f = false) (hf : f < 18446744073709551616) : refOrder f = (if f < 9223372036854775808 then fkey f else fkey f - 1) ∧ (f < 9223372036854775808 → fkey f = f) ∧ (¬ f < 9223372036854775808 → fkey f = 9223372036854775808 - (f : Int)) ∧ refOrder f < 9223372036854775807 := by
  have hr : ¬ fI < rung f := of_decide_eq_false h
  have hI : fI = 9218868437227405312 := rfl
  rw [hI] at hr
  unfold refOrder fkey fneg rung fS at *
  rw [h]
  by_cases hs : f < 9223372036854775808
  · have e1 : f % 9223372036854775808 = f := by omega
    have e2 : f / 9223372036854775808 = 0 := by omega
    rw [e1, e2] at *
    simp [hs]
    omega
  · have e1 : f % 9223372036854775808 = f - 9223372036854775808 := by omega
    have e2 : f / 9223372036854775808 = 1 := by omega
    rw [e1, e2] at *
    simp [hs]
    omega
theorem refOrder_nan (f : Nat) (h : isNaN f = true) : refOrder f = 9223372036854775807 := by
  unfold refOrder; rw [h]; rfl
end Go.Proofs.YtaihofkmcpcjeaaDoor

/- Floats stored and added; a sum as the document has it. It speaks of no function. -/
namespace Go.Proofs.YtaihofkmcpcjeaaDoor
open Go.RowKit
set_option linter.unusedVariables false

/-- A float is stored (a law of the walk that the library has for the other kinds). -/
theorem run_store_f64 (P : Program) (w : World) (a : Addr) (m : Mode) (b : Nat) : (store a (.float .f64 b) m).run P w = stored P w a (.float .f64 b) m := run_store P w a _ m rfl

def refClean (v : V) : V := if v.k = 3 then ⟨v.k, v.n, refBits v.f, v.s⟩ else v

def isNum (v : V) : Bool := v.k == 2 || v.k == 3

/-- The float that a number stands for; the sum of two. -/
def vFloat (v : V) : Nat := if v.k == 2 then floatOfInt .f64 v.n else v.f
def sumBits (x y : Nat) : Nat := match Ieee.double.add x y with
  | some r => refBits r
  | none => nanBits
def refAdd (a b : V) : V := if isNum a && isNum b then (if a.k == 2 && b.k == 2 then ⟨2, wrap64 (a.n + b.n), 0, .empty⟩ else ⟨3, 0, sumBits (vFloat a) (vFloat b), .empty⟩) else ⟨0, 0, 0, .empty⟩

/-- x + y of floats: the bits (drawn, where it is no number), and how much is drawn. -/
def addR (x y : Nat) (w : World) : Nat := match Ieee.double.add x y with
  | some r => r
  | none => Question.cut (.nanBits .f64 x y) (w.tape w.drawn (.nanBits .f64 x y))
def addN (x y : Nat) : Nat := match Ieee.double.add x y with
  | some _ => 0
  | none => 1
theorem addR_bits (x y : Nat) (w : World) : refBits (addR x y w) = sumBits x y := by
  unfold addR sumBits
  cases h : Ieee.double.add x y with
  | some r => rfl
  | none =>
    have : isNaN (Question.cut (.nanBits .f64 x y) (w.tape w.drawn (.nanBits .f64 x y))) = true := by
      simp only [Question.cut, isNaN, rung, fS, fI]
      generalize w.tape w.drawn (.nanBits .f64 x y) = t
      refine decide_eq_true ?_
      rcases Nat.mod_two_eq_zero_or_one t with e | e <;> rw [e] <;> omega
    simp only [refBits, this, if_true]
theorem run_add_f64 (P : Program) (x y : Nat) (t : TypeId) (w : World) : (binOp .add t (.float .f64 x) (.float .f64 y)).run P w = .ok (.float .f64 (addR x y w)) (w.drewN (addN x y)) := by
  unfold addR addN
  cases h : Ieee.double.add x y with
  | some r => exact run_float_arith w .add t .f64 x y r h
  | none =>
    simp [binOp, Op.floatArith, FloatKind.format, h, Question.forced]
    rfl
end Go.Proofs.YtaihofkmcpcjeaaDoor

/- The contracts of value's empty, asFloat. -/
namespace Go.Proofs.YtaihofkmcpcjeaaDoor
open Go.RowKit
set_option linter.unusedVariables false
set_option maxRecDepth 100000

/-- Nothing but a kind. -/
def vEmpty (v : V) : Bool := (v.n == 0) && ((v.f : Int) == 0) && v.s.toList.isEmpty
set_option maxHeartbeats 400000 in
theorem v_empty (v : V) (w : World) : Calls Tryd.prog 39 #[v.val] w fun e w' => e = .returned (.bool (vEmpty v)) ∧ w' = w.alloc (.cells v.cells 24) := by
  have HE : Hid (vEmpty v = ((v.n == 0) && ((v.f : Int) == 0) && v.s.toList.isEmpty)) := rfl
  generalize vEmpty v = E at *
  obtain ⟨k, n, f, s⟩ := v
  simp only [V.val, V.cells] at *
  have hb := f64bits_run
  cases h0 : (n == 0) <;> cases h1 : ((f : Int) == 0) <;> cases h2 : s.toList.isEmpty
  all_goals
    have HR2 := HE.out
    rw [h0, h1, h2] at HR2
    have HF : Hid (E = _) := HR2
    clear HR2 HE
    go_enter Tryd.func39, Tryd.ntmps39
    go_wp2_with fail
    go_ret
    exact ⟨by rw [HF.out]; rfl, rfl⟩

/-- The number as a float, and whether it is one. -/
def vNum (v : V) : Nat := if isNum v then vFloat v else 0
set_option maxHeartbeats 400000 in
theorem v_asFloat (v : V) (w : World) : Calls Tryd.prog 71 #[v.val] w fun e w' => e = .returned (.tuple #[.float .f64 (vNum v), .bool (isNum v)]) ∧ w' = w.alloc (.cells v.cells 24) := by
  obtain ⟨k, n, f, s⟩ := v
  have HN : Hid (vNum ⟨k, n, f, s⟩ = if (k == 2 || k == 3) then (if k == 2 then floatOfInt .f64 n else f) else 0) := rfl
  have HI : Hid (isNum ⟨k, n, f, s⟩ = (k == 2 || k == 3)) := rfl
  simp only [V.val, V.cells] at *
  generalize vNum ⟨k, n, f, s⟩ = A at *
  generalize isNum ⟨k, n, f, s⟩ = B at *
  cases t1 : (k == 2)
  · cases t2 : (k == 3)
    · have HX : Hid (A = 0 ∧ B = false) := ⟨by rw [HN.out, t1, t2]; rfl, by rw [HI.out, t1, t2]; rfl⟩
      clear HN HI
      go_enter Tryd.func71, Tryd.ntmps71
      go_wp2_with fail
      refine bodyPost_ret (by simp [results, Tryd.results71, go_sem]; rfl) rfl ⟨?_, rfl⟩
      rw [HX.out.1, HX.out.2]
    · have HX : Hid (A = f ∧ B = true) := ⟨by rw [HN.out, t1, t2]; rfl, by rw [HI.out, t1, t2]; rfl⟩
      clear HN HI
      go_enter Tryd.func71, Tryd.ntmps71
      go_wp2_with fail
      refine bodyPost_ret (by simp [results, Tryd.results71, go_sem]; rfl) rfl ⟨?_, rfl⟩
      rw [HX.out.1, HX.out.2]
  · have HX : Hid (A = floatOfInt .f64 n ∧ B = true) := ⟨by rw [HN.out, t1]; rfl, by rw [HI.out, t1]; rfl⟩
    clear HN HI
    go_enter Tryd.func71, Tryd.ntmps71
    go_wp2_with fail
    refine bodyPost_ret (by simp [results, Tryd.results71, go_sem]; rfl) rfl ⟨?_, rfl⟩
    rw [HX.out.1, HX.out.2]
end Go.Proofs.YtaihofkmcpcjeaaDoor
