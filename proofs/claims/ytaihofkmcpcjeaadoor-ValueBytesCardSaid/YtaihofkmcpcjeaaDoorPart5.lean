/- The contract of quirelaw2.light. -/
import Derived.Test.YtaihofkmcpcjeaaDoorPart3
import Derived.Deep.QuietTactic
import Derived.BigQuiet
import Derived.Test.YtaihofkmcpcjeaaDoorProg
import Derived.WalkKit
import Derived.WalkSpells
import Derived.WalkLawsBesides
import Derived.Defers
import Derived.Recover
namespace Go.Proofs.YtaihofkmcpcjeaaDoor
open Go.RowKit
set_option linter.unusedVariables false
set_option maxRecDepth 100000

set_option maxHeartbeats 400000 in
theorem l_light (k n : Int) (f : Nat) (s : ByteArray) (w : World) : Calls Tryd.prog 10 #[.agg #[.int .i64 k, .int .i64 n, .float .f64 f, .string s]] w fun e w' => e = .returned (.bool (decide (s.size ≤ 6000))) ∧ w' = w.alloc (.cells #[.int .i64 k, .int .i64 n, .float .f64 f, .string s] 24) := by
  go_enter Tryd.func10, Tryd.ntmps10
  go_wp2_with fail
  go_ret
  refine ⟨?_, rfl⟩
  simp only [Ending.returned.injEq]
  by_cases h : s.size ≤ 6000
  · rw [decide_eq_true h]; simp; omega
  · rw [decide_eq_false h]; simp; omega
end Go.Proofs.YtaihofkmcpcjeaaDoor

/- The contract of quirelaw2.bits, at a value and itself. -/
namespace Go.Proofs.YtaihofkmcpcjeaaDoor
open Go.RowKit
set_option linter.unusedVariables false
set_option maxRecDepth 100000

set_option maxHeartbeats 400000 in
theorem l_bits (k n : Int) (f : Nat) (s : ByteArray) (w : World) : Calls Tryd.prog 15 #[.agg #[.int .i64 k, .int .i64 n, .float .f64 f, .string s], .agg #[.int .i64 k, .int .i64 n, .float .f64 f, .string s]] w fun e w' => e = .returned (.bool true) ∧ Touch (fun _ => False) w w' := by
  have hb := f64bits_run
  have e0 : (k == k) = true := by simp
  have e1 : (n == n) = true := by simp
  have e2 : (s.toList == s.toList) = true := by simp
  have e3 : ((f : Int) == (f : Int)) = true := by simp
  have HT : Hid (Touch (fun _ => False) w ((w.alloc (.cells #[.int .i64 k, .int .i64 n, .float .f64 f, .string s] 24)).alloc (.cells #[.int .i64 k, .int .i64 n, .float .f64 f, .string s] 24))) := ((Touch.refl _ _).alloc _).alloc _
  go_enter Tryd.func15, Tryd.ntmps15
  go_wp2_with fail
  go_quiet (fail)
  go_wp2_with fail
  go_ret
  exact ⟨rfl, HT.out.drewN _⟩
end Go.Proofs.YtaihofkmcpcjeaaDoor

/- The contracts of wire.Fail, wire.errnoOf, wire.Try: what a try answers, where its function returns, and where it fails. -/
namespace Go.Proofs.YtaihofkmcpcjeaaDoor
open Go.RowKit
set_option linter.unusedVariables false

/-- A failure, as Fail throws it. -/
def thrown (x : Int) : PanicEntry := { v := .iface 137 (.agg #[.int .i64 x]), recovered := false }

set_option maxHeartbeats 400000 in
theorem fail_any (x : Int) (w : World) (h : (x == 0) = false) :
    Calls Tryd.prog 105 #[.int .i64 x] w fun e w' => e = .panicked [thrown x] ∧ w' = w := by
  go_enter Tryd.func105, Tryd.ntmps105
  go_wp2
  exact ⟨rfl, rfl, rfl⟩

set_option maxHeartbeats 400000 in
theorem fail_zero (w : World) :
    Calls Tryd.prog 105 #[.int .i64 0] w fun e w' => e = .panicked [thrown 11] ∧ w' = w := by
  go_enter Tryd.func105, Tryd.ntmps105
  go_wp2
  exact ⟨rfl, rfl, rfl⟩

theorem assert_failure (x : Int) (w : World) : (Instr.typeAssert (.iface 137 (.agg #[.int .i64 x])) 20 137 true).run Tryd.prog w = .ok (.tuple #[.agg #[.int .i64 x], .bool true]) w := by kernel_rfl

set_option maxHeartbeats 400000 in
theorem errnoOf_any (x : Int) (w : World) :
    Calls Tryd.prog 113 #[.iface 137 (.agg #[.int .i64 x])] w fun e w' => e = .returned (.int .i64 x) ∧ w' = w.alloc (.cells #[.int .i64 x] 137) := by
  have ha := assert_failure x
  have hnot : ∀ (x : Bool) (w : World), (Op.unary .not (.bool x)).run Tryd.prog w = .ok (.bool (!x)) w := fun _ _ => rfl
  go_enter Tryd.func113, Tryd.ntmps113
  go_wp2
  go_ret
  exact ⟨rfl, rfl⟩

set_option maxHeartbeats 400000 in
theorem caught_panic (pb : Nat) (x y : Int) (older : List PanicEntry) (w : World) (hc : w.cell? ⟨pb, 0, none⟩ = some (.int .i64 y)) (hz : w.frozen? ⟨pb, 0, none⟩ = false) :
    CallsD Tryd.prog 112 #[.pointer (some ⟨pb, 0, none⟩)] (.panicking (thrown x :: older)) w fun e u' w' =>
      e = .returned (.tuple #[]) ∧ u' = .panicking ({ thrown x with recovered := true } :: older) ∧ w' = (w.setCell ⟨pb, 0, none⟩ (.int .i64 x)).alloc (.cells #[.int .i64 x] 137) := by
  have hp : pb < w.heap.size := World.block_lt_of_cell? _ _ hc
  refine callsD_of_wpS Tryd.func112 rfl fun c₀ cs hu => ?_
  apply wpS_seq
  apply wpS_region
  simp [wpOpsS, go_sem, recoverD, hu, Tryd.ntmps112, Exit.thenS, thrown]
  apply wpS_of_wp
  go_wp2_with (go_at_call 113; refine (errnoOf_any _ _).mono ?_; rintro e w1 ⟨rfl, rfl⟩)
  simp [bodyPostS, results, Tryd.results112]

set_option maxHeartbeats 400000 in
theorem caught_none (pb : Nat) (w : World) :
    CallsD Tryd.prog 112 #[.pointer (some ⟨pb, 0, none⟩)] .returning w fun e u' w' => e = .returned (.tuple #[]) ∧ u' = .returning ∧ w' = w := by
  refine callsD_of_wpS Tryd.func112 rfl fun c₀ cs hu => ?_
  apply wpS_seq
  apply wpS_region
  simp [wpOpsS, go_sem, recoverD, hu, Tryd.ntmps112, Exit.thenS]
  apply wpS_of_wp
  go_wp2
  cases c₀
  simp_all [bodyPostS, results, Tryd.results112]

/-- A try whose function returns: OK; the box of the result is new. -/
theorem try_ok (K : FuncId) (cap : Array Value) (w : World) (R : World → Prop) (hK : ∀ w, (callFunc K cap).run Tryd.prog w = .ok (.enter K cap) w)
    (hf : Calls Tryd.prog K cap (w.alloc (.cells #[.int .i64 0] 28)) fun e w2 => e = .returned (.tuple #[]) ∧ R w2 ∧ w2.cell? ⟨w.heap.size, 0, none⟩ = some (.int .i64 0) ∧ w2.frozen? ⟨w.heap.size, 0, none⟩ = false) :
    Calls Tryd.prog 104 #[.func (.func K) #[] cap] w fun e w' => e = .returned (.int .i64 0) ∧ ∃ w2, R w2 ∧ w' = w2.setCell ⟨w.heap.size, 0, none⟩ (.int .i64 0) := by
  have hmf : ∀ (fn : Fn) (first cap : Array Value) (w : World), (Instr.makeFunc fn first cap).run Tryd.prog w = .ok (.func fn first cap) w := fun _ _ _ _ => rfl
  have H : Hid (Calls Tryd.prog K cap (w.alloc (.cells #[.int .i64 0] 28)) _) := hf
  clear hf
  go_enter_defers Tryd.func104, Tryd.ntmps104
  go_wp2_with fail
  refine H.out.mono ?_
  rintro e w2 ⟨rfl, hR, hc, hz⟩
  go_wp2
  refine leaves_cons (f := 112) (args := #[.pointer (some ⟨w.heap.size, 0, none⟩)]) (by simp) (by simp [go_sem]) ?_
  refine (caught_none w.heap.size _).mono ?_
  rintro e u' w'' ⟨rfl, rfl, rfl⟩
  simp [Leaves, settle, results, Tryd.results104, go_sem, World.cell?_setCell_same _ _ _ hc]
  exact ⟨_, hR, rfl⟩

/-- A try whose function fails: the error; the box of the result is new, and one more is. -/
theorem try_fail (K : FuncId) (cap : Array Value) (x : Int) (w : World) (R : World → Prop) (hK : ∀ w, (callFunc K cap).run Tryd.prog w = .ok (.enter K cap) w)
    (hf : Calls Tryd.prog K cap (w.alloc (.cells #[.int .i64 0] 28)) fun e w2 => e = .panicked [thrown x] ∧ R w2 ∧ w2.cell? ⟨w.heap.size, 0, none⟩ = some (.int .i64 0) ∧ w2.frozen? ⟨w.heap.size, 0, none⟩ = false) :
    Calls Tryd.prog 104 #[.func (.func K) #[] cap] w fun e w' => e = .returned (.int .i64 x) ∧ ∃ w2, R w2 ∧ w' = (w2.setCell ⟨w.heap.size, 0, none⟩ (.int .i64 x)).alloc (.cells #[.int .i64 x] 137) := by
  have hmf : ∀ (fn : Fn) (first cap : Array Value) (w : World), (Instr.makeFunc fn first cap).run Tryd.prog w = .ok (.func fn first cap) w := fun _ _ _ _ => rfl
  have H : Hid (Calls Tryd.prog K cap (w.alloc (.cells #[.int .i64 0] 28)) _) := hf
  clear hf
  go_enter_defers Tryd.func104, Tryd.ntmps104
  go_wp2_with fail
  refine H.out.mono ?_
  rintro e w2 ⟨rfl, hR, hc, hz⟩
  refine leaves_cons (f := 112) (args := #[.pointer (some ⟨w.heap.size, 0, none⟩)]) (by simp) (by simp [go_sem]) ?_
  refine (caught_panic w.heap.size x 0 [] _ hc hz).mono ?_
  rintro e u' w'' ⟨rfl, rfl, rfl⟩
  have hp : w.heap.size < w2.heap.size := World.block_lt_of_cell? _ _ hc
  simp [Leaves, settle, results, Tryd.results104, go_sem, hp, World.cell?_setCell_same _ _ _ hc]
  exact ⟨_, hR, rfl⟩
end Go.Proofs.YtaihofkmcpcjeaaDoor
