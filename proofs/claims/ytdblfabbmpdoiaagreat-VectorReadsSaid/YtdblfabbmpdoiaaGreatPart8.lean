/- Bytes that lie in a block. -/
import Derived.Test.YtdblfabbmpdoiaaGreatLib
import Derived.Test.YtdblfabbmpdoiaaGreatProg
import Derived.WalkKit
import Derived.WalkSpells
import Derived.WalkLawsBesides
import Derived.Defers
import Derived.Recover
namespace Go.Proofs.YtdblfabbmpdoiaaGreat
open Go.RowKit
set_option linter.unusedVariables false

/-- The bytes bs lie in block g, where a slice of that address begins (nothing is asked where there are none). -/
def Lies (w : World) (g : Nat) (ao : Option Addr) (bs : List UInt8) : Prop :=
  bs = [] ∨ ∃ off, ao = some ⟨g, off, none⟩ ∧ ∀ j (h : j < bs.length), w.cell? ⟨g, off + j, none⟩ = some (.int .u8 bs[j].toNat)

theorem Lies.drop {w : World} {g : Nat} {bs : List UInt8} {a : Addr} (h : Lies w g (some a) bs) (n : Nat) : Lies w g (some (a.add n)) (bs.drop n) := by
  rcases h with rfl | ⟨off, e, h⟩
  · exact .inl (by simp)
  · cases e
    refine .inr ⟨off + n, by simp [Addr.add], fun j hj => ?_⟩
    have := h (n + j) (by simp at hj; omega)
    rw [show off + n + j = off + (n + j) from by omega, this]; simp

theorem Lies.take {w : World} {g : Nat} {bs : List UInt8} {ao : Option Addr} (h : Lies w g ao bs) (n : Nat) : Lies w g ao (bs.take n) := by
  rcases h with rfl | ⟨off, e, h⟩
  · exact .inl (by simp)
  · exact .inr ⟨off, e, fun j hj => by have := h j (by simp at hj; omega); simpa using this⟩

theorem Lies.map {w : World} {g : Nat} {bs : List UInt8} {ao : Option Addr} (h : Lies w g ao bs) (n : Nat) : Lies w g (Option.map (fun x => x.add n) ao) (bs.drop n) := by
  rcases ao with _ | a
  · rcases h with rfl | ⟨off, e, _⟩
    · exact .inl (by simp)
    · cases e
  · exact h.drop n

/-- The bytes lie as they lay, where their block is as it was. -/
theorem Lies.keep {w w' : World} {g : Nat} {bs : List UInt8} {ao : Option Addr} (h : Lies w g ao bs) (hg : bs ≠ [] → w'.heap[g]? = w.heap[g]?) : Lies w' g ao bs := by
  by_cases e : bs = []
  · exact .inl e
  · rcases h with h | ⟨off, ha, h⟩
    · exact absurd h e
    · exact .inr ⟨off, ha, fun j hj => (World.cell?_of_block (a := ⟨g, off + j, none⟩) (hg e)).trans (h j hj)⟩

theorem Lies.lt {w : World} {g : Nat} {bs : List UInt8} {ao : Option Addr} (h : Lies w g ao bs) (e : bs ≠ []) : g < w.heap.size := by
  rcases h with h | ⟨off, ha, h⟩
  · exact absurd h e
  · exact World.block_lt_of_cell? _ _ (h 0 (List.length_pos_iff.2 e))
end Go.Proofs.YtdblfabbmpdoiaaGreat

/- The contracts of wire.Fail, wire.errnoOf, wire.Try: what a try answers, where its function returns, and where it fails. -/
namespace Go.Proofs.YtdblfabbmpdoiaaGreat
open Go.RowKit
set_option linter.unusedVariables false

/-- A failure, as Fail throws it. -/
def thrown (x : Int) : PanicEntry := { v := .iface 91 (.agg #[.int .i64 x]), recovered := false }

set_option maxHeartbeats 400000 in
theorem fail_any (x : Int) (w : World) (h : (x == 0) = false) :
    Calls Tryz.prog 63 #[.int .i64 x] w fun e w' => e = .panicked [thrown x] ∧ w' = w := by
  go_enter Tryz.func63, Tryz.ntmps63
  go_wp2
  exact ⟨rfl, rfl, rfl⟩

set_option maxHeartbeats 400000 in
theorem fail_zero (w : World) :
    Calls Tryz.prog 63 #[.int .i64 0] w fun e w' => e = .panicked [thrown 11] ∧ w' = w := by
  go_enter Tryz.func63, Tryz.ntmps63
  go_wp2
  exact ⟨rfl, rfl, rfl⟩

theorem assert_failure (x : Int) (w : World) : (Instr.typeAssert (.iface 91 (.agg #[.int .i64 x])) 20 91 true).run Tryz.prog w = .ok (.tuple #[.agg #[.int .i64 x], .bool true]) w := by kernel_rfl

set_option maxHeartbeats 400000 in
theorem errnoOf_any (x : Int) (w : World) :
    Calls Tryz.prog 50 #[.iface 91 (.agg #[.int .i64 x])] w fun e w' => e = .returned (.int .i64 x) ∧ w' = w.alloc (.cells #[.int .i64 x] 91) := by
  have ha := assert_failure x
  have hnot : ∀ (x : Bool) (w : World), (Op.unary .not (.bool x)).run Tryz.prog w = .ok (.bool (!x)) w := fun _ _ => rfl
  go_enter Tryz.func50, Tryz.ntmps50
  go_wp2
  go_ret
  exact ⟨rfl, rfl⟩

set_option maxHeartbeats 400000 in
theorem caught_panic (pb : Nat) (x y : Int) (older : List PanicEntry) (w : World) (hc : w.cell? ⟨pb, 0, none⟩ = some (.int .i64 y)) (hz : w.frozen? ⟨pb, 0, none⟩ = false) :
    CallsD Tryz.prog 49 #[.pointer (some ⟨pb, 0, none⟩)] (.panicking (thrown x :: older)) w fun e u' w' =>
      e = .returned (.tuple #[]) ∧ u' = .panicking ({ thrown x with recovered := true } :: older) ∧ w' = (w.setCell ⟨pb, 0, none⟩ (.int .i64 x)).alloc (.cells #[.int .i64 x] 91) := by
  have hp : pb < w.heap.size := World.block_lt_of_cell? _ _ hc
  refine callsD_of_wpS Tryz.func49 rfl fun c₀ cs hu => ?_
  apply wpS_seq
  apply wpS_region
  simp [wpOpsS, go_sem, recoverD, hu, Tryz.ntmps49, Exit.thenS, thrown]
  apply wpS_of_wp
  go_wp2_with (go_at_call 50; refine (errnoOf_any _ _).mono ?_; rintro e w1 ⟨rfl, rfl⟩)
  simp [bodyPostS, results, Tryz.results49]

set_option maxHeartbeats 400000 in
theorem caught_none (pb : Nat) (w : World) :
    CallsD Tryz.prog 49 #[.pointer (some ⟨pb, 0, none⟩)] .returning w fun e u' w' => e = .returned (.tuple #[]) ∧ u' = .returning ∧ w' = w := by
  refine callsD_of_wpS Tryz.func49 rfl fun c₀ cs hu => ?_
  apply wpS_seq
  apply wpS_region
  simp [wpOpsS, go_sem, recoverD, hu, Tryz.ntmps49, Exit.thenS]
  apply wpS_of_wp
  go_wp2
  cases c₀
  simp_all [bodyPostS, results, Tryz.results49]

/-- A try whose function returns: OK; the box of the result is new. -/
theorem try_ok (K : FuncId) (cap : Array Value) (w : World) (R : World → Prop) (hK : ∀ w, (callFunc K cap).run Tryz.prog w = .ok (.enter K cap) w)
    (hf : Calls Tryz.prog K cap (w.alloc (.cells #[.int .i64 0] 39)) fun e w2 => e = .returned (.tuple #[]) ∧ R w2 ∧ w2.cell? ⟨w.heap.size, 0, none⟩ = some (.int .i64 0) ∧ w2.frozen? ⟨w.heap.size, 0, none⟩ = false) :
    Calls Tryz.prog 33 #[.func (.func K) #[] cap] w fun e w' => e = .returned (.int .i64 0) ∧ ∃ w2, R w2 ∧ w' = w2.setCell ⟨w.heap.size, 0, none⟩ (.int .i64 0) := by
  have hmf : ∀ (fn : Fn) (first cap : Array Value) (w : World), (Instr.makeFunc fn first cap).run Tryz.prog w = .ok (.func fn first cap) w := fun _ _ _ _ => rfl
  have H : Hid (Calls Tryz.prog K cap (w.alloc (.cells #[.int .i64 0] 39)) _) := hf
  clear hf
  go_enter_defers Tryz.func33, Tryz.ntmps33
  go_wp2_with fail
  refine H.out.mono ?_
  rintro e w2 ⟨rfl, hR, hc, hz⟩
  go_wp2
  refine leaves_cons (f := 49) (args := #[.pointer (some ⟨w.heap.size, 0, none⟩)]) (by simp) (by simp [go_sem]) ?_
  refine (caught_none w.heap.size _).mono ?_
  rintro e u' w'' ⟨rfl, rfl, rfl⟩
  simp [Leaves, settle, results, Tryz.results33, go_sem, World.cell?_setCell_same _ _ _ hc]
  exact ⟨_, hR, rfl⟩

/-- A try whose function fails: the error; the box of the result is new, and one more is. -/
theorem try_fail (K : FuncId) (cap : Array Value) (x : Int) (w : World) (R : World → Prop) (hK : ∀ w, (callFunc K cap).run Tryz.prog w = .ok (.enter K cap) w)
    (hf : Calls Tryz.prog K cap (w.alloc (.cells #[.int .i64 0] 39)) fun e w2 => e = .panicked [thrown x] ∧ R w2 ∧ w2.cell? ⟨w.heap.size, 0, none⟩ = some (.int .i64 0) ∧ w2.frozen? ⟨w.heap.size, 0, none⟩ = false) :
    Calls Tryz.prog 33 #[.func (.func K) #[] cap] w fun e w' => e = .returned (.int .i64 x) ∧ ∃ w2, R w2 ∧ w' = (w2.setCell ⟨w.heap.size, 0, none⟩ (.int .i64 x)).alloc (.cells #[.int .i64 x] 91) := by
  have hmf : ∀ (fn : Fn) (first cap : Array Value) (w : World), (Instr.makeFunc fn first cap).run Tryz.prog w = .ok (.func fn first cap) w := fun _ _ _ _ => rfl
  have H : Hid (Calls Tryz.prog K cap (w.alloc (.cells #[.int .i64 0] 39)) _) := hf
  clear hf
  go_enter_defers Tryz.func33, Tryz.ntmps33
  go_wp2_with fail
  refine H.out.mono ?_
  rintro e w2 ⟨rfl, hR, hc, hz⟩
  refine leaves_cons (f := 49) (args := #[.pointer (some ⟨w.heap.size, 0, none⟩)]) (by simp) (by simp [go_sem]) ?_
  refine (caught_panic w.heap.size x 0 [] _ hc hz).mono ?_
  rintro e u' w'' ⟨rfl, rfl, rfl⟩
  have hp : w.heap.size < w2.heap.size := World.block_lt_of_cell? _ _ hc
  simp [Leaves, settle, results, Tryz.results33, go_sem, hp, World.cell?_setCell_same _ _ _ hc]
  exact ⟨_, hR, rfl⟩
end Go.Proofs.YtdblfabbmpdoiaaGreat
