/- The contract of wire's Reader.Uint. -/
import Derived.Test.YtkiicdleoniioaaDoorPart7
namespace Go.Proofs.YtkiicdleoniioaaDoor
open Go.RowKit
set_option linter.unusedVariables false

/-- The closure's own cells. -/
structure UintBoxes (w : World) (p b0 b1 b2 most : Nat) (n : Int) : Prop where
  r : w.heap[b0]? = some (.cells #[.pointer (some ⟨p, 0, none⟩)] 24 (0, 0))
  m : w.heap[b1]? = some (.cells #[.int .u64 most] 46 (0, 0))
  n : w.heap[b2]? = some (.cells #[.int .u64 n] 46 (0, 0))

def UintInPost (p g : Nat) (bs : List UInt8) (b2 most : Nat) (w : World) (e : Ending) (w' : World) : Prop :=
  ((rdU bs most).1 = 0 ∧ e = .returned (.tuple #[]) ∧ Rd w' p g (rdU bs most).2.2 0 ∧ Touch (fun k => k = p ∨ k = b2) w w' ∧ w'.heap[b2]? = some (.cells #[.int .u64 (rdU bs most).2.1] 46 (0, 0))) ∨
  ((rdU bs most).1 ≠ 0 ∧ (rdU bs most).2 = (0, bs) ∧ e = .panicked [thrown (rdU bs most).1] ∧ (∃ cs, Rd w' p g cs 0) ∧ Touch (fun k => k = p ∨ k = b2) w w' ∧ w'.heap[b2]? = some (.cells #[.int .u64 0] 46 (0, 0)))

/-- What a Reader's Uint reads: the error, the number, what is left. -/
def rdUint (bs : List UInt8) (er : Int) (most : Nat) : Int × Nat × List UInt8 := if er ≠ 0 then (er, 0, bs) else rdU bs most

def UintPost (p g : Nat) (bs : List UInt8) (er : Int) (most : Nat) (w : World) (e : Ending) (w' : World) : Prop :=
  e = .returned (.int .u64 (rdUint bs er most).2.1) ∧ Rd w' p g (rdUint bs er most).2.2 (rdUint bs er most).1 ∧ Touch (· = p) w w'

theorem UintBoxes.alloc {w : World} {p b0 b1 b2 most : Nat} {n : Int} (h : UintBoxes w p b0 b1 b2 most n) (o : Obj) : UintBoxes (w.alloc o) p b0 b1 b2 most n :=
  ⟨(Below.heap_alloc _ _ _ (lt_of_heap h.r)).trans h.r, (Below.heap_alloc _ _ _ (lt_of_heap h.m)).trans h.m, (Below.heap_alloc _ _ _ (lt_of_heap h.n)).trans h.n⟩

def UintMidPost (p g : Nat) (bs : List UInt8) (er : Int) (b2 most : Nat) (w : World) (e : Ending) (w' : World) : Prop :=
  e = .returned (.tuple #[]) ∧ Rd w' p g (rdUint bs er most).2.2 (rdUint bs er most).1 ∧ Touch (fun k => k = p ∨ k = b2) w w' ∧ w'.heap[b2]? = some (.cells #[.int .u64 (rdUint bs er most).2.1] 46 (0, 0))

end Go.Proofs.YtkiicdleoniioaaDoor
