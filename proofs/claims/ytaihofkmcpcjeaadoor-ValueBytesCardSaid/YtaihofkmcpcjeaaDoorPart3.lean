/- The contracts of quireref2: Bits, Bits. -/
import Derived.Test.YtaihofkmcpcjeaaDoorIeee
import Derived.Test.YtaihofkmcpcjeaaDoorPart1
import Derived.Test.YtaihofkmcpcjeaaDoorProg
import Derived.Laws.BitsAllLaws
import Derived.Deep.RegionHeld
import Derived.Deep.QuietTactic
import Derived.BigQuiet
namespace Go.Proofs.YtaihofkmcpcjeaaDoor
open Go.RowKit
set_option linter.unusedVariables false

theorem f64bits_run (b : Nat) (w : World) : (callFunc 14 #[.float .f64 b]).run Tryd.prog w = .ok (.value (.int .u64 b)) w := by kernel_rfl
theorem f64frombits_run (b : Nat) (w : World) : (callFunc 19 #[.int .u64 b]).run Tryd.prog w = .ok (.value (.float .f64 b)) w := by kernel_rfl

/-- f != f: just where f is a NaN. -/
theorem self_neq (b : Nat) : (FloatKind.f64.format.order b b != some Ordering.eq) = isNaN b := by
  show (Ieee.double.order b b != some Ordering.eq) = isNaN b
  rw [order_double]
  cases h : isNaN b
  · simp
  · simp

def nanBits : Nat := 9221120237041090560
def refBits (f : Nat) : Nat := if isNaN f then nanBits else f

set_option maxHeartbeats 400000 in
theorem ref_bits (f : Nat) (w : World) : Calls Tryd.prog 56 #[.float .f64 f] w fun e w' => e = .returned (.int .u64 (refBits f)) ∧ w' = w := by
  have h1 := f64bits_run
  have h2 := self_neq f
  cases h : isNaN f
  · rw [h] at h2
    have HE : Hid (refBits f = f) := by simp [Hid, refBits, h]
    go_enter Tryd.func56, Tryd.ntmps56
    go_wp2
    go_ret
    exact ⟨congrArg (fun x : Nat => Ending.returned (.int .u64 x)) HE.out.symm, rfl⟩
  · rw [h] at h2
    have HE : Hid (refBits f = nanBits) := by simp [Hid, refBits, h]
    go_enter Tryd.func56, Tryd.ntmps56
    go_wp2
    go_ret
    exact ⟨congrArg (fun x : Nat => Ending.returned (.int .u64 x)) HE.out.symm, rfl⟩
end Go.Proofs.YtaihofkmcpcjeaaDoor

/- A value (api.Value) as five fields; the order of values, as numbers. It speaks of no function. -/
namespace Go.Proofs.YtaihofkmcpcjeaaDoor
open Go.RowKit
set_option linter.unusedVariables false

/-- A double as a whole number that stands in the document's order. -/
def refOrder (f : Nat) : Int := if isNaN f then 9223372036854775807 else if f < 9223372036854775808 then f else 9223372036854775807 - (f : Int)

def refInts (a b : Int) : Int := if a < b then -1 else if b < a then 1 else 0

/-- A value (api.Value): its kind, number, float's bits, text. -/
structure V where
  k : Int
  n : Int
  f : Nat
  s : ByteArray
def V.val (v : V) : Value := .agg #[.int .i64 v.k, .int .i64 v.n, .float .f64 v.f, .string v.s]
def V.cells (v : V) : Array Value := #[.int .i64 v.k, .int .i64 v.n, .float .f64 v.f, .string v.s]

def refText (a b : ByteArray) : Int := if Op.bytesLess a.toList b.toList then -1 else if !Op.bytesLess a.toList b.toList && !(a.toList == b.toList) then 1 else 0
def refCmp (a b : V) : Int :=
  if refInts a.k b.k ≠ 0 then refInts a.k b.k else if refInts a.n b.n ≠ 0 then refInts a.n b.n else if refInts (refOrder a.f) (refOrder b.f) ≠ 0 then refInts (refOrder a.f) (refOrder b.f) else refText a.s b.s

theorem Touch.drewN {S : Nat → Prop} {a b : World} (h : Touch S a b) (n : Nat) : Touch S a (b.drewN n) := ⟨h.os, h.tape, h.output, h.size, h.block⟩

end Go.Proofs.YtaihofkmcpcjeaaDoor
