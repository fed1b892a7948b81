/- A value (api.Value) as five fields; the order of values, as numbers. It speaks of no function. -/
import Derived.Test.YtkiicdleoniioaaDoorRef2a
import Derived.Deep.QuietTactic
import Derived.BigQuiet
namespace Go.Proofs.YtkiicdleoniioaaDoor
open Go.RowKit
set_option linter.unusedVariables false

/-- A double as a whole number that stands in the document's order. -/
def refOrder (f : Nat) : Int := if isNaN f then 9223372036854775807 else if f < 9223372036854775808 then f else 9223372036854775807 - (f : Int)

def refInts (a b : Int) : Int := if a < b then -1 else if b < a then 1 else 0

/-- A value (api.Value): its kind, number, float's bits, text. -/
structure V where
  k : Int
  n : Int
  f : Nat
  s : ByteArray
def V.val (v : V) : Value := .agg #[.int .i64 v.k, .int .i64 v.n, .float .f64 v.f, .string v.s]
def V.cells (v : V) : Array Value := #[.int .i64 v.k, .int .i64 v.n, .float .f64 v.f, .string v.s]

def refText (a b : ByteArray) : Int := if Op.bytesLess a.toList b.toList then -1 else if !Op.bytesLess a.toList b.toList && !(a.toList == b.toList) then 1 else 0
def refCmp (a b : V) : Int :=
  if refInts a.k b.k ≠ 0 then refInts a.k b.k else if refInts a.n b.n ≠ 0 then refInts a.n b.n else if refInts (refOrder a.f) (refOrder b.f) ≠ 0 then refInts (refOrder a.f) (refOrder b.f) else refText a.s b.s

theorem Touch.drewN {S : Nat → Prop} {a b : World} (h : Touch S a b) (n : Nat) : Touch S a (b.drewN n) := ⟨h.os, h.tape, h.output, h.size, h.block⟩

end Go.Proofs.YtkiicdleoniioaaDoor
