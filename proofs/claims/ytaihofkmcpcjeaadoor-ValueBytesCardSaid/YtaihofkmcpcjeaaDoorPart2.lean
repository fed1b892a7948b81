/- The library's contracts that value's functions call, laid at this program. -/
import Derived.Shelf.Strings.Builder1
import Derived.Test.YtaihofkmcpcjeaaDoorProg
import Derived.WalkKit
namespace Go.Proofs
open Go.Shelf
def Tryd.lays169_ren : Go.Shelf.Ren := ⟨fun | 169 => 90 | n => n, fun | 70 => 108 | 9 => 9 | 0 => 0 | 72 => 110 | 37 => 40 | 127 => 124 | 3 => 3 | 5 => 5 | n => n, fun | n => n⟩
theorem Tryd.lays169 : Go.Proofs.Lays.n169 Tryd.prog Tryd.lays169_ren := {
  mixed := by kernel_rfl
  f169 := Tryd.func90.trans (congrArg some (by kernel_rfl))
  t0 := Tryd.underlying0
  a0 := Tryd.isAgg0
  z0 := Tryd.sizeOf0
  v0 := Tryd.zeroValue0
  t3 := Tryd.underlying3
  a3 := Tryd.isAgg3
  z3 := Tryd.sizeOf3
  v3 := Tryd.zeroValue3
  t9 := Tryd.underlying9
  a9 := Tryd.isAgg9
  z9 := Tryd.sizeOf9
  v9 := Tryd.zeroValue9
  t37 := Tryd.underlying40
  a37 := Tryd.isAgg40
  z37 := Tryd.sizeOf40
  v37 := Tryd.zeroValue40
  t70 := Tryd.underlying108
  a70 := Tryd.isAgg108
  z70 := Tryd.sizeOf108
  v70 := Tryd.zeroValue108
  t72 := Tryd.underlying110
  a72 := Tryd.isAgg110
  z72 := Tryd.sizeOf110
  v72 := Tryd.zeroValue110
  t127 := Tryd.underlying124
  a127 := Tryd.isAgg124
  z127 := Tryd.sizeOf124
  v127 := Tryd.zeroValue124 }
theorem Tryd.Builder_Extra_169 : Builder.Extra Tryd.prog Tryd.lays169_ren := {
  sizeBuilder := by kernel_rfl
  liesBuilder := by kernel_rfl
  t5 := Tryd.underlying5
  a5 := Tryd.isAgg5
  z5 := Tryd.sizeOf5
  v5 := Tryd.zeroValue5
  infoByte := by kernel_rfl
  cellsByte := by kernel_rfl
  sizeByte := by kernel_rfl
  neB5 := by decide }
open Go.RowKit in
theorem Tryd.Builder_String_any (B b : Nat) (l : List UInt8) (w : World) (h : Lib.IsBuilder 110 5 B b (Lib.byteCells l) w) (hBw : B ≤ w.heap.size) :
    Calls Tryd.prog 90 #[.pointer (some ⟨b, 0, none⟩)] w fun e w' => e = .returned (.string ⟨l.toArray⟩) ∧ Below B w w' := Any.Builder_String_any Tryd.lays169 Tryd.Builder_Extra_169 B b l w h hBw
end Go.Proofs

/- Bytes between marks, as lists. It speaks of no program. -/
namespace Go.Proofs.YtaihofkmcpcjeaaDoor
open Go.RowKit
set_option linter.unusedVariables false

/-- Bytes with a stroke ahead of each mark and stroke. -/
def quoteGo : List UInt8 → List UInt8
  | [] => []
  | c :: cs => if c = 34 ∨ c = 92 then 92 :: c :: quoteGo cs else c :: quoteGo cs
theorem quoteGo_append (a b : List UInt8) : quoteGo (a ++ b) = quoteGo a ++ quoteGo b := by
  induction a with
  | nil => rfl
  | cons c cs ih =>
    simp only [List.cons_append, quoteGo, ih]
    split <;> rfl
theorem quoteGo_length (a : List UInt8) : (quoteGo a).length ≤ 2 * a.length := by
  induction a with
  | nil => simp [quoteGo]
  | cons c cs ih =>
    simp only [quoteGo]
    split <;> simp <;> omega
def refQuote (s : ByteArray) : ByteArray := ⟨(34 :: quoteGo s.data.toList ++ [34]).toArray⟩
end Go.Proofs.YtaihofkmcpcjeaaDoor

/- A word in sixteen digits, as a list. It speaks of no program. -/
namespace Go.Proofs.YtaihofkmcpcjeaaDoor
set_option linter.unusedVariables false

def hexDigits : List UInt8 := [48, 49, 50, 51, 52, 53, 54, 55, 56, 57, 97, 98, 99, 100, 101, 102]
/-- The k highest of sixteen digits. -/
def hexGo (n : Nat) (k : Nat) : List UInt8 := (List.range k).map fun j => hexDigits.getD (n / 16 ^ (15 - j) % 16) 0
theorem hexGo_succ (n k : Nat) : hexGo n (k + 1) = hexGo n k ++ [hexDigits.getD (n / 16 ^ (15 - k) % 16) 0] := by
  unfold hexGo; rw [List.range_succ, List.map_append]; rfl
theorem hexGo_length (n k : Nat) : (hexGo n k).length = k := by simp [hexGo]
end Go.Proofs.YtaihofkmcpcjeaaDoor
