/-
  No cell of these rows narrows 'for every input' (looked for: loops, veiled, ifaces, maps, wideKeys, modest, calm, conditions, laid).
  DERIVED. THE GIVEN ROWS OF THIS SEAT. 6 by the template 'for every input the law returns true; each argument reads behind the call as it read before'; 0 by the template 'total and deterministic' (their statements: YtdnhoicfolkbnaaGreatTotals.lean).
  GIVEN WITH THE SEED: the statements are not yours to turn. If you find one false, say at which input.
  Laid BY PROGRAM, IN A SANDBOX (cutbox-rows.mjs): the forced cells as the released guide's own fill.sh prints them over the translation ab8bbb40d4bbe278… (all of the seat's roots in one cut). By AI agents, Wed Nov 11 2026. No macro, syntax, notation, axiom, sorry.
-/
import Derived.Test.YtdnhoicfolkbnaaGreatChecked
import GoSem.Claim
import GoSem.ClaimJoined
import GoSem.ClaimMapViews
import Derived.JoinedTies
import Derived.KernelRfl
namespace Go.Proofs.YtdnhoicfolkbnaaGreat
/- THE CELL 'sum', in the pinned program and in every row, IS THE sha256 OF THE DUMP (.gsa) THAT YtdnhoicfolkbnaaGreatProg.lean LOADS. Nothing in Lean hashes anything: it is a label: what it is worth is what the hold of that sum in a sandbox is worth. -/
noncomputable def Tryz.pinned : Pinned := { name := "ytdnhoicfolkbnaagreat", sum := "ab8bbb40d4bbe2786aa0029ab50aef2e54382c570ffc078a053f113c1cefd025", checked := Tryz.checked }
namespace Rows
def none {H : Type} : Left H := { results := [], args := [] }

/-- 'quirelaw11.MarksPlace': WHATEVER THE INPUT: true; the input reads as it did. -/
def marksPlaceSpec : ChangeSpec := { name := "marksPlace", fn := fun _ => fun
  | [d1, d2, d3, d4] => { results := [.lit (.bool true)], args := [d1, d2, d3, d4] }
  | _ => none }
def marksPlaceRow : OpenClaim := { program := "ytdnhoicfolkbnaagreat", sum := "ab8bbb40d4bbe2786aa0029ab50aef2e54382c570ffc078a053f113c1cefd025", func := "quire/quirelaw11.MarksPlace", spec := "marksPlace", inPlace := ["math.Float64frombits", "math.Float64bits"], unfollowed := true, recurses := true, apart := false }
def MarksPlaceSaid : Prop := marksPlaceRow.holds Tryz.pinned (OpenSpec.ofChange marksPlaceSpec)

/-- ITS FALSE NEIGHBOUR: 'it returns false'. Refute it at one input. -/
def marksPlaceWrong : ChangeSpec := { name := "marksPlace", fn := fun _ => fun
  | [d1, d2, d3, d4] => { results := [.lit (.bool false)], args := [d1, d2, d3, d4] }
  | _ => none }
def MarksPlaceWrongFalsely : Prop := marksPlaceRow.holds Tryz.pinned (OpenSpec.ofChange marksPlaceWrong)

/-- 'quirelaw11.MarksShow': WHATEVER THE INPUT: true; the input reads as it did. -/
def marksShowSpec : ChangeSpec := { name := "marksShow", fn := fun _ => fun
  | [d1, d2] => { results := [.lit (.bool true)], args := [d1, d2] }
  | _ => none }
def marksShowRow : OpenClaim := { program := "ytdnhoicfolkbnaagreat", sum := "ab8bbb40d4bbe2786aa0029ab50aef2e54382c570ffc078a053f113c1cefd025", func := "quire/quirelaw11.MarksShow", spec := "marksShow", inPlace := ["math.Float64frombits", "math.Float64bits"], unfollowed := true, recurses := true, apart := false }
def MarksShowSaid : Prop := marksShowRow.holds Tryz.pinned (OpenSpec.ofChange marksShowSpec)

/-- ITS FALSE NEIGHBOUR: 'it returns false'. Refute it at one input. -/
def marksShowWrong : ChangeSpec := { name := "marksShow", fn := fun _ => fun
  | [d1, d2] => { results := [.lit (.bool false)], args := [d1, d2] }
  | _ => none }
def MarksShowWrongFalsely : Prop := marksShowRow.holds Tryz.pinned (OpenSpec.ofChange marksShowWrong)

/-- 'quirelaw11.MarksOrder': WHATEVER THE INPUT: true; the input reads as it did. -/
def marksOrderSpec : ChangeSpec := { name := "marksOrder", fn := fun _ => fun
  | [d1, d2, d3] => { results := [.lit (.bool true)], args := [d1, d2, d3] }
  | _ => none }
def marksOrderRow : OpenClaim := { program := "ytdnhoicfolkbnaagreat", sum := "ab8bbb40d4bbe2786aa0029ab50aef2e54382c570ffc078a053f113c1cefd025", func := "quire/quirelaw11.MarksOrder", spec := "marksOrder", inPlace := ["math.Float64frombits", "math.Float64bits"], unfollowed := true, recurses := true, apart := false }
def MarksOrderSaid : Prop := marksOrderRow.holds Tryz.pinned (OpenSpec.ofChange marksOrderSpec)

/-- ITS FALSE NEIGHBOUR: 'it returns false'. Refute it at one input. -/
def marksOrderWrong : ChangeSpec := { name := "marksOrder", fn := fun _ => fun
  | [d1, d2, d3] => { results := [.lit (.bool false)], args := [d1, d2, d3] }
  | _ => none }
def MarksOrderWrongFalsely : Prop := marksOrderRow.holds Tryz.pinned (OpenSpec.ofChange marksOrderWrong)

/-- 'quirelaw11.MarksLast': WHATEVER THE INPUT: true; the input reads as it did. -/
def marksLastSpec : ChangeSpec := { name := "marksLast", fn := fun _ => fun
  | [d1, d2, d3, d4, d5] => { results := [.lit (.bool true)], args := [d1, d2, d3, d4, d5] }
  | _ => none }
def marksLastRow : OpenClaim := { program := "ytdnhoicfolkbnaagreat", sum := "ab8bbb40d4bbe2786aa0029ab50aef2e54382c570ffc078a053f113c1cefd025", func := "quire/quirelaw11.MarksLast", spec := "marksLast", inPlace := ["math.Float64frombits", "math.Float64bits"], unfollowed := true, recurses := true, apart := false }
def MarksLastSaid : Prop := marksLastRow.holds Tryz.pinned (OpenSpec.ofChange marksLastSpec)

/-- ITS FALSE NEIGHBOUR: 'it returns false'. Refute it at one input. -/
def marksLastWrong : ChangeSpec := { name := "marksLast", fn := fun _ => fun
  | [d1, d2, d3, d4, d5] => { results := [.lit (.bool false)], args := [d1, d2, d3, d4, d5] }
  | _ => none }
def MarksLastWrongFalsely : Prop := marksLastRow.holds Tryz.pinned (OpenSpec.ofChange marksLastWrong)

/-- 'quirelaw11.MarksSame': WHATEVER THE INPUT: true; the input reads as it did. -/
def marksSameSpec : ChangeSpec := { name := "marksSame", fn := fun _ => fun
  | [d1, d2, d3, d4] => { results := [.lit (.bool true)], args := [d1, d2, d3, d4] }
  | _ => none }
def marksSameRow : OpenClaim := { program := "ytdnhoicfolkbnaagreat", sum := "ab8bbb40d4bbe2786aa0029ab50aef2e54382c570ffc078a053f113c1cefd025", func := "quire/quirelaw11.MarksSame", spec := "marksSame", inPlace := ["math.Float64frombits", "math.Float64bits"], unfollowed := true, recurses := true, apart := false }
def MarksSameSaid : Prop := marksSameRow.holds Tryz.pinned (OpenSpec.ofChange marksSameSpec)

/-- ITS FALSE NEIGHBOUR: 'it returns false'. Refute it at one input. -/
def marksSameWrong : ChangeSpec := { name := "marksSame", fn := fun _ => fun
  | [d1, d2, d3, d4] => { results := [.lit (.bool false)], args := [d1, d2, d3, d4] }
  | _ => none }
def MarksSameWrongFalsely : Prop := marksSameRow.holds Tryz.pinned (OpenSpec.ofChange marksSameWrong)

/-- 'quirelaw11.MarksGrow': WHATEVER THE INPUT: true; the input reads as it did. -/
def marksGrowSpec : ChangeSpec := { name := "marksGrow", fn := fun _ => fun
  | [d1, d2, d3] => { results := [.lit (.bool true)], args := [d1, d2, d3] }
  | _ => none }
def marksGrowRow : OpenClaim := { program := "ytdnhoicfolkbnaagreat", sum := "ab8bbb40d4bbe2786aa0029ab50aef2e54382c570ffc078a053f113c1cefd025", func := "quire/quirelaw11.MarksGrow", spec := "marksGrow", inPlace := ["math.Float64frombits", "math.Float64bits"], unfollowed := true, recurses := true, apart := false }
def MarksGrowSaid : Prop := marksGrowRow.holds Tryz.pinned (OpenSpec.ofChange marksGrowSpec)

/-- ITS FALSE NEIGHBOUR: 'it returns false'. Refute it at one input. -/
def marksGrowWrong : ChangeSpec := { name := "marksGrow", fn := fun _ => fun
  | [d1, d2, d3] => { results := [.lit (.bool false)], args := [d1, d2, d3] }
  | _ => none }
def MarksGrowWrongFalsely : Prop := marksGrowRow.holds Tryz.pinned (OpenSpec.ofChange marksGrowWrong)

/- THE SECOND FORM. 'bulk': how many values and letters a reading holds, each counted each time it is reached (what is shared counts as often as it is met; a slice's spare places count too). A statement '..UptoSaid' is the law's where the arguments, and the package variables that the reading takes, are together of bulk at most 1048576: NARROWER than '..Said'. Prove '..Said' where nothing that the law and all that it calls make is longer than what came in: it says more and counts as full. Else prove '..UptoSaid'. A law counts once. -/
mutual
def uptoBulk {H : Type} : DataW H → Nat
  | .lit (.string bytes) => bytes.length + 1
  | .lit _ => 1
  | .nil => 1
  | .ptr d => uptoBulk d + 1
  | .slice elems spare => uptoBulkAll elems + uptoBulkAll spare + 1
  | .agg parts => uptoBulkAll parts + 1
  | .iface _ d => uptoBulk d + 1
  | .map entries => uptoBulkEntries entries + 1
  | .held _ => 1
def uptoBulkAll {H : Type} : List (DataW H) → Nat
  | [] => 0
  | d :: r => uptoBulk d + uptoBulkAll r
def uptoBulkEntries {H : Type} : List (Lit × DataW H) → Nat
  | [] => 0
  | x :: r => uptoBulkEntry x + uptoBulkEntries r
def uptoBulkEntry {H : Type} : Lit × DataW H → Nat
  | (.string bytes, d) => bytes.length + uptoBulk d + 1
  | (_, d) => uptoBulk d + 1
 end
def uptoSmall : (H : Type) → List (DataW H) → Bool := fun _ ds => decide (uptoBulkAll ds ≤ 1048576)
def OpenSpec.upto (s : _root_.Go.ChangeSpec) : _root_.Go.OpenSpec := { _root_.Go.OpenSpec.ofChange s with cond := some uptoSmall }

/-- 'quirelaw11.MarksPlace', WHERE WHAT IT READS IS OF BULK AT MOST 1048576: true; the input reads as it did. -/
def marksPlaceUptoRow : OpenClaim := { program := "ytdnhoicfolkbnaagreat", sum := "ab8bbb40d4bbe2786aa0029ab50aef2e54382c570ffc078a053f113c1cefd025", func := "quire/quirelaw11.MarksPlace", spec := "marksPlace", inPlace := ["math.Float64frombits", "math.Float64bits"], unfollowed := true, recurses := true, apart := false, narrowed := true }
def MarksPlaceUptoSaid : Prop := marksPlaceUptoRow.holds Tryz.pinned (OpenSpec.upto marksPlaceSpec)

/-- 'quirelaw11.MarksShow', WHERE WHAT IT READS IS OF BULK AT MOST 1048576: true; the input reads as it did. -/
def marksShowUptoRow : OpenClaim := { program := "ytdnhoicfolkbnaagreat", sum := "ab8bbb40d4bbe2786aa0029ab50aef2e54382c570ffc078a053f113c1cefd025", func := "quire/quirelaw11.MarksShow", spec := "marksShow", inPlace := ["math.Float64frombits", "math.Float64bits"], unfollowed := true, recurses := true, apart := false, narrowed := true }
def MarksShowUptoSaid : Prop := marksShowUptoRow.holds Tryz.pinned (OpenSpec.upto marksShowSpec)

/-- 'quirelaw11.MarksOrder', WHERE WHAT IT READS IS OF BULK AT MOST 1048576: true; the input reads as it did. -/
def marksOrderUptoRow : OpenClaim := { program := "ytdnhoicfolkbnaagreat", sum := "ab8bbb40d4bbe2786aa0029ab50aef2e54382c570ffc078a053f113c1cefd025", func := "quire/quirelaw11.MarksOrder", spec := "marksOrder", inPlace := ["math.Float64frombits", "math.Float64bits"], unfollowed := true, recurses := true, apart := false, narrowed := true }
def MarksOrderUptoSaid : Prop := marksOrderUptoRow.holds Tryz.pinned (OpenSpec.upto marksOrderSpec)

/-- 'quirelaw11.MarksLast', WHERE WHAT IT READS IS OF BULK AT MOST 1048576: true; the input reads as it did. -/
def marksLastUptoRow : OpenClaim := { program := "ytdnhoicfolkbnaagreat", sum := "ab8bbb40d4bbe2786aa0029ab50aef2e54382c570ffc078a053f113c1cefd025", func := "quire/quirelaw11.MarksLast", spec := "marksLast", inPlace := ["math.Float64frombits", "math.Float64bits"], unfollowed := true, recurses := true, apart := false, narrowed := true }
def MarksLastUptoSaid : Prop := marksLastUptoRow.holds Tryz.pinned (OpenSpec.upto marksLastSpec)

/-- 'quirelaw11.MarksSame', WHERE WHAT IT READS IS OF BULK AT MOST 1048576: true; the input reads as it did. -/
def marksSameUptoRow : OpenClaim := { program := "ytdnhoicfolkbnaagreat", sum := "ab8bbb40d4bbe2786aa0029ab50aef2e54382c570ffc078a053f113c1cefd025", func := "quire/quirelaw11.MarksSame", spec := "marksSame", inPlace := ["math.Float64frombits", "math.Float64bits"], unfollowed := true, recurses := true, apart := false, narrowed := true }
def MarksSameUptoSaid : Prop := marksSameUptoRow.holds Tryz.pinned (OpenSpec.upto marksSameSpec)

/-- 'quirelaw11.MarksGrow', WHERE WHAT IT READS IS OF BULK AT MOST 1048576: true; the input reads as it did. -/
def marksGrowUptoRow : OpenClaim := { program := "ytdnhoicfolkbnaagreat", sum := "ab8bbb40d4bbe2786aa0029ab50aef2e54382c570ffc078a053f113c1cefd025", func := "quire/quirelaw11.MarksGrow", spec := "marksGrow", inPlace := ["math.Float64frombits", "math.Float64bits"], unfollowed := true, recurses := true, apart := false, narrowed := true }
def MarksGrowUptoSaid : Prop := marksGrowUptoRow.holds Tryz.pinned (OpenSpec.upto marksGrowSpec)

end Rows
end Go.Proofs.YtdnhoicfolkbnaaGreat
