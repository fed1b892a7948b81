/-
  No cell of these rows narrows 'for every input' (looked for: loops, veiled, ifaces, maps, wideKeys, modest, calm, conditions, laid).
  DERIVED. THE GIVEN ROWS OF THIS SEAT. 3 by the template 'for every input the law returns true; each argument reads behind the call as it read before'; 0 by the template 'total and deterministic' (their statements: YtnbphdmpbjahhabTotals.lean).
  GIVEN WITH THE SEED: the statements are not yours to turn. If you find one false, say at which input.
  Laid BY PROGRAM, IN A SANDBOX (cutbox-rows.mjs): the forced cells as the released guide's own fill.sh prints them over the translation 9b610fff3afb44e0… (all of the seat's roots in one cut). By AI agents, Wed Nov 11 2026. No macro, syntax, notation, axiom, sorry.
-/
import Derived.Test.YtnbphdmpbjahhabChecked
import GoSem.Claim
import GoSem.ClaimJoined
import GoSem.ClaimMapViews
import Derived.JoinedTies
import Derived.KernelRfl
namespace Go.Proofs.Ytnbphdmpbjahhab
/- THE CELL 'sum', in the pinned program and in every row, IS THE sha256 OF THE DUMP (.gsa) THAT YtnbphdmpbjahhabProg.lean LOADS. Nothing in Lean hashes anything: it is a label: what it is worth is what the hold of that sum in a sandbox is worth. -/
noncomputable def Try.pinned : Pinned := { name := "ytnbphdmpbjahhab", sum := "9b610fff3afb44e0931b88d3b3b6065b1f1fcad39516e31a5cdb9e8c1878737e", checked := Try.checked }
namespace Rows
def none {H : Type} : Left H := { results := [], args := [] }

/-- 'quirelaw9.SeqCopies': WHATEVER THE INPUT: true; the input reads as it did. -/
def seqCopiesSpec : ChangeSpec := { name := "seqCopies", fn := fun _ => fun
  | [d1, d2] => { results := [.lit (.bool true)], args := [d1, d2] }
  | _ => none }
def seqCopiesRow : OpenClaim := { program := "ytnbphdmpbjahhab", sum := "9b610fff3afb44e0931b88d3b3b6065b1f1fcad39516e31a5cdb9e8c1878737e", func := "quire/quirelaw9.SeqCopies", spec := "seqCopies", unfollowed := true, recurses := true, apart := false }
def SeqCopiesSaid : Prop := seqCopiesRow.holds Try.pinned (OpenSpec.ofChange seqCopiesSpec)

/-- ITS FALSE NEIGHBOUR: 'it returns false'. Refute it at one input. -/
def seqCopiesWrong : ChangeSpec := { name := "seqCopies", fn := fun _ => fun
  | [d1, d2] => { results := [.lit (.bool false)], args := [d1, d2] }
  | _ => none }
def SeqCopiesWrongFalsely : Prop := seqCopiesRow.holds Try.pinned (OpenSpec.ofChange seqCopiesWrong)

/-- 'quirelaw9.SeqLong': WHATEVER THE INPUT: true; the input reads as it did. -/
def seqLongSpec : ChangeSpec := { name := "seqLong", fn := fun _ => fun
  | [d1, d2] => { results := [.lit (.bool true)], args := [d1, d2] }
  | _ => none }
def seqLongRow : OpenClaim := { program := "ytnbphdmpbjahhab", sum := "9b610fff3afb44e0931b88d3b3b6065b1f1fcad39516e31a5cdb9e8c1878737e", func := "quire/quirelaw9.SeqLong", spec := "seqLong", unfollowed := true, recurses := true, apart := false }
def SeqLongSaid : Prop := seqLongRow.holds Try.pinned (OpenSpec.ofChange seqLongSpec)

/-- ITS FALSE NEIGHBOUR: 'it returns false'. Refute it at one input. -/
def seqLongWrong : ChangeSpec := { name := "seqLong", fn := fun _ => fun
  | [d1, d2] => { results := [.lit (.bool false)], args := [d1, d2] }
  | _ => none }
def SeqLongWrongFalsely : Prop := seqLongRow.holds Try.pinned (OpenSpec.ofChange seqLongWrong)

/-- 'quirelaw9.SeqWalks': WHATEVER THE INPUT: true; the input reads as it did. -/
def seqWalksSpec : ChangeSpec := { name := "seqWalks", fn := fun _ => fun
  | [d1, d2] => { results := [.lit (.bool true)], args := [d1, d2] }
  | _ => none }
def seqWalksRow : OpenClaim := { program := "ytnbphdmpbjahhab", sum := "9b610fff3afb44e0931b88d3b3b6065b1f1fcad39516e31a5cdb9e8c1878737e", func := "quire/quirelaw9.SeqWalks", spec := "seqWalks", unfollowed := true, recurses := true, apart := false }
def SeqWalksSaid : Prop := seqWalksRow.holds Try.pinned (OpenSpec.ofChange seqWalksSpec)

/-- ITS FALSE NEIGHBOUR: 'it returns false'. Refute it at one input. -/
def seqWalksWrong : ChangeSpec := { name := "seqWalks", fn := fun _ => fun
  | [d1, d2] => { results := [.lit (.bool false)], args := [d1, d2] }
  | _ => none }
def SeqWalksWrongFalsely : Prop := seqWalksRow.holds Try.pinned (OpenSpec.ofChange seqWalksWrong)

/- THE SECOND FORM. 'bulk': how many values and letters a reading holds, each counted each time it is reached (what is shared counts as often as it is met; a slice's spare places count too). A statement '..UptoSaid' is the law's where the arguments, and the package variables that the reading takes, are together of bulk at most 1048576: NARROWER than '..Said'. Prove '..Said' where nothing that the law and all that it calls make is longer than what came in: it says more and counts as full. Else prove '..UptoSaid'. A law counts once. -/
mutual
def uptoBulk {H : Type} : DataW H → Nat
  | .lit (.string bytes) => bytes.length + 1
  | .lit _ => 1
  | .nil => 1
  | .ptr d => uptoBulk d + 1
  | .slice elems spare => uptoBulkAll elems + uptoBulkAll spare + 1
  | .agg parts => uptoBulkAll parts + 1
  | .iface _ d => uptoBulk d + 1
  | .map entries => uptoBulkEntries entries + 1
  | .held _ => 1
def uptoBulkAll {H : Type} : List (DataW H) → Nat
  | [] => 0
  | d :: r => uptoBulk d + uptoBulkAll r
def uptoBulkEntries {H : Type} : List (Lit × DataW H) → Nat
  | [] => 0
  | x :: r => uptoBulkEntry x + uptoBulkEntries r
def uptoBulkEntry {H : Type} : Lit × DataW H → Nat
  | (.string bytes, d) => bytes.length + uptoBulk d + 1
  | (_, d) => uptoBulk d + 1
 end
def uptoSmall : (H : Type) → List (DataW H) → Bool := fun _ ds => decide (uptoBulkAll ds ≤ 1048576)
def OpenSpec.upto (s : _root_.Go.ChangeSpec) : _root_.Go.OpenSpec := { _root_.Go.OpenSpec.ofChange s with cond := some uptoSmall }

/-- 'quirelaw9.SeqCopies', WHERE WHAT IT READS IS OF BULK AT MOST 1048576: true; the input reads as it did. -/
def seqCopiesUptoRow : OpenClaim := { program := "ytnbphdmpbjahhab", sum := "9b610fff3afb44e0931b88d3b3b6065b1f1fcad39516e31a5cdb9e8c1878737e", func := "quire/quirelaw9.SeqCopies", spec := "seqCopies", unfollowed := true, recurses := true, apart := false, narrowed := true }
def SeqCopiesUptoSaid : Prop := seqCopiesUptoRow.holds Try.pinned (OpenSpec.upto seqCopiesSpec)

/-- 'quirelaw9.SeqLong', WHERE WHAT IT READS IS OF BULK AT MOST 1048576: true; the input reads as it did. -/
def seqLongUptoRow : OpenClaim := { program := "ytnbphdmpbjahhab", sum := "9b610fff3afb44e0931b88d3b3b6065b1f1fcad39516e31a5cdb9e8c1878737e", func := "quire/quirelaw9.SeqLong", spec := "seqLong", unfollowed := true, recurses := true, apart := false, narrowed := true }
def SeqLongUptoSaid : Prop := seqLongUptoRow.holds Try.pinned (OpenSpec.upto seqLongSpec)

/-- 'quirelaw9.SeqWalks', WHERE WHAT IT READS IS OF BULK AT MOST 1048576: true; the input reads as it did. -/
def seqWalksUptoRow : OpenClaim := { program := "ytnbphdmpbjahhab", sum := "9b610fff3afb44e0931b88d3b3b6065b1f1fcad39516e31a5cdb9e8c1878737e", func := "quire/quirelaw9.SeqWalks", spec := "seqWalks", unfollowed := true, recurses := true, apart := false, narrowed := true }
def SeqWalksUptoSaid : Prop := seqWalksUptoRow.holds Try.pinned (OpenSpec.upto seqWalksSpec)

end Rows
end Go.Proofs.Ytnbphdmpbjahhab
