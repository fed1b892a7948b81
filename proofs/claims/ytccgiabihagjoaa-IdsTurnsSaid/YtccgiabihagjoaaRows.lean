/-
  No cell of these rows narrows 'for every input' (looked for: loops, veiled, ifaces, maps, wideKeys, modest, calm, conditions, laid).
  DERIVED. THE GIVEN ROWS OF THIS SEAT. 2 by the template 'for every input the law returns true; each argument reads behind the call as it read before'; 0 by the template 'total and deterministic' (their statements: YtccgiabihagjoaaTotals.lean).
  GIVEN WITH THE SEED: the statements are not yours to turn. If you find one false, say at which input.
  Laid BY PROGRAM, IN A SANDBOX (cutbox-rows.mjs): the forced cells as the released guide's own fill.sh prints them over the translation 38c455cc35e4edb0… (all of the seat's roots in one cut). By AI agents, Wed Nov 11 2026. No macro, syntax, notation, axiom, sorry.
-/
import Derived.Test.YtccgiabihagjoaaChecked
import GoSem.Claim
import GoSem.ClaimJoined
import GoSem.ClaimMapViews
import Derived.JoinedTies
import Derived.KernelRfl
namespace Go.Proofs.Ytccgiabihagjoaa
/- THE CELL 'sum', in the pinned program and in every row, IS THE sha256 OF THE DUMP (.gsa) THAT YtccgiabihagjoaaProg.lean LOADS. Nothing in Lean hashes anything: it is a label: what it is worth is what the hold of that sum in a sandbox is worth. -/
noncomputable def Try.pinned : Pinned := { name := "ytccgiabihagjoaa", sum := "38c455cc35e4edb0a5f92b0b39bd815e99b5339e5d9feccd7ce1e3beca7c9b85", checked := Try.checked }
namespace Rows
def none {H : Type} : Left H := { results := [], args := [] }

/-- 'quirelaw6.IdsTurns': WHATEVER THE INPUT: true; the input reads as it did. -/
def idsTurnsSpec : ChangeSpec := { name := "idsTurns", fn := fun _ => fun
  | [d1, d2] => { results := [.lit (.bool true)], args := [d1, d2] }
  | _ => none }
def idsTurnsRow : OpenClaim := { program := "ytccgiabihagjoaa", sum := "38c455cc35e4edb0a5f92b0b39bd815e99b5339e5d9feccd7ce1e3beca7c9b85", func := "quire/quirelaw6.IdsTurns", spec := "idsTurns", unfollowed := true, recurses := true, apart := false }
def IdsTurnsSaid : Prop := idsTurnsRow.holds Try.pinned (OpenSpec.ofChange idsTurnsSpec)

/-- ITS FALSE NEIGHBOUR: 'it returns false'. Refute it at one input. -/
def idsTurnsWrong : ChangeSpec := { name := "idsTurns", fn := fun _ => fun
  | [d1, d2] => { results := [.lit (.bool false)], args := [d1, d2] }
  | _ => none }
def IdsTurnsWrongFalsely : Prop := idsTurnsRow.holds Try.pinned (OpenSpec.ofChange idsTurnsWrong)

/-- 'quirelaw6.IdsJoinTurns': WHATEVER THE INPUT: true; the input reads as it did. -/
def idsJoinTurnsSpec : ChangeSpec := { name := "idsJoinTurns", fn := fun _ => fun
  | [d1, d2, d3, d4] => { results := [.lit (.bool true)], args := [d1, d2, d3, d4] }
  | _ => none }
def idsJoinTurnsRow : OpenClaim := { program := "ytccgiabihagjoaa", sum := "38c455cc35e4edb0a5f92b0b39bd815e99b5339e5d9feccd7ce1e3beca7c9b85", func := "quire/quirelaw6.IdsJoinTurns", spec := "idsJoinTurns", unfollowed := true, recurses := true, apart := false }
def IdsJoinTurnsSaid : Prop := idsJoinTurnsRow.holds Try.pinned (OpenSpec.ofChange idsJoinTurnsSpec)

/-- ITS FALSE NEIGHBOUR: 'it returns false'. Refute it at one input. -/
def idsJoinTurnsWrong : ChangeSpec := { name := "idsJoinTurns", fn := fun _ => fun
  | [d1, d2, d3, d4] => { results := [.lit (.bool false)], args := [d1, d2, d3, d4] }
  | _ => none }
def IdsJoinTurnsWrongFalsely : Prop := idsJoinTurnsRow.holds Try.pinned (OpenSpec.ofChange idsJoinTurnsWrong)

/- THE SECOND FORM. 'bulk': how many values and letters a reading holds, each counted each time it is reached (what is shared counts as often as it is met; a slice's spare places count too). A statement '..UptoSaid' is the law's where the arguments, and the package variables that the reading takes, are together of bulk at most 1048576: NARROWER than '..Said'. Prove '..Said' where nothing that the law and all that it calls make is longer than what came in: it says more and counts as full. Else prove '..UptoSaid'. A law counts once. -/
mutual
def uptoBulk {H : Type} : DataW H → Nat
  | .lit (.string bytes) => bytes.length + 1
  | .lit _ => 1
  | .nil => 1
  | .ptr d => uptoBulk d + 1
  | .slice elems spare => uptoBulkAll elems + uptoBulkAll spare + 1
  | .agg parts => uptoBulkAll parts + 1
  | .iface _ d => uptoBulk d + 1
  | .map entries => uptoBulkEntries entries + 1
  | .held _ => 1
def uptoBulkAll {H : Type} : List (DataW H) → Nat
  | [] => 0
  | d :: r => uptoBulk d + uptoBulkAll r
def uptoBulkEntries {H : Type} : List (Lit × DataW H) → Nat
  | [] => 0
  | x :: r => uptoBulkEntry x + uptoBulkEntries r
def uptoBulkEntry {H : Type} : Lit × DataW H → Nat
  | (.string bytes, d) => bytes.length + uptoBulk d + 1
  | (_, d) => uptoBulk d + 1
 end
def uptoSmall : (H : Type) → List (DataW H) → Bool := fun _ ds => decide (uptoBulkAll ds ≤ 1048576)
def OpenSpec.upto (s : _root_.Go.ChangeSpec) : _root_.Go.OpenSpec := { _root_.Go.OpenSpec.ofChange s with cond := some uptoSmall }

/-- 'quirelaw6.IdsTurns', WHERE WHAT IT READS IS OF BULK AT MOST 1048576: true; the input reads as it did. -/
def idsTurnsUptoRow : OpenClaim := { program := "ytccgiabihagjoaa", sum := "38c455cc35e4edb0a5f92b0b39bd815e99b5339e5d9feccd7ce1e3beca7c9b85", func := "quire/quirelaw6.IdsTurns", spec := "idsTurns", unfollowed := true, recurses := true, apart := false, narrowed := true }
def IdsTurnsUptoSaid : Prop := idsTurnsUptoRow.holds Try.pinned (OpenSpec.upto idsTurnsSpec)

/-- 'quirelaw6.IdsJoinTurns', WHERE WHAT IT READS IS OF BULK AT MOST 1048576: true; the input reads as it did. -/
def idsJoinTurnsUptoRow : OpenClaim := { program := "ytccgiabihagjoaa", sum := "38c455cc35e4edb0a5f92b0b39bd815e99b5339e5d9feccd7ce1e3beca7c9b85", func := "quire/quirelaw6.IdsJoinTurns", spec := "idsJoinTurns", unfollowed := true, recurses := true, apart := false, narrowed := true }
def IdsJoinTurnsUptoSaid : Prop := idsJoinTurnsUptoRow.holds Try.pinned (OpenSpec.upto idsJoinTurnsSpec)

end Rows
end Go.Proofs.Ytccgiabihagjoaa
