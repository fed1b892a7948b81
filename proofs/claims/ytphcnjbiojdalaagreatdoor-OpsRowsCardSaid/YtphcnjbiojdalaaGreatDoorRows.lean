/-
  NARROWER THAN 'FOR EVERY INPUT', by the rows' own cells (each row's printed sentence says how): OpsCheck: laid · OpsCut: laid · OpsNeeds: laid · OpsJoin: laid · OpsPieces: laid · OpsRows: laid.
  DERIVED. THE GIVEN ROWS OF THIS SEAT. 6 by the template 'for every input the law returns true; each argument reads behind the call as it read before'; 0 by the template 'total and deterministic' (their statements: YtphcnjbiojdalaaGreatDoorTotals.lean).
  GIVEN WITH THE SEED: the statements are not yours to turn. If you find one false, say at which input.
  Laid BY PROGRAM, IN A SANDBOX (cutbox-rows.mjs): the forced cells as the released guide's own fill.sh prints them over the translation 52255d49855910e5… (all of the seat's roots in one cut). By AI agents, Wed Nov 11 2026. No macro, syntax, notation, axiom, sorry.
-/
import Derived.Test.YtphcnjbiojdalaaGreatDoorChecked
import GoSem.PinnedTables
import GoSem.Claim
import GoSem.ClaimJoined
import GoSem.ClaimMapViews
import Derived.JoinedTies
import Derived.KernelRfl
namespace Go.Proofs.YtphcnjbiojdalaaGreatDoor
/- THE CELL 'sum', in the pinned program and in every row, IS THE sha256 OF THE DUMP (.gsa) THAT YtphcnjbiojdalaaGreatDoorProg.lean LOADS. Nothing in Lean hashes anything: it is a label: what it is worth is what the hold of that sum in a sandbox is worth. -/
noncomputable def Tryz.pinned : Pinned := { name := "ytphcnjbiojdalaagreatdoor", sum := "52255d49855910e5d6858e4b73a355b2d56076cf20282ec7ce40297a31d5fe21", checked := Tryz.checked }
namespace Rows
def none {H : Type} : Left H := { results := [], args := [] }

/- WHAT THE LISTED PACKAGE-LEVEL VARIABLES READ AS WHEN THE CALL BEGINS. Each datum BY PROGRAM (the guide's laid-datum.mjs) off the statement by which the dump's own 'gosem.cut.vars' lays the variable. In a bare row this is a premise. The card (YtphcnjbiojdalaaGreatDoorCards.lean) ties it to the program's text. -/
def laid_unicode_utf8_acceptRanges {H : Type} : DataW H := .agg [.agg [.lit (.int .u8 128), .lit (.int .u8 191)], .agg [.lit (.int .u8 160), .lit (.int .u8 191)], .agg [.lit (.int .u8 128), .lit (.int .u8 159)], .agg [.lit (.int .u8 144), .lit (.int .u8 191)], .agg [.lit (.int .u8 128), .lit (.int .u8 143)], .agg [.lit (.int .u8 0), .lit (.int .u8 0)], .agg [.lit (.int .u8 0), .lit (.int .u8 0)], .agg [.lit (.int .u8 0), .lit (.int .u8 0)], .agg [.lit (.int .u8 0), .lit (.int .u8 0)], .agg [.lit (.int .u8 0), .lit (.int .u8 0)], .agg [.lit (.int .u8 0), .lit (.int .u8 0)], .agg [.lit (.int .u8 0), .lit (.int .u8 0)], .agg [.lit (.int .u8 0), .lit (.int .u8 0)], .agg [.lit (.int .u8 0), .lit (.int .u8 0)], .agg [.lit (.int .u8 0), .lit (.int .u8 0)], .agg [.lit (.int .u8 0), .lit (.int .u8 0)]]
/-- One of Go's own tables, pinned by name: the form's constant. -/
def laid_unicode_utf8_first : DataW Unit := Go.Pinned.utf8First

/-- 'quirelaw8.OpsCheck': WHATEVER THE INPUT: true; the input reads as it did. -/
def opsCheckSpec : ChangeSpec := { name := "opsCheck", fn := fun _ => fun
  | [d] => { results := [.lit (.bool true)], args := [d] }
  | _ => none }
def opsCheckRow : OpenClaim := { program := "ytphcnjbiojdalaagreatdoor", sum := "52255d49855910e5d6858e4b73a355b2d56076cf20282ec7ce40297a31d5fe21", func := "quire/quirelaw8.OpsCheck", spec := "opsCheck", inPlace := ["math.Float64frombits", "math.Float64bits", "internal/abi.NoEscape"], unfollowed := true, recurses := true, named := ["unicode/utf8.first", "unicode/utf8.acceptRanges"], apart := false, laid := [("unicode/utf8.acceptRanges", laid_unicode_utf8_acceptRanges), ("unicode/utf8.first", laid_unicode_utf8_first)] }
def OpsCheckSaid : Prop := opsCheckRow.holds Tryz.pinned (OpenSpec.ofChange opsCheckSpec)

/-- ITS FALSE NEIGHBOUR: 'it returns false'. Refute it at one input. -/
def opsCheckWrong : ChangeSpec := { name := "opsCheck", fn := fun _ => fun
  | [d] => { results := [.lit (.bool false)], args := [d] }
  | _ => none }
def OpsCheckWrongFalsely : Prop := opsCheckRow.holds Tryz.pinned (OpenSpec.ofChange opsCheckWrong)

/-- 'quirelaw8.OpsCut': WHATEVER THE INPUT: true; the input reads as it did. -/
def opsCutSpec : ChangeSpec := { name := "opsCut", fn := fun _ => fun
  | [d1, d2, d3, d4] => { results := [.lit (.bool true)], args := [d1, d2, d3, d4] }
  | _ => none }
def opsCutRow : OpenClaim := { program := "ytphcnjbiojdalaagreatdoor", sum := "52255d49855910e5d6858e4b73a355b2d56076cf20282ec7ce40297a31d5fe21", func := "quire/quirelaw8.OpsCut", spec := "opsCut", inPlace := ["math.Float64frombits", "math.Float64bits", "internal/abi.NoEscape"], unfollowed := true, recurses := true, named := ["unicode/utf8.first", "unicode/utf8.acceptRanges"], apart := false, laid := [("unicode/utf8.acceptRanges", laid_unicode_utf8_acceptRanges), ("unicode/utf8.first", laid_unicode_utf8_first)] }
def OpsCutSaid : Prop := opsCutRow.holds Tryz.pinned (OpenSpec.ofChange opsCutSpec)

/-- ITS FALSE NEIGHBOUR: 'it returns false'. Refute it at one input. -/
def opsCutWrong : ChangeSpec := { name := "opsCut", fn := fun _ => fun
  | [d1, d2, d3, d4] => { results := [.lit (.bool false)], args := [d1, d2, d3, d4] }
  | _ => none }
def OpsCutWrongFalsely : Prop := opsCutRow.holds Tryz.pinned (OpenSpec.ofChange opsCutWrong)

/-- 'quirelaw8.OpsNeeds': WHATEVER THE INPUT: true; the input reads as it did. -/
def opsNeedsSpec : ChangeSpec := { name := "opsNeeds", fn := fun _ => fun
  | [d1, d2] => { results := [.lit (.bool true)], args := [d1, d2] }
  | _ => none }
def opsNeedsRow : OpenClaim := { program := "ytphcnjbiojdalaagreatdoor", sum := "52255d49855910e5d6858e4b73a355b2d56076cf20282ec7ce40297a31d5fe21", func := "quire/quirelaw8.OpsNeeds", spec := "opsNeeds", inPlace := ["math.Float64frombits", "math.Float64bits", "internal/abi.NoEscape"], unfollowed := true, recurses := true, named := ["unicode/utf8.first", "unicode/utf8.acceptRanges"], apart := false, laid := [("unicode/utf8.acceptRanges", laid_unicode_utf8_acceptRanges), ("unicode/utf8.first", laid_unicode_utf8_first)] }
def OpsNeedsSaid : Prop := opsNeedsRow.holds Tryz.pinned (OpenSpec.ofChange opsNeedsSpec)

/-- ITS FALSE NEIGHBOUR: 'it returns false'. Refute it at one input. -/
def opsNeedsWrong : ChangeSpec := { name := "opsNeeds", fn := fun _ => fun
  | [d1, d2] => { results := [.lit (.bool false)], args := [d1, d2] }
  | _ => none }
def OpsNeedsWrongFalsely : Prop := opsNeedsRow.holds Tryz.pinned (OpenSpec.ofChange opsNeedsWrong)

/-- 'quirelaw8.OpsJoin': WHATEVER THE INPUT: true; the input reads as it did. -/
def opsJoinSpec : ChangeSpec := { name := "opsJoin", fn := fun _ => fun
  | [d] => { results := [.lit (.bool true)], args := [d] }
  | _ => none }
def opsJoinRow : OpenClaim := { program := "ytphcnjbiojdalaagreatdoor", sum := "52255d49855910e5d6858e4b73a355b2d56076cf20282ec7ce40297a31d5fe21", func := "quire/quirelaw8.OpsJoin", spec := "opsJoin", inPlace := ["math.Float64frombits", "math.Float64bits", "internal/abi.NoEscape"], unfollowed := true, recurses := true, named := ["unicode/utf8.first", "unicode/utf8.acceptRanges"], apart := false, laid := [("unicode/utf8.acceptRanges", laid_unicode_utf8_acceptRanges), ("unicode/utf8.first", laid_unicode_utf8_first)] }
def OpsJoinSaid : Prop := opsJoinRow.holds Tryz.pinned (OpenSpec.ofChange opsJoinSpec)

/-- ITS FALSE NEIGHBOUR: 'it returns false'. Refute it at one input. -/
def opsJoinWrong : ChangeSpec := { name := "opsJoin", fn := fun _ => fun
  | [d] => { results := [.lit (.bool false)], args := [d] }
  | _ => none }
def OpsJoinWrongFalsely : Prop := opsJoinRow.holds Tryz.pinned (OpenSpec.ofChange opsJoinWrong)

/-- 'quirelaw8.OpsPieces': WHATEVER THE INPUT: true; the input reads as it did. -/
def opsPiecesSpec : ChangeSpec := { name := "opsPieces", fn := fun _ => fun
  | [d1, d2, d3] => { results := [.lit (.bool true)], args := [d1, d2, d3] }
  | _ => none }
def opsPiecesRow : OpenClaim := { program := "ytphcnjbiojdalaagreatdoor", sum := "52255d49855910e5d6858e4b73a355b2d56076cf20282ec7ce40297a31d5fe21", func := "quire/quirelaw8.OpsPieces", spec := "opsPieces", inPlace := ["math.Float64frombits", "math.Float64bits", "internal/abi.NoEscape"], unfollowed := true, recurses := true, named := ["unicode/utf8.first", "unicode/utf8.acceptRanges"], apart := false, laid := [("unicode/utf8.acceptRanges", laid_unicode_utf8_acceptRanges), ("unicode/utf8.first", laid_unicode_utf8_first)] }
def OpsPiecesSaid : Prop := opsPiecesRow.holds Tryz.pinned (OpenSpec.ofChange opsPiecesSpec)

/-- ITS FALSE NEIGHBOUR: 'it returns false'. Refute it at one input. -/
def opsPiecesWrong : ChangeSpec := { name := "opsPieces", fn := fun _ => fun
  | [d1, d2, d3] => { results := [.lit (.bool false)], args := [d1, d2, d3] }
  | _ => none }
def OpsPiecesWrongFalsely : Prop := opsPiecesRow.holds Tryz.pinned (OpenSpec.ofChange opsPiecesWrong)

/-- 'quirelaw8.OpsRows': WHATEVER THE INPUT: true; the input reads as it did. -/
def opsRowsSpec : ChangeSpec := { name := "opsRows", fn := fun _ => fun
  | [d1, d2, d3] => { results := [.lit (.bool true)], args := [d1, d2, d3] }
  | _ => none }
def opsRowsRow : OpenClaim := { program := "ytphcnjbiojdalaagreatdoor", sum := "52255d49855910e5d6858e4b73a355b2d56076cf20282ec7ce40297a31d5fe21", func := "quire/quirelaw8.OpsRows", spec := "opsRows", inPlace := ["math.Float64frombits", "math.Float64bits", "internal/abi.NoEscape"], unfollowed := true, recurses := true, named := ["unicode/utf8.first", "unicode/utf8.acceptRanges"], apart := false, laid := [("unicode/utf8.acceptRanges", laid_unicode_utf8_acceptRanges), ("unicode/utf8.first", laid_unicode_utf8_first)] }
def OpsRowsSaid : Prop := opsRowsRow.holds Tryz.pinned (OpenSpec.ofChange opsRowsSpec)

/-- ITS FALSE NEIGHBOUR: 'it returns false'. Refute it at one input. -/
def opsRowsWrong : ChangeSpec := { name := "opsRows", fn := fun _ => fun
  | [d1, d2, d3] => { results := [.lit (.bool false)], args := [d1, d2, d3] }
  | _ => none }
def OpsRowsWrongFalsely : Prop := opsRowsRow.holds Tryz.pinned (OpenSpec.ofChange opsRowsWrong)

/- THE SECOND FORM. 'bulk': how many values and letters a reading holds, each counted each time it is reached (what is shared counts as often as it is met; a slice's spare places count too). A statement '..UptoSaid' is the law's where the arguments, and the package variables that the reading takes, are together of bulk at most 1048576: NARROWER than '..Said'. Prove '..Said' where nothing that the law and all that it calls make is longer than what came in: it says more and counts as full. Else prove '..UptoSaid'. A law counts once. -/
mutual
def uptoBulk {H : Type} : DataW H → Nat
  | .lit (.string bytes) => bytes.length + 1
  | .lit _ => 1
  | .nil => 1
  | .ptr d => uptoBulk d + 1
  | .slice elems spare => uptoBulkAll elems + uptoBulkAll spare + 1
  | .agg parts => uptoBulkAll parts + 1
  | .iface _ d => uptoBulk d + 1
  | .map entries => uptoBulkEntries entries + 1
  | .held _ => 1
def uptoBulkAll {H : Type} : List (DataW H) → Nat
  | [] => 0
  | d :: r => uptoBulk d + uptoBulkAll r
def uptoBulkEntries {H : Type} : List (Lit × DataW H) → Nat
  | [] => 0
  | x :: r => uptoBulkEntry x + uptoBulkEntries r
def uptoBulkEntry {H : Type} : Lit × DataW H → Nat
  | (.string bytes, d) => bytes.length + uptoBulk d + 1
  | (_, d) => uptoBulk d + 1
 end
def uptoSmall : (H : Type) → List (DataW H) → Bool := fun _ ds => decide (uptoBulkAll ds ≤ 1048576)
def OpenSpec.upto (s : _root_.Go.ChangeSpec) : _root_.Go.OpenSpec := { _root_.Go.OpenSpec.ofChange s with cond := some uptoSmall }

/-- 'quirelaw8.OpsCheck', WHERE WHAT IT READS IS OF BULK AT MOST 1048576: true; the input reads as it did. -/
def opsCheckUptoRow : OpenClaim := { program := "ytphcnjbiojdalaagreatdoor", sum := "52255d49855910e5d6858e4b73a355b2d56076cf20282ec7ce40297a31d5fe21", func := "quire/quirelaw8.OpsCheck", spec := "opsCheck", inPlace := ["math.Float64frombits", "math.Float64bits", "internal/abi.NoEscape"], unfollowed := true, recurses := true, named := ["unicode/utf8.first", "unicode/utf8.acceptRanges"], apart := false, laid := [("unicode/utf8.acceptRanges", laid_unicode_utf8_acceptRanges), ("unicode/utf8.first", laid_unicode_utf8_first)], narrowed := true }
def OpsCheckUptoSaid : Prop := opsCheckUptoRow.holds Tryz.pinned (OpenSpec.upto opsCheckSpec)

/-- 'quirelaw8.OpsCut', WHERE WHAT IT READS IS OF BULK AT MOST 1048576: true; the input reads as it did. -/
def opsCutUptoRow : OpenClaim := { program := "ytphcnjbiojdalaagreatdoor", sum := "52255d49855910e5d6858e4b73a355b2d56076cf20282ec7ce40297a31d5fe21", func := "quire/quirelaw8.OpsCut", spec := "opsCut", inPlace := ["math.Float64frombits", "math.Float64bits", "internal/abi.NoEscape"], unfollowed := true, recurses := true, named := ["unicode/utf8.first", "unicode/utf8.acceptRanges"], apart := false, laid := [("unicode/utf8.acceptRanges", laid_unicode_utf8_acceptRanges), ("unicode/utf8.first", laid_unicode_utf8_first)], narrowed := true }
def OpsCutUptoSaid : Prop := opsCutUptoRow.holds Tryz.pinned (OpenSpec.upto opsCutSpec)

/-- 'quirelaw8.OpsNeeds', WHERE WHAT IT READS IS OF BULK AT MOST 1048576: true; the input reads as it did. -/
def opsNeedsUptoRow : OpenClaim := { program := "ytphcnjbiojdalaagreatdoor", sum := "52255d49855910e5d6858e4b73a355b2d56076cf20282ec7ce40297a31d5fe21", func := "quire/quirelaw8.OpsNeeds", spec := "opsNeeds", inPlace := ["math.Float64frombits", "math.Float64bits", "internal/abi.NoEscape"], unfollowed := true, recurses := true, named := ["unicode/utf8.first", "unicode/utf8.acceptRanges"], apart := false, laid := [("unicode/utf8.acceptRanges", laid_unicode_utf8_acceptRanges), ("unicode/utf8.first", laid_unicode_utf8_first)], narrowed := true }
def OpsNeedsUptoSaid : Prop := opsNeedsUptoRow.holds Tryz.pinned (OpenSpec.upto opsNeedsSpec)

/-- 'quirelaw8.OpsJoin', WHERE WHAT IT READS IS OF BULK AT MOST 1048576: true; the input reads as it did. -/
def opsJoinUptoRow : OpenClaim := { program := "ytphcnjbiojdalaagreatdoor", sum := "52255d49855910e5d6858e4b73a355b2d56076cf20282ec7ce40297a31d5fe21", func := "quire/quirelaw8.OpsJoin", spec := "opsJoin", inPlace := ["math.Float64frombits", "math.Float64bits", "internal/abi.NoEscape"], unfollowed := true, recurses := true, named := ["unicode/utf8.first", "unicode/utf8.acceptRanges"], apart := false, laid := [("unicode/utf8.acceptRanges", laid_unicode_utf8_acceptRanges), ("unicode/utf8.first", laid_unicode_utf8_first)], narrowed := true }
def OpsJoinUptoSaid : Prop := opsJoinUptoRow.holds Tryz.pinned (OpenSpec.upto opsJoinSpec)

/-- 'quirelaw8.OpsPieces', WHERE WHAT IT READS IS OF BULK AT MOST 1048576: true; the input reads as it did. -/
def opsPiecesUptoRow : OpenClaim := { program := "ytphcnjbiojdalaagreatdoor", sum := "52255d49855910e5d6858e4b73a355b2d56076cf20282ec7ce40297a31d5fe21", func := "quire/quirelaw8.OpsPieces", spec := "opsPieces", inPlace := ["math.Float64frombits", "math.Float64bits", "internal/abi.NoEscape"], unfollowed := true, recurses := true, named := ["unicode/utf8.first", "unicode/utf8.acceptRanges"], apart := false, laid := [("unicode/utf8.acceptRanges", laid_unicode_utf8_acceptRanges), ("unicode/utf8.first", laid_unicode_utf8_first)], narrowed := true }
def OpsPiecesUptoSaid : Prop := opsPiecesUptoRow.holds Tryz.pinned (OpenSpec.upto opsPiecesSpec)

/-- 'quirelaw8.OpsRows', WHERE WHAT IT READS IS OF BULK AT MOST 1048576: true; the input reads as it did. -/
def opsRowsUptoRow : OpenClaim := { program := "ytphcnjbiojdalaagreatdoor", sum := "52255d49855910e5d6858e4b73a355b2d56076cf20282ec7ce40297a31d5fe21", func := "quire/quirelaw8.OpsRows", spec := "opsRows", inPlace := ["math.Float64frombits", "math.Float64bits", "internal/abi.NoEscape"], unfollowed := true, recurses := true, named := ["unicode/utf8.first", "unicode/utf8.acceptRanges"], apart := false, laid := [("unicode/utf8.acceptRanges", laid_unicode_utf8_acceptRanges), ("unicode/utf8.first", laid_unicode_utf8_first)], narrowed := true }
def OpsRowsUptoSaid : Prop := opsRowsUptoRow.holds Tryz.pinned (OpenSpec.upto opsRowsSpec)

end Rows
end Go.Proofs.YtphcnjbiojdalaaGreatDoor
