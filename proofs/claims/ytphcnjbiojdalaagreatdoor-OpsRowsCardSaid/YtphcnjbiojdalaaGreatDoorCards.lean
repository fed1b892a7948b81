/-
  DERIVED. GIVEN WITH THE SEED: THE CARDS: each row of YtphcnjbiojdalaaGreatDoorRows.lean that lists a variable, with what it lists TIED to the program's text (the seventh form; the later family's looks); each row that meets fmt, with fmt's text TOLD by the authors' own Lean function (tested against real Go, not proved from fmt's source: count such statements apart). THE CARD IS WHAT COUNTS. Prove the row's statement (the work); the ties are given (YtphcnjbiojdalaaGreatDoorTie.lean); close each card by the builder's one call (the guide's Derived/Test/ToyasCard.lean, 'card_holds'). Laid BY PROGRAM, IN A SANDBOX (cutbox-door.mjs). By AI agents, Wed Nov 11 2026. No macro, syntax, notation, axiom, sorry.
-/
import Derived.Test.YtphcnjbiojdalaaGreatDoorRows
import GoSem.ClaimSeven
namespace Go.Proofs.YtphcnjbiojdalaaGreatDoor
namespace Rows

/-- THE TIED CARD OF 'quirelaw8.OpsCheck'. -/
def opsCheckCard : Claim7 := { stood := { row := opsCheckRow, standIns := [], harness := (true, "84f1484d8ecc063634e93938422862a046b937a247e2fc90832b4b94dd87ef08"), looks := false }, kinds := [], alts := [], laidByText := true, laidKinds := [.data, .pinned], laidTests := true, laidLooks := .later }
def OpsCheckCardSaid : Prop := Claim7.holds Tryz.pinned (.plain (OpenSpec.ofChange opsCheckSpec)) opsCheckCard

/-- THE TIED CARD OF 'quirelaw8.OpsCut'. -/
def opsCutCard : Claim7 := { stood := { row := opsCutRow, standIns := [], harness := (true, "84f1484d8ecc063634e93938422862a046b937a247e2fc90832b4b94dd87ef08"), looks := false }, kinds := [], alts := [], laidByText := true, laidKinds := [.data, .pinned], laidTests := true, laidLooks := .later }
def OpsCutCardSaid : Prop := Claim7.holds Tryz.pinned (.plain (OpenSpec.ofChange opsCutSpec)) opsCutCard

/-- THE TIED CARD OF 'quirelaw8.OpsNeeds'. -/
def opsNeedsCard : Claim7 := { stood := { row := opsNeedsRow, standIns := [], harness := (true, "84f1484d8ecc063634e93938422862a046b937a247e2fc90832b4b94dd87ef08"), looks := false }, kinds := [], alts := [], laidByText := true, laidKinds := [.data, .pinned], laidTests := true, laidLooks := .later }
def OpsNeedsCardSaid : Prop := Claim7.holds Tryz.pinned (.plain (OpenSpec.ofChange opsNeedsSpec)) opsNeedsCard

/-- THE TIED CARD OF 'quirelaw8.OpsJoin'. -/
def opsJoinCard : Claim7 := { stood := { row := opsJoinRow, standIns := [], harness := (true, "84f1484d8ecc063634e93938422862a046b937a247e2fc90832b4b94dd87ef08"), looks := false }, kinds := [], alts := [], laidByText := true, laidKinds := [.data, .pinned], laidTests := true, laidLooks := .later }
def OpsJoinCardSaid : Prop := Claim7.holds Tryz.pinned (.plain (OpenSpec.ofChange opsJoinSpec)) opsJoinCard

/-- THE TIED CARD OF 'quirelaw8.OpsPieces'. -/
def opsPiecesCard : Claim7 := { stood := { row := opsPiecesRow, standIns := [], harness := (true, "84f1484d8ecc063634e93938422862a046b937a247e2fc90832b4b94dd87ef08"), looks := false }, kinds := [], alts := [], laidByText := true, laidKinds := [.data, .pinned], laidTests := true, laidLooks := .later }
def OpsPiecesCardSaid : Prop := Claim7.holds Tryz.pinned (.plain (OpenSpec.ofChange opsPiecesSpec)) opsPiecesCard

/-- THE TIED CARD OF 'quirelaw8.OpsRows'. -/
def opsRowsCard : Claim7 := { stood := { row := opsRowsRow, standIns := [], harness := (true, "84f1484d8ecc063634e93938422862a046b937a247e2fc90832b4b94dd87ef08"), looks := false }, kinds := [], alts := [], laidByText := true, laidKinds := [.data, .pinned], laidTests := true, laidLooks := .later }
def OpsRowsCardSaid : Prop := Claim7.holds Tryz.pinned (.plain (OpenSpec.ofChange opsRowsSpec)) opsRowsCard

/-- THE SECOND FORM's CARD OF 'quirelaw8.OpsCheck'. -/
def opsCheckUptoCard : Claim7 := { stood := { row := opsCheckUptoRow, standIns := [], harness := (true, "84f1484d8ecc063634e93938422862a046b937a247e2fc90832b4b94dd87ef08"), looks := false }, kinds := [], alts := [], laidByText := true, laidKinds := [.data, .pinned], laidTests := true, laidLooks := .later }
def OpsCheckUptoCardSaid : Prop := Claim7.holds Tryz.pinned (.plain (OpenSpec.upto opsCheckSpec)) opsCheckUptoCard

/-- THE SECOND FORM's CARD OF 'quirelaw8.OpsCut'. -/
def opsCutUptoCard : Claim7 := { stood := { row := opsCutUptoRow, standIns := [], harness := (true, "84f1484d8ecc063634e93938422862a046b937a247e2fc90832b4b94dd87ef08"), looks := false }, kinds := [], alts := [], laidByText := true, laidKinds := [.data, .pinned], laidTests := true, laidLooks := .later }
def OpsCutUptoCardSaid : Prop := Claim7.holds Tryz.pinned (.plain (OpenSpec.upto opsCutSpec)) opsCutUptoCard

/-- THE SECOND FORM's CARD OF 'quirelaw8.OpsNeeds'. -/
def opsNeedsUptoCard : Claim7 := { stood := { row := opsNeedsUptoRow, standIns := [], harness := (true, "84f1484d8ecc063634e93938422862a046b937a247e2fc90832b4b94dd87ef08"), looks := false }, kinds := [], alts := [], laidByText := true, laidKinds := [.data, .pinned], laidTests := true, laidLooks := .later }
def OpsNeedsUptoCardSaid : Prop := Claim7.holds Tryz.pinned (.plain (OpenSpec.upto opsNeedsSpec)) opsNeedsUptoCard

/-- THE SECOND FORM's CARD OF 'quirelaw8.OpsJoin'. -/
def opsJoinUptoCard : Claim7 := { stood := { row := opsJoinUptoRow, standIns := [], harness := (true, "84f1484d8ecc063634e93938422862a046b937a247e2fc90832b4b94dd87ef08"), looks := false }, kinds := [], alts := [], laidByText := true, laidKinds := [.data, .pinned], laidTests := true, laidLooks := .later }
def OpsJoinUptoCardSaid : Prop := Claim7.holds Tryz.pinned (.plain (OpenSpec.upto opsJoinSpec)) opsJoinUptoCard

/-- THE SECOND FORM's CARD OF 'quirelaw8.OpsPieces'. -/
def opsPiecesUptoCard : Claim7 := { stood := { row := opsPiecesUptoRow, standIns := [], harness := (true, "84f1484d8ecc063634e93938422862a046b937a247e2fc90832b4b94dd87ef08"), looks := false }, kinds := [], alts := [], laidByText := true, laidKinds := [.data, .pinned], laidTests := true, laidLooks := .later }
def OpsPiecesUptoCardSaid : Prop := Claim7.holds Tryz.pinned (.plain (OpenSpec.upto opsPiecesSpec)) opsPiecesUptoCard

/-- THE SECOND FORM's CARD OF 'quirelaw8.OpsRows'. -/
def opsRowsUptoCard : Claim7 := { stood := { row := opsRowsUptoRow, standIns := [], harness := (true, "84f1484d8ecc063634e93938422862a046b937a247e2fc90832b4b94dd87ef08"), looks := false }, kinds := [], alts := [], laidByText := true, laidKinds := [.data, .pinned], laidTests := true, laidLooks := .later }
def OpsRowsUptoCardSaid : Prop := Claim7.holds Tryz.pinned (.plain (OpenSpec.upto opsRowsSpec)) opsRowsUptoCard
end Rows
end Go.Proofs.YtphcnjbiojdalaaGreatDoor
